/- A chain copied by append onto nothing; a chain's cell appended to a row of chains. -/
import Derived.Test.YtlfcjhiojbcijaaStKids
import Derived.Test.YtlfcjhiojbcijaaStCopy
import Derived.Deep.AppendSrc
import Derived.Deep.Upon
namespace Go.Proofs.Ytlfcjhiojbcijaa.G
open Go.ChangeShapes Go.WideShapes Go.ChangeAt Go.RowKit
set_option linter.unusedVariables false

theorem app_fresh (l : List Ve) (a g : Option Addr) (c : Nat) (W : World) (hr : VeRow 0 W.heap.size W a l) (hl : l.length ≤ 1048576) :
    ∃ a' c' W', (Builtin.append_ #[78, 78] 78 #[.slice g 0 0, .slice a l.length c]).run Try.prog W = .ok (.slice a' l.length c') W' ∧ l.length ≤ c' ∧ (l = [] ∨ (a' = some ⟨W.heap.size, 0, none⟩ ∧ VeBlk W' W.heap.size l)) ∧ Below W.heap.size W W' := by
  obtain ⟨i, hi, hz, hsz, hby⟩ := info_Ve
  have ht := Try.underlying78
  by_cases h0 : l = []
  · subst h0
    have hsrc : Src Try.prog i.size 78 (.slice a 0 c) 0 [] W := by
      cases a
      · exact Src.ofNil W ht c
      · exact Src.ofSlice W ht _ 0 c [] (by simp) (by simp) (by simp)
    exact ⟨g, 0, W, run_append_nothing (P := Try.prog) W _ _ _ _ i ht hi g 0 0 (Nat.le_refl _) _ hsrc, Nat.zero_le _, .inl rfl, Below.refl _ _⟩
  · rcases hr with h | ⟨b, o, rfl, _, hb, hx⟩
    · exact absurd h h0
    have hlen := veCells_len l
    have hpos : 0 < l.length := List.length_pos_iff.2 h0
    have hsrc : Src Try.prog i.size 78 (.slice (some ⟨b, o, none⟩) l.length c) l.length (veCells l) W := Src.ofSlice W ht _ _ c _ (by rw [hsz]; exact hlen) (veCells_src hx) (veCells_one l)
    have hold : (Builtin.firstCells i.size 0 (.slice g 0 0)).run Try.prog W.drew = .ok ([] : List Value).toArray W.drew := by
      cases g with
      | none => exact run_firstCells_none W.drew i.size 0 0 0
      | some g => exact run_firstCells_some W.drew i.size 0 g 0 0 [] (by simp) (by simp)
    have hrun := run_append_grow_src (P := Try.prog) W 78 78 78 92 i _ ht hi hz g 0 0 [] hold _ l.length (veCells l) hsrc (by omega) (by omega) (growslice_fits (by omega) (by rw [hby]; omega))
    simp only [Nat.zero_add, List.nil_append] at hrun
    refine ⟨_, _, _, hrun, grownCap_ge _ _ _ _, .inr ⟨rfl, ?_⟩, ((Below.refl _ _).drew).alloc (Nat.le_refl _) _⟩
    refine ⟨_, heap_alloc_new W.drew _, by simp [hlen], fun j x hx => ?_⟩
    obtain ⟨g0, g1⟩ := veCells_at l j x hx
    have hj := (List.getElem?_eq_some_iff.1 hx).1
    refine ⟨?_, ?_⟩
    · rw [Array.getElem?_append_left (by simp [hlen]; omega)]; simpa using g0
    · rw [Array.getElem?_append_left (by simp [hlen]; omega)]; simpa using g1
theorem app_row (k : Nat) (v u : Value) (vs : List Value) (base h : Nat) (W : World) (ho : W.ownsRow base 78 1 v k vs) (hu : W.heap[h]? = some (.cells #[u] 78 (0, 0))) (h1 : u.oneCell' = true) (hk : k ≤ 1048576) (hb : base ≤ W.heap.size) :
    ∃ g cap W', (Builtin.append_ #[36, 36] 36 #[v, .slice (some ⟨h, 0, none⟩) 1 1]).run Try.prog W = .ok (.slice (some ⟨g, 0, none⟩) (k + 1) cap) W' ∧ W'.ownsRow base 78 1 (.slice (some ⟨g, 0, none⟩) (k + 1) cap) (k + 1) (vs ++ [u]) ∧ W.grownBy W' v.ownBlock ∧ (v.ownBlock = some g ∨ g = W.heap.size) ∧ g < W'.heap.size := by
  obtain ⟨i, hi, hz, hsz, hby⟩ := info_Ch
  exact run_append_lies (P := Try.prog) W 36 36 base 78 i _ 1 24 Try.underlying36 hi hz hsz hby rfl (by decide) v k vs ho ⟨h, 0, none⟩ 1 1 [u] rfl (fun j x hx => by
    have hj : j = 0 := by have := (List.getElem?_eq_some_iff.1 hx).1; simpa using this
    subst hj
    simp only [List.getElem?_cons_zero, Option.some.injEq] at hx
    subst hx
    rw [add_plain]
    exact row_cell hu 0) (fun x hx => by rw [List.mem_singleton.1 hx]; exact h1) (by omega) (by unfold maxLen; omega) (by omega) hb W.heap.size rfl
theorem wp_append_run {P : Program} {o : Oper} {a : Act} {K : Act → World → Prop} {Q : Exit → Act → World → Prop} {w : World} (s x : Operand) (t : TypeId)
    (ho : o.op = .call { callee := .builtin .append, args := #[s, x], argTypes := #[t, t] }) (sv xv rv : Value) (w' : World) (hs : a.eval s = sv) (hx : a.eval x = xv)
    (hr : (Builtin.append_ #[t, t] o.type #[sv, xv]).run P w = .ok rv w') (h : K (a.put o.dst rv) w') : o.wp P a w K Q := by
  unfold Oper.wp execOp
  simp only [ho, resolve, invoke, builtin, Sem.run_bind, Sem.run_pure, Result.andThen_ok, List.map_toArray, List.map_cons, List.map_nil, hs, hx, hr]
  exact h
end Go.Proofs.Ytlfcjhiojbcijaa.G
