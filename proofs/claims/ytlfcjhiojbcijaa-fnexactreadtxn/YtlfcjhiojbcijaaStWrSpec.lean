/- The specification's l06Write. -/
import Derived.Test.YtlfcjhiojbcijaaStWrMath
import Derived.Test.YtlfcjhiojbcijaaStOwnSpec
import Derived.Deep.CutRange
import Derived.Deep.CutBlock
namespace Go.Proofs.Ytlfcjhiojbcijaa.G
open Go.ChangeShapes Go.WideShapes Go.ChangeAt Go.RowKit
set_option linter.unusedVariables false

theorem OwnK.cells {lo : Nat} {w : World} {v : Value} {l : Chs} (h : OwnK lo w v l) (hl : 0 < l.length) : ∃ g cap cur, v = .slice (some ⟨g, 0, none⟩) l.length cap ∧ lo ≤ g ∧ w.heap[g]? = some (.cells cur 78 (0, 0)) ∧ l.length ≤ cur.size ∧ ∀ (i : Nat) (x : List Ve), l[i]? = some x → ∃ u, cur[i]? = some u ∧ KidX (some g) lo w u x := by
  obtain ⟨vs, ho, hk⟩ := h
  rcases ho.2 with ⟨_, h0⟩ | ⟨g, cap, cur, rfl, h1, h2, h3, h4, h5, h6⟩
  · omega
  · refine ⟨g, cap, cur, rfl, h1, h2, by omega, fun i x hx => ?_⟩
    obtain ⟨u, g1, g2⟩ := hk i x hx
    have hi := (List.getElem?_eq_some_iff.1 hx).1
    rw [← h6, List.getElem?_take, if_pos (by omega)] at g1
    exact ⟨u, by simpa using g1, g2⟩
theorem OwnK.below {lo : Nat} {w w' : World} {v : Value} {l : Chs} (h : OwnK lo w v l) (hb : Below w.heap.size w w') : OwnK lo w' v l := by
  obtain ⟨vs, ho, hk⟩ := h
  exact ⟨vs, own_below ho hb, hk.keep hb.size (fun k a1 a2 a3 => ⟨hb.block k a2, a3⟩)⟩
/-- One chain put in another's place, in the row itself. -/
theorem OwnK.put {lo N0 : Nat} {w W : World} {g cap : Nat} {cur : Array Value} {l : Chs} {k : Nat} {y : List Ve} {u : Value} (hw : w.heap[g]? = some (.cells cur 78 (0, 0))) (hcap : l.length ≤ cap) (hcm : cap ≤ maxLen) (hcs : cur.size = cap)
    (hk : ∀ (i : Nat) (x : List Ve), l[i]? = some x → ∃ u, cur[i]? = some u ∧ KidX (some g) lo w u x) (hg : lo ≤ g) (hgs : g < N0) (hN : N0 = w.heap.size) (hb : Below N0 w W) (hlt : k < l.length) (hu : KidX none N0 W u y) :
    OwnK lo (W.setCell ⟨g, k, none⟩ u) (.slice (some ⟨g, 0, none⟩) l.length cap) (l.set k y) := by
  have hW : W.heap[g]? = some (.cells cur 78 (0, 0)) := (hb.block g hgs).trans hw
  have hset := row_set hW k u
  have hzb := hb.size
  refine ⟨((cur.setIfInBounds k u).toList.take l.length), ⟨by simp; omega, .inr ⟨g, cap, _, by simp, hg, hset, by simpa using hcap, hcm, by simp; omega, by simp⟩⟩, fun i x hx => ?_⟩
  have hi : i < l.length := by have := (List.getElem?_eq_some_iff.1 hx).1; simpa using this
  by_cases hik : i = k
  · subst hik
    rw [List.getElem?_set_self hi] at hx
    simp only [Option.some.injEq] at hx
    subst hx
    have hc : i < cur.size := by omega
    refine ⟨u, by simp [hi, hc], ?_⟩
    obtain ⟨a, c, h1, h2, h3⟩ := hu
    refine ⟨a, c, h1, h2, ?_⟩
    rcases h3 with h3 | ⟨b, g1, g2, g3, g4, g5⟩
    · exact .inl h3
    · exact .inr ⟨b, g1, by omega, by simpa using g3, by simp only [Value.ownBlock, ne_eq, Option.some.injEq]; omega, g5.move (heap_set _ _ _ _ _ (by omega))⟩
  · rw [List.getElem?_set_ne (Ne.symm hik)] at hx
    obtain ⟨v, g1, g2⟩ := hk i x hx
    refine ⟨v, by simp [hi, Ne.symm hik]; simpa using g1, ?_⟩
    exact g2.keep (by simp; omega) (fun b a1 a2 a3 => ⟨by rw [heap_set _ _ _ _ _ (fun e => a3 (by rw [e]))]; exact hb.block b (by omega), a3⟩)
/-- A chain copied by append onto nothing, as a row that may grow. -/
theorem app_copy (l : List Ve) (a : Option Addr) (g c N0 : Nat) (W : World) (hr : VeRow 0 W.heap.size W a l) (hl : l.length ≤ 1048576) (hg : N0 ≤ g) (hh : W.heap[g]? = some (.cells #[] 92 (0, 0))) :
    ∃ v W', (Builtin.append_ #[78, 78] 78 #[.slice (some ⟨g, 0, none⟩) 0 0, .slice a l.length c]).run Try.prog W = .ok v W' ∧ W'.ownsRow N0 92 2 v l.length (veCells l) ∧ Below W.heap.size W W' := by
  obtain ⟨i, hi, hz, hsz, hby⟩ := info_Ve
  have ht := Try.underlying78
  have hgl : g < W.heap.size := (Array.getElem?_eq_some_iff.1 hh).1
  by_cases h0 : l = []
  · subst h0
    have hsrc : Src Try.prog i.size 78 (.slice a 0 c) 0 [] W := by
      cases a
      · exact Src.ofNil W ht c
      · exact Src.ofSlice W ht _ 0 c [] (by simp) (by simp) (by simp)
    exact ⟨_, W, run_append_nothing (P := Try.prog) W _ _ _ _ i ht hi _ 0 0 (Nat.le_refl _) _ hsrc, ⟨rfl, .inr ⟨g, 0, #[], rfl, hg, hh, Nat.le_refl _, Nat.zero_le _, rfl, rfl⟩⟩, Below.refl _ _⟩
  · rcases hr with h | ⟨b, o, rfl, _, hb, hx⟩
    · exact absurd h h0
    have hlen := veCells_len l
    have hpos : 0 < l.length := List.length_pos_iff.2 h0
    have hsrc : Src Try.prog i.size 78 (.slice (some ⟨b, o, none⟩) l.length c) l.length (veCells l) W := Src.ofSlice W ht _ _ c _ (by rw [hsz]; exact hlen) (veCells_src hx) (veCells_one l)
    have hold : (Builtin.firstCells i.size 0 (.slice (some ⟨g, 0, none⟩) 0 0)).run Try.prog W.drew = .ok ([] : List Value).toArray W.drew := run_firstCells_some W.drew i.size 0 _ 0 0 [] (by simp) (by simp)
    have hrun := run_append_grow_src (P := Try.prog) W 78 78 78 92 i _ ht hi hz (some ⟨g, 0, none⟩) 0 0 [] hold _ l.length (veCells l) hsrc (by omega) (by omega) (growslice_fits (by omega) (by rw [hby]; omega))
    simp only [Nat.zero_add, List.nil_append] at hrun
    have hge := grownCap_ge W l.length 0 92
    refine ⟨_, _, hrun, ⟨hlen, .inr ⟨W.heap.size, _, _, rfl, by omega, heap_alloc_new W.drew _, hge, grownCap_le_maxLen _ _ _ _ (by unfold maxLen; omega), ?_, ?_⟩⟩, ((Below.refl _ _).drew).alloc (Nat.le_refl _) _⟩
    · simp [hlen, Builtin.zeroCells, Value.cells]; omega
    · simp [hlen]
theorem app_ver (n : Nat) (xs : List Ve) (p : Ve) (v : Value) (base h : Nat) (W : World) (ho : W.ownsRow base 92 2 v xs.length (veCells xs)) (hu : W.heap[h]? = some (.cells #[.int .i64 p.ts, .int .i64 p.v] 92 (0, 0))) (hk : xs.length ≤ 1048576) (hb : base ≤ W.heap.size) :
    ∃ g cap W', (Builtin.append_ #[78, 78] 78 #[v, .slice (some ⟨h, 0, none⟩) 1 1]).run Try.prog W = .ok (.slice (some ⟨g, 0, none⟩) (xs.length + 1) cap) W' ∧ W'.ownsRow base 92 2 (.slice (some ⟨g, 0, none⟩) (xs.length + 1) cap) (xs.length + 1) (veCells (xs ++ [p])) ∧ W.grownBy W' v.ownBlock ∧ g < W'.heap.size := by
  obtain ⟨i, hi, hz, hsz, hby⟩ := info_Ve
  have e : veCells (xs ++ [p]) = veCells xs ++ [.int .i64 p.ts, .int .i64 p.v] := by simp [veCells]
  rw [e]
  obtain ⟨g, cap, W', h1, h2, h3, h4, h5⟩ := run_append_lies (P := Try.prog) W 78 78 base 92 i _ 2 16 Try.underlying78 hi hz hsz hby rfl (by decide) v xs.length (veCells xs) ho ⟨h, 0, none⟩ 1 1 [.int .i64 p.ts, .int .i64 p.v] rfl (fun j x hx => by
    rw [add_plain]
    match j, hx with
    | 0, hx => simp only [List.getElem?_cons_zero, Option.some.injEq] at hx; subst hx; exact row_cell hu 0
    | 1, hx => simp only [List.getElem?_cons_succ, List.getElem?_cons_zero, Option.some.injEq] at hx; subst hx; exact row_cell hu 1) (fun x hx => by
      simp only [List.mem_cons, List.not_mem_nil, or_false] at hx
      rcases hx with rfl | rfl <;> rfl) (by omega) (by unfold maxLen; omega) (by omega) hb W.heap.size rfl
  exact ⟨g, cap, W', h1, h2, h3, h5⟩
theorem kid_of {base : Nat} {w : World} {v : Value} {x : List Ve} (h : w.ownsRow base 92 2 v x.length (veCells x)) (hne : 0 < x.length) : KidX none base w v x := by
  rcases h.2 with ⟨_, h0⟩ | ⟨g, cap, cur, rfl, h1, h2, h3, h4, h5, h6⟩
  · omega
  · refine ⟨_, cap, rfl, h3, .inr ⟨g, rfl, h1, (Array.getElem?_eq_some_iff.1 h2).1, by simp, cur, h2, by omega, fun i y hy => ?_⟩⟩
    obtain ⟨g0, g1⟩ := veCells_at x i y hy
    have hi := (List.getElem?_eq_some_iff.1 hy).1
    rw [← h6, List.getElem?_take, if_pos (by omega)] at g0 g1
    exact ⟨by simpa using g0, by simpa using g1⟩
end Go.Proofs.Ytlfcjhiojbcijaa.G
