/- Lists of answers' values that grow by append: their own lists lie in blocks of their own. -/
import Derived.Test.YtlliimlhdpbgdaaGreatDoorOuOwn
import Derived.Test.YtlliimlhdpbgdaaGreatDoorGRegionFive
import Derived.Deep.AppendLies
import Derived.Deep.AppendSrc
import Derived.Deep.Upon
namespace Go.Proofs.YtlliimlhdpbgdaaGreatDoor.G
open Go.ChangeShapes Go.WideShapes Go.ChangeAt Go.RowKit
set_option linter.unusedVariables false

theorem wp_append_run {P : Program} {o : Oper} {a : Act} {K : Act → World → Prop} {Q : Exit → Act → World → Prop} {w : World} (s x : Operand) (t : TypeId)
    (ho : o.op = .call { callee := .builtin .append, args := #[s, x], argTypes := #[t, t] }) (sv xv rv : Value) (w' : World) (hs : a.eval s = sv) (hx : a.eval x = xv)
    (hr : (Builtin.append_ #[t, t] o.type #[sv, xv]).run P w = .ok rv w') (h : K (a.put o.dst rv) w') : o.wp P a w K Q := by
  unfold Oper.wp execOp
  simp only [ho, resolve, invoke, builtin, Sem.run_bind, Sem.run_pure, Result.andThen_ok, List.map_toArray, List.map_cons, List.map_nil, hs, hx, hr]
  exact h
/-- Texts copied by append onto nothing. -/
theorem app_keys (l : List ByteArray) (a g : Option Addr) (c : Nat) (W : World) (hr : KeRow 0 W.heap.size W a l) (hl : l.length ≤ 1048576) :
    ∃ a' c' W', (Builtin.append_ #[23, 23] 23 #[.slice g 0 0, .slice a l.length c]).run Tryz.prog W = .ok (.slice a' l.length c') W' ∧ l.length ≤ c' ∧ KeOwn W.heap.size W'.heap.size W' a' l ∧ Below W.heap.size W W' := by
  obtain ⟨i, hi, hz, hsz, hby⟩ := info_str
  have ht := Tryz.underlying23
  by_cases h0 : l = []
  · subst h0
    have hsrc : Src Tryz.prog i.size 23 (.slice a 0 c) 0 [] W := by
      cases a
      · exact Src.ofNil W ht c
      · exact Src.ofSlice W ht _ 0 c [] (by simp) (by simp) (by simp)
    exact ⟨g, 0, W, run_append_nothing (P := Tryz.prog) W _ _ _ _ i ht hi g 0 0 (Nat.le_refl _) _ hsrc, Nat.zero_le _, .inl rfl, Below.refl _ _⟩
  · rcases hr with h | ⟨b, o, rfl, _, hb, hx⟩
    · exact absurd h h0
    have hpos : 0 < l.length := List.length_pos_iff.2 h0
    have hcl : (l.map Value.string).length = l.length := by simp
    have hsrc : Src Tryz.prog i.size 23 (.slice (some ⟨b, o, none⟩) l.length c) l.length (l.map Value.string) W := Src.ofSlice W ht _ _ c _ (by rw [hsz]; simp) (fun j u hu => by
      rw [List.getElem?_map] at hu
      obtain ⟨x, hx1, rfl⟩ := Option.map_eq_some_iff.1 hu
      rw [add_plain]
      have := hx j x hx1
      rwa [Nat.mul_one] at this) (fun u hu => by
      obtain ⟨x, _, rfl⟩ := List.mem_map.1 hu
      rfl)
    have hold : (Builtin.firstCells i.size 0 (.slice g 0 0)).run Tryz.prog W.drew = .ok ([] : List Value).toArray W.drew := by
      cases g with
      | none => exact run_firstCells_none W.drew i.size 0 0 0
      | some g => exact run_firstCells_some W.drew i.size 0 g 0 0 [] (by simp) (by simp)
    have hrun := run_append_grow_src (P := Tryz.prog) W 23 23 23 9 i _ ht hi hz g 0 0 [] hold _ l.length (l.map Value.string) hsrc (by omega) (by omega) (growslice_fits (by omega) (by rw [hby]; omega))
    simp only [Nat.zero_add, List.nil_append] at hrun
    refine ⟨_, _, _, hrun, grownCap_ge _ _ _ _, .inr ⟨W.heap.size, _, rfl, Nat.le_refl _, ?_, heap_alloc_new W.drew _, ?_, fun j x hx => ?_⟩, ((Below.refl _ _).drew).alloc (Nat.le_refl _) _⟩
    · simp
    · simp
    · have hj := (List.getElem?_eq_some_iff.1 hx).1
      show (_ : Array Value)[j * 1]? = _
      rw [Nat.mul_one, Array.getElem?_append_left (by simp; omega)]
      simp [hx]
/-- One value's cells appended to a list. -/
theorem app_out (k : Nat) (v x0 x1 x2 x3 x4 : Value) (vs : List Value) (base h : Nat) (W : World) (ho : W.ownsRow base 26 5 v k vs) (hu : W.heap[h]? = some (.cells #[x0, x1, x2, x3, x4] 26 (0, 0))) (h1 : ∀ u ∈ [x0, x1, x2, x3, x4], u.oneCell' = true) (hk : k ≤ 1048576) (hb : base ≤ W.heap.size) :
    ∃ g cap W', (Builtin.append_ #[24, 24] 24 #[v, .slice (some ⟨h, 0, none⟩) 1 1]).run Tryz.prog W = .ok (.slice (some ⟨g, 0, none⟩) (k + 1) cap) W' ∧ W'.ownsRow base 26 5 (.slice (some ⟨g, 0, none⟩) (k + 1) cap) (k + 1) (vs ++ [x0, x1, x2, x3, x4]) ∧ W.grownBy W' v.ownBlock ∧ (v.ownBlock = some g ∨ g = W.heap.size) ∧ g < W'.heap.size := by
  obtain ⟨i, hi, hz, hsz, hby⟩ := info_out
  exact run_append_lies (P := Tryz.prog) W 24 24 base 26 i _ 5 80 Tryz.underlying24 hi hz hsz hby rfl (by decide) v k vs ho ⟨h, 0, none⟩ 1 1 [x0, x1, x2, x3, x4] rfl (fun j x hx => by
    rw [add_plain, Nat.zero_add, row_cell hu j, ← hx]
    simp) h1 (by omega) (by unfold maxLen; omega) (by omega) hb W.heap.size rfl
/-- Blocks from lo up stay but for one. -/
def ExceptO (lo : Nat) (row : Option Nat) (w W' : World) : Prop := w.heap.size ≤ W'.heap.size ∧ ∀ k, lo ≤ k → k < w.heap.size → some k ≠ row → W'.heap[k]? = w.heap[k]?
def KidsO (lo : Nat) (row : Option Nat) (w : World) (pre : List (Oh × Ous)) (vs : List Value) : Prop := ∀ W', ExceptO lo row w W' → OuPre lo W'.heap.size W' (appO pre .nil) (fun j => vs[j]?) 0 pre.length
theorem KidsO.step {lo : Nat} {row row' : Option Nat} {w w1 : World} {pre : List (Oh × Ous)} {vs : List Value} (h : KidsO lo row w pre vs) (hs : w.heap.size ≤ w1.heap.size) (hk : ∀ k, lo ≤ k → k < w.heap.size → some k ≠ row → w1.heap[k]? = w.heap[k]? ∧ some k ≠ row') : KidsO lo row' w1 pre vs := fun W' hW =>
  h W' ⟨Nat.le_trans hs hW.1, fun k h1 h2 h3 => (hW.2 k h1 (by omega) (hk k h1 h2 h3).2).trans (hk k h1 h2 h3).1⟩
theorem OuPre.snoc {lo hi : Nat} {w : World} {h : Oh} {sub : Ous} : ∀ (pre : List (Oh × Ous)) (rd : Nat → Option Value) (o : Nat), OuPre lo hi w (appO pre .nil) rd o pre.length → OhAt lo hi w rd (o + 5 * pre.length) h → (∃ a c, rd (o + 5 * pre.length + 4) = some (.slice a sub.len c) ∧ OuRow lo hi w a sub) → OuPre lo hi w (appO (pre ++ [(h, sub)]) .nil) rd o (pre.length + 1)
  | [], rd, o, _, hh, hs => .inr ⟨by simpa using hh, by simpa [OuRow] using hs, trivial⟩
  | x :: pre, rd, o, hp, hh, hs => by
    rcases hp with hp | ⟨p1, p2, p3⟩
    · simp at hp
    · refine .inr ⟨p1, p2, ?_⟩
      simp only [List.length_cons] at hh hs ⊢
      exact OuPre.snoc pre rd (o + 5) (by simpa using p3) (by rw [show o + 5 + 5 * pre.length = o + 5 * (pre.length + 1) by omega]; exact hh) (by rw [show o + 5 + 5 * pre.length + 4 = o + 5 * (pre.length + 1) + 4 by omega]; exact hs)
theorem KidsO.more {lo m : Nat} {row : Option Nat} {w : World} {pre : List (Oh × Ous)} {vs : List Value} {h : Oh} {sub : Ous} {b1 b2 : Option Addr} {f1 f2 : Nat} (H : KidsO lo row w pre vs) (hlen : vs.length = pre.length * 5) (hlo : lo ≤ m) (hf : h.keys.length ≤ f1) (hrow : ∀ g, row = some g → g < m ∨ w.heap.size ≤ g)
    (A1 : KeRow m w.heap.size w b1 h.keys) (A2 : OuRow m w.heap.size w b2 sub) :
    KidsO lo row w (pre ++ [(h, sub)]) (vs ++ [.int .i64 h.k, .int .i64 h.n, .string h.t, .slice b1 h.keys.length f1, .slice b2 sub.len f2]) := by
  intro W' hW
  have hA : Agree m w.heap.size w W' := fun g h1 h2 => hW.2 g (by omega) h2 (fun e => by have := hrow g e.symm; omega)
  have P1 := OuPre.cells (rd' := fun j => (vs ++ [.int .i64 h.k, .int .i64 h.n, .string h.t, .slice b1 h.keys.length f1, .slice b2 sub.len f2])[j]?) (H W' hW) (fun j _ hj => by
    rw [List.getElem?_append_left (by omega)])
  have q : ∀ j, (vs ++ [.int .i64 h.k, .int .i64 h.n, .string h.t, .slice b1 h.keys.length f1, .slice b2 sub.len f2])[0 + 5 * pre.length + j]? = ([.int .i64 h.k, .int .i64 h.n, .string h.t, .slice b1 h.keys.length f1, .slice b2 sub.len f2] : List Value)[j]? := fun j => by
    rw [List.getElem?_append_right (by omega)]
    congr 1; omega
  have R1 : KeRow lo W'.heap.size W' b1 h.keys := KeRow.wide (KeRow.keep A1 hA) hlo hW.1
  have R2 : OuRow lo W'.heap.size W' b2 sub := OuRow.wide (OuRow.keep A2 hA) hlo hW.1
  have := OuPre.snoc (h := h) (sub := sub) pre _ 0 P1 ⟨q 0, q 1, q 2, b1, f1, q 3, hf, R1⟩ ⟨b2, f2, q 4, R2⟩
  simpa using this
theorem KidsO.row {lo base : Nat} {w : World} {v : Value} {n : Nat} {pre : List (Oh × Ous)} {vs : List Value} (hown : w.ownsRow base 26 5 v n vs) (hn : pre.length = n) (H : KidsO lo v.ownBlock w pre vs) {lo' : Nat} (h1 : lo' ≤ base) (h2 : lo' ≤ lo) : ∃ a c, v = .slice a n c ∧ OuRow lo' w.heap.size w a (appO pre .nil) := by
  have hp := H w ⟨Nat.le_refl _, fun _ _ _ _ => rfl⟩
  subst hn
  rcases hown.2 with ⟨rfl, h0⟩ | ⟨g, cap, cur, rfl, q1, q2, q3, q4, q5, q6⟩
  · refine ⟨none, 0, by rw [h0], .inl ?_⟩
    rw [List.length_eq_zero_iff.1 h0]; rfl
  · refine ⟨_, _, rfl, .inr ⟨g, 0, rfl, by omega, (Array.getElem?_eq_some_iff.1 q2).1, ?_⟩⟩
    rw [row_rd q2, appO_len]
    simp only [Ous.len, Nat.add_zero]
    refine OuPre.wide h2 (Nat.le_refl _) (OuPre.cells hp fun j _ hj => ?_)
    show cur[j]? = vs[j]?
    rw [← q6, List.getElem?_take, if_pos (by omega)]
    simp
theorem own_setO {w : World} {base size n : Nat} {e : TypeId} {v : Value} {xs : List Value} (h : w.ownsRow base e size v n xs) {w' : World} (hk : ∀ g, v.ownBlock = some g → w'.heap[g]? = w.heap[g]?) : w'.ownsRow base e size v n xs := by
  refine ⟨h.1, ?_⟩
  rcases h.2 with h0 | ⟨g, cap, cur, rfl, h1, h2, h3⟩
  · exact .inl h0
  · exact .inr ⟨g, cap, cur, rfl, h1, (hk g rfl).trans h2, h3⟩
theorem own_ltO {w : World} {base size n : Nat} {e : TypeId} {v : Value} {xs : List Value} (h : w.ownsRow base e size v n xs) (g : Nat) (hg : v.ownBlock = some g) : base ≤ g ∧ g < w.heap.size ∧ ∃ cs, w.heap[g]? = some (.cells cs e (0, 0)) := by
  rcases h.2 with ⟨e, _⟩ | ⟨g', cap, cur, e, h1, h2, _⟩
  · subst e; cases hg
  · subst e
    simp only [Value.ownBlock, Option.some.injEq] at hg
    subst hg
    exact ⟨h1, (Array.getElem?_eq_some_iff.1 h2).1, _, h2⟩
theorem own_belowO {w w' : World} {base size n : Nat} {e : TypeId} {v : Value} {xs : List Value} (h : w.ownsRow base e size v n xs) (hb : Below w.heap.size w w') : w'.ownsRow base e size v n xs := own_setO h (fun g hg => hb.block g (own_ltO h g hg).2.1)
/-- A list that grows, told by the last cell of a value in block B; its own lists lie from N1 up. -/
structure GrowO (N0 N1 B : Nat) (x0 x1 x2 x3 : Value) (w : World) (v : Value) (vs : List Value) (pre : List (Oh × Ous)) : Prop where
  cell : w.heap[B]? = some (.cells #[x0, x1, x2, x3, v] 26 (0, 0))
  own : w.ownsRow N0 26 5 v pre.length vs
  off : v.ownBlock ≠ some B
  kids : KidsO N1 v.ownBlock w pre vs
theorem GrowO.below {N0 N1 B : Nat} {x0 x1 x2 x3 : Value} {w w' : World} {v : Value} {vs : List Value} {pre : List (Oh × Ous)} (h : GrowO N0 N1 B x0 x1 x2 x3 w v vs pre) (hb : Below w.heap.size w w') : GrowO N0 N1 B x0 x1 x2 x3 w' v vs pre :=
  ⟨(hb.block _ (Array.getElem?_eq_some_iff.1 h.cell).1).trans h.cell, own_belowO h.own hb, h.off, h.kids.step hb.size (fun k h1 h2 h3 => ⟨hb.block k h2, h3⟩)⟩
theorem grown_reflO (w : World) (r : Option Nat) : w.grownBy w r := ⟨rfl, rfl, rfl, Nat.le_refl _, fun _ _ _ => rfl⟩
theorem grown_belowO {a w w' : World} {r : Option Nat} (h : a.grownBy w r) (hb : Below w.heap.size w w') : a.grownBy w' r :=
  ⟨hb.os.trans h.os, hb.tape.trans h.tape, hb.output.trans h.output, Nat.le_trans h.size hb.size, fun k hk hn => (hb.block k (Nat.lt_of_lt_of_le hk h.size)).trans (h.block k hk hn)⟩
theorem grown_transO {a w w' : World} {r : Option Nat} (h : a.grownBy w r) (g : w.grownBy w' r) : a.grownBy w' r :=
  ⟨g.os.trans h.os, g.tape.trans h.tape, g.output.trans h.output, Nat.le_trans h.size g.size, fun k hk hn => (g.block k (Nat.lt_of_lt_of_le hk h.size) hn).trans (h.block k hk hn)⟩
/-- Where the region of one append stands: x is the operation that appends, s the slot that it writes. -/
def GrJO (x s N0 N1 B : Nat) (x0 x1 x2 x3 : Value) (W0 : World) (v : Value) (vs : List Value) (pre : List (Oh × Ous)) (h : Oh) (sub : Ous) (L : Array Bool) (u : Nat → Value) (W : World) : Prop :=
  W0.grownBy W v.ownBlock ∧ (L.getD x false = false → GrowO N0 N1 B x0 x1 x2 x3 W v vs pre) ∧
  (L.getD x false = true → ∃ vs', W.ownsRow N0 26 5 (u s) (pre.length + 1) vs' ∧ (u s).ownBlock ≠ some B ∧ KidsO N1 (u s).ownBlock W (pre ++ [(h, sub)]) vs')
theorem GrJO.start {x s N0 N1 B : Nat} {x0 x1 x2 x3 : Value} {W0 : World} {v : Value} {vs : List Value} {pre : List (Oh × Ous)} {h : Oh} {sub : Ous} {n : Nat} {u : Nat → Value} (H : GrowO N0 N1 B x0 x1 x2 x3 W0 v vs pre) : GrJO x s N0 N1 B x0 x1 x2 x3 W0 v vs pre h sub (Array.replicate n false) u W0.drew := by
  refine ⟨grown_belowO (grown_reflO _ _) (Below.refl _ _).drew, fun _ => H.below (Below.refl _ _).drew, fun h => ?_⟩
  exfalso
  by_cases hx : x < n
  · simp [hx] at h
  · simp [hx] at h
theorem GrJO.step {x s N0 N1 B : Nat} {x0 x1 x2 x3 : Value} {W0 : World} {v : Value} {vs : List Value} {pre : List (Oh × Ous)} {h : Oh} {sub : Ous} {L : Array Bool} {u : Nat → Value} {W W' : World} (H : GrJO x s N0 N1 B x0 x1 x2 x3 W0 v vs pre h sub L u W) (hb : Below W.heap.size W W') {i d : Nat} {val : Value} (hi : i ≠ x) (hd : d ≠ s) :
    GrJO x s N0 N1 B x0 x1 x2 x3 W0 v vs pre h sub (L.setIfInBounds i true) (upd u d val) W' := by
  obtain ⟨h1, h2, h3⟩ := H
  refine ⟨grown_belowO h1 hb, fun hl => ?_, fun hl => ?_⟩
  · rw [getD_set_ne false hi] at hl; exact (h2 hl).below hb
  · rw [getD_set_ne false hi] at hl
    obtain ⟨vs', g1, g2, g3⟩ := h3 hl
    rw [upd_ne _ _ (Ne.symm hd)]
    exact ⟨vs', own_belowO g1 hb, g2, g3.step hb.size (fun k a1 a2 a3 => ⟨hb.block k a2, a3⟩)⟩
theorem GrJO.put {x s N0 N1 B : Nat} {x0 x1 x2 x3 : Value} {W0 : World} {v : Value} {vs : List Value} {pre : List (Oh × Ous)} {h : Oh} {sub : Ous} {L : Array Bool} {u : Nat → Value} {W W' : World} (H : GrJO x s N0 N1 B x0 x1 x2 x3 W0 v vs pre h sub L u W) (hx : x < L.size) (hl : L.getD x false = false) (hB0 : B < W0.heap.size) (hN : N1 ≤ W0.heap.size)
    (hrow : ∀ g, v.ownBlock = some g → g < W0.heap.size) {b1 b2 : Option Addr} {f1 f2 : Nat} (hf : h.keys.length ≤ f1) (A1 : KeRow W0.heap.size W.heap.size W b1 h.keys) (A2 : OuRow W0.heap.size W.heap.size W b2 sub) {g cap : Nat}
    (ho : W'.ownsRow N0 26 5 (.slice (some ⟨g, 0, none⟩) (pre.length + 1) cap) (pre.length + 1) (vs ++ [.int .i64 h.k, .int .i64 h.n, .string h.t, .slice b1 h.keys.length f1, .slice b2 sub.len f2])) (hg : W.grownBy W' v.ownBlock) (hat : v.ownBlock = some g ∨ g = W.heap.size) :
    GrJO x s N0 N1 B x0 x1 x2 x3 W0 v vs pre h sub (L.setIfInBounds x true) (upd u s (.slice (some ⟨g, 0, none⟩) (pre.length + 1) cap)) W' := by
  obtain ⟨h1, h2, h3⟩ := H
  have hG := h2 hl
  have hlen : vs.length = pre.length * 5 := by have := hG.own.1; omega
  have hzW := h1.size
  refine ⟨grown_transO h1 hg, fun hh => ?_, fun _ => ?_⟩
  · simp [hx] at hh
  · rw [upd_at]
    refine ⟨_, ho, ?_, ?_⟩
    · simp only [Value.ownBlock, ne_eq, Option.some.injEq]
      rcases hat with h | h
      · intro e; exact hG.off (by rw [h, e])
      · omega
    · have hk := KidsO.more (m := W0.heap.size) (f1 := f1) (f2 := f2) hG.kids hlen hN hf (fun g hg => .inl (hrow g hg)) A1 A2
      refine KidsO.step hk hg.size (fun k a1 a2 a3 => ⟨hg.block k a2 a3, ?_⟩)
      simp only [Value.ownBlock, ne_eq, Option.some.injEq]
      rcases hat with h | h
      · intro e; exact a3 (by rw [h, e])
      · omega
theorem GrJO.done {x s N0 N1 B : Nat} {x0 x1 x2 x3 : Value} {W0 : World} {v : Value} {vs : List Value} {pre : List (Oh × Ous)} {h : Oh} {sub : Ous} {L : Array Bool} {u : Nat → Value} {W : World} (H : GrJO x s N0 N1 B x0 x1 x2 x3 W0 v vs pre h sub L u W) (h0 : GrowO N0 N1 B x0 x1 x2 x3 W0 v vs pre) (hl : L.getD x false = true) (hBN : B < N1) :
    W.heap[B]? = some (.cells #[x0, x1, x2, x3, v] 26 (0, 0)) ∧ ∃ vs', GrowO N0 N1 B x0 x1 x2 x3 (W.setCell ⟨B, 4, none⟩ (u s)) (u s) vs' (pre ++ [(h, sub)]) := by
  obtain ⟨h1, h2, h3⟩ := H
  obtain ⟨vs', g1, g2, g3⟩ := h3 hl
  have hc : W.heap[B]? = some (.cells #[x0, x1, x2, x3, v] 26 (0, 0)) := (h1.block B (Array.getElem?_eq_some_iff.1 h0.cell).1 (fun e => h0.off e.symm)).trans h0.cell
  refine ⟨hc, vs', ⟨?_, ?_, g2, ?_⟩⟩
  · have := row_set hc 4 (u s)
    simpa using this
  · simp only [List.length_append, List.length_cons, List.length_nil, Nat.zero_add]
    exact own_setO g1 (fun g hg => heap_set _ _ _ _ _ (fun e => g2 (by rw [hg, e])))
  · exact KidsO.step g3 (by simp) (fun k a1 a2 a3 => ⟨heap_set _ _ _ _ _ (by omega), a3⟩)
end Go.Proofs.YtlliimlhdpbgdaaGreatDoor.G
