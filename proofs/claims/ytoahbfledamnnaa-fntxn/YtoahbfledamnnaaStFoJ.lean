/- The region 'y, _ := l06Forget(x, s.next(x.Now+1))', in whatever order: what stays. -/
import Derived.Test.YtoahbfledamnnaaStStore
namespace Go.Proofs.Ytoahbfledamnnaa.G
open Go.ChangeShapes Go.WideShapes Go.ChangeAt Go.RowKit
set_option linter.unusedVariables false

def foTup (t : Nat) (a3 : Option Addr) (c3 z now : Nat) (l : Chs) : Value := .tuple #[.agg #[.slice a3 (fgS t l).length c3, .int .i64 now], .int .i64 z]
/-- Where the region stands: 5 draws the hour, 6 forgets, 7 and 8 move, 10 makes the variable, 11 stores. -/
structure FoJ (w9 : World) (L : Nat) (sa : Option Addr) (n kk now : Nat) (l : Chs) (D : Array Bool) (u : Nat → Value) (W : World) : Prop where
  grown : w9.grownBy W (some L)
  s0 : D.getD 5 false = false → SrcSt W L sa n kk
  s1 : D.getD 5 false = true → SrcSt W L sa n (kk + 1) ∧ ∃ t : Nat, u 29 = .int .i64 t
  b : D.getD 6 false = true → D.getD 10 false = false → ∃ (t : Nat) (a3 : Option Addr) (c3 z : Nat), u 30 = foTup t a3 c3 z now l ∧ ChRow w9.heap.size W.heap.size W a3 (fgS t l)
  c : D.getD 6 false = false → D.getD 10 false = true → ∃ y, u 5 = .pointer (some ⟨y, 0, none⟩) ∧ w9.heap.size ≤ y ∧ W.heap[y]? = some (.cells #[.slice none 0 0, .int .i64 0] 25 (0, 0))
  d : D.getD 6 false = true → D.getD 10 false = true → ∃ (y t : Nat) (a3 : Option Addr) (c3 z : Nat), u 5 = .pointer (some ⟨y, 0, none⟩) ∧ w9.heap.size ≤ y ∧ y < W.heap.size ∧ u 30 = foTup t a3 c3 z now l ∧ Beside w9.heap.size y W a3 (fgS t l) ∧ (D.getD 11 false = false → W.heap[y]? = some (.cells #[.slice none 0 0, .int .i64 0] 25 (0, 0))) ∧ (D.getD 11 false = true → W.heap[y]? = some (.cells #[.slice a3 (fgS t l).length c3, .int .i64 now] 25 (0, 0)))
  m7 : D.getD 7 false = true → u 23 = u 30 ∧ D.getD 6 false = true
  m8 : D.getD 8 false = true → (∃ x z, u 30 = .tuple #[x, z] ∧ u 31 = x) ∧ D.getD 6 false = true
  o11 : D.getD 11 false = true → D.getD 6 false = true ∧ D.getD 10 false = true
theorem FoJ.start {w9 : World} {L : Nat} {sa : Option Addr} {n kk now m : Nat} {l : Chs} {u : Nat → Value} (h : SrcSt w9 L sa n kk) : FoJ w9 L sa n kk now l (Array.replicate m false) u w9.drew := by
  have no : ∀ j, (Array.replicate m false).getD j false = true → False := fun j hj => by
    by_cases hx : j < m
    · simp [hx] at hj
    · simp [hx] at hj
  exact ⟨grown_below (grown_refl _ _) (Below.refl _ _).drew, fun _ => h, fun h => (no _ h).elim, fun h => (no _ h).elim, fun _ h => (no _ h).elim, fun h => (no _ h).elim, fun h => (no _ h).elim, fun h => (no _ h).elim, fun h => (no _ h).elim⟩
/-- An operation that writes nothing of these. -/
theorem FoJ.step {w9 : World} {L : Nat} {sa : Option Addr} {n kk now : Nat} {l : Chs} {D : Array Bool} {u : Nat → Value} {W : World} (h : FoJ w9 L sa n kk now l D u W) {i d : Nat} {val : Value} (hi : i ≠ 5 ∧ i ≠ 6 ∧ i ≠ 7 ∧ i ≠ 8 ∧ i ≠ 10 ∧ i ≠ 11) (hd : d ≠ 29 ∧ d ≠ 30 ∧ d ≠ 23 ∧ d ≠ 31 ∧ d ≠ 5) :
    FoJ w9 L sa n kk now l (D.setIfInBounds i true) (upd u d val) W := by
  obtain ⟨i5, i6, i7, i8, i10, i11⟩ := hi
  obtain ⟨d1, d2, d3, d4, d5⟩ := hd
  have e5 : (D.setIfInBounds i true).getD 5 false = D.getD 5 false := getD_set_ne false i5
  have e6 : (D.setIfInBounds i true).getD 6 false = D.getD 6 false := getD_set_ne false i6
  have e7 : (D.setIfInBounds i true).getD 7 false = D.getD 7 false := getD_set_ne false i7
  have e8 : (D.setIfInBounds i true).getD 8 false = D.getD 8 false := getD_set_ne false i8
  have e10 : (D.setIfInBounds i true).getD 10 false = D.getD 10 false := getD_set_ne false i10
  have e11 : (D.setIfInBounds i true).getD 11 false = D.getD 11 false := getD_set_ne false i11
  have f1 : upd u d val 29 = u 29 := upd_ne _ _ (Ne.symm d1)
  have f2 : upd u d val 30 = u 30 := upd_ne _ _ (Ne.symm d2)
  have f3 : upd u d val 23 = u 23 := upd_ne _ _ (Ne.symm d3)
  have f4 : upd u d val 31 = u 31 := upd_ne _ _ (Ne.symm d4)
  have f5 : upd u d val 5 = u 5 := upd_ne _ _ (Ne.symm d5)
  obtain ⟨h1, h2, h3, h4, h5, h6, h7, h8, h9⟩ := h
  exact ⟨h1, by rw [e5]; exact h2, by rw [e5, f1]; exact h3, by rw [e6, e10, f2]; exact h4, by rw [e6, e10, f5]; exact h5, by rw [e6, e10, e11, f2, f5]; exact h6, by rw [e6, e7, f2, f3]; exact h7, by rw [e6, e8, f2, f4]; exact h8, by rw [e6, e10, e11]; exact h9⟩
/-- What was made stays while only the source's block turns. -/
theorem FoJ.five {w9 : World} {L : Nat} {sa : Option Addr} {n kk now : Nat} {l : Chs} {D : Array Bool} {u : Nat → Value} {W W' : World} (h : FoJ w9 L sa n kk now l D u W) (hL : L < w9.heap.size) (hg : W.grownBy W' (some L)) {t : Nat} (hs : 5 < D.size) (hS : SrcSt W' L sa n (kk + 1)) :
    FoJ w9 L sa n kk now l (D.setIfInBounds 5 true) (upd u 29 (.int .i64 t)) W' := by
  have e6 : (D.setIfInBounds 5 true).getD 6 false = D.getD 6 false := getD_set_ne false (by omega)
  have e7 : (D.setIfInBounds 5 true).getD 7 false = D.getD 7 false := getD_set_ne false (by omega)
  have e8 : (D.setIfInBounds 5 true).getD 8 false = D.getD 8 false := getD_set_ne false (by omega)
  have e10 : (D.setIfInBounds 5 true).getD 10 false = D.getD 10 false := getD_set_ne false (by omega)
  have e11 : (D.setIfInBounds 5 true).getD 11 false = D.getD 11 false := getD_set_ne false (by omega)
  have f2 : upd u 29 (Value.int .i64 t) 30 = u 30 := upd_ne _ _ (by omega)
  have f3 : upd u 29 (Value.int .i64 t) 23 = u 23 := upd_ne _ _ (by omega)
  have f4 : upd u 29 (Value.int .i64 t) 31 = u 31 := upd_ne _ _ (by omega)
  have f5 : upd u 29 (Value.int .i64 t) 5 = u 5 := upd_ne _ _ (by omega)
  obtain ⟨h1, h2, h3, h4, h5, h6, h7, h8, h9⟩ := h
  have ok : ∀ g, w9.heap.size ≤ g → g < W.heap.size → W'.heap[g]? = W.heap[g]? := fun g a1 a2 => hg.block g a2 (by simp; omega)
  refine ⟨grown_trans h1 hg, fun e => by simp [hs] at e, fun _ => ⟨hS, t, upd_at _ _ _⟩, ?_, ?_, ?_, by rw [e6, e7, f2, f3]; exact h7, by rw [e6, e8, f2, f4]; exact h8, by rw [e6, e10, e11]; exact h9⟩
  · rw [e6, e10, f2]
    intro q1 q2
    obtain ⟨t, a3, c3, z, r1, r2⟩ := h4 q1 q2
    exact ⟨t, a3, c3, z, r1, ChRow.wide (ChRow.keep r2 (fun g a1 a2 => ok g a1 a2)) (Nat.le_refl _) hg.size⟩
  · rw [e6, e10, f5]
    intro q1 q2
    obtain ⟨y, r1, r2, r3⟩ := h5 q1 q2
    exact ⟨y, r1, r2, (ok y r2 (Array.getElem?_eq_some_iff.1 r3).1).trans r3⟩
  · rw [e6, e10, e11, f2, f5]
    intro q1 q2
    obtain ⟨y, t, a3, c3, z, r1, r2, r3, r4, r5, r6, r7⟩ := h6 q1 q2
    exact ⟨y, t, a3, c3, z, r1, r2, Nat.lt_of_lt_of_le r3 hg.size, r4, r5.keep (by omega) r2 hg.size (fun g a1 a2 _ => ok g a1 a2), fun e => (ok y r2 r3).trans (r6 e), fun e => (ok y r2 r3).trans (r7 e)⟩
/-- The forgetting. -/
theorem FoJ.six {w9 : World} {L : Nat} {sa : Option Addr} {n kk now : Nat} {l : Chs} {D : Array Bool} {u : Nat → Value} {W W' : World} (h : FoJ w9 L sa n kk now l D u W) (hL : L < w9.heap.size) (hb : Below W.heap.size W W') {t : Nat} {a3 : Option Addr} {c3 z : Nat} (h6 : D.getD 6 false = false) (hD5 : D.getD 5 false = true) (hr : ChRow W.heap.size W'.heap.size W' a3 (fgS t l)) :
    FoJ w9 L sa n kk now l (D.setIfInBounds 6 true) (upd u 30 (foTup t a3 c3 z now l)) W' := by
  have e5 : (D.setIfInBounds 6 true).getD 5 false = D.getD 5 false := getD_set_ne false (by omega)
  have e7 : (D.setIfInBounds 6 true).getD 7 false = D.getD 7 false := getD_set_ne false (by omega)
  have e8 : (D.setIfInBounds 6 true).getD 8 false = D.getD 8 false := getD_set_ne false (by omega)
  have e10 : (D.setIfInBounds 6 true).getD 10 false = D.getD 10 false := getD_set_ne false (by omega)
  have e11 : (D.setIfInBounds 6 true).getD 11 false = D.getD 11 false := getD_set_ne false (by omega)
  have f1 : upd u 30 (foTup t a3 c3 z now l) 29 = u 29 := upd_ne _ _ (by omega)
  have f2 : upd u 30 (foTup t a3 c3 z now l) 30 = foTup t a3 c3 z now l := upd_at _ _ _
  have f5 : upd u 30 (foTup t a3 c3 z now l) 5 = u 5 := upd_ne _ _ (by omega)
  have hzW := h.grown.size
  obtain ⟨h1, h2, h3, h4, h5, h6', h7, h8, h9⟩ := h
  have n7 : ¬ D.getD 7 false = true := fun e => by have := (h7 e).2; rw [h6] at this; cases this
  have n8 : ¬ D.getD 8 false = true := fun e => by have := (h8 e).2; rw [h6] at this; cases this
  have n11 : ¬ D.getD 11 false = true := fun e => by have := (h9 e).1; rw [h6] at this; cases this
  refine ⟨grown_below h1 hb, fun e => (by rw [e5, hD5] at e; cases e), ?_, ?_, ?_, ?_, fun e => (n7 (e7 ▸ e)).elim, fun e => (n8 (e8 ▸ e)).elim, fun e => (n11 (e11 ▸ e)).elim⟩
  · rw [e5, f1]
    intro q
    obtain ⟨r1, r2⟩ := h3 q
    exact ⟨r1.move (hb.block L (by omega)), r2⟩
  · intro _ _
    exact ⟨t, a3, c3, z, f2, ChRow.wide hr hzW (Nat.le_refl _)⟩
  · intro q1 q2
    by_cases hs : 6 < D.size
    · simp [hs] at q1
    · exfalso
      have : D.getD 10 false = false := by simp [show ¬ 10 < D.size by omega]
      rw [e10, this] at q2; cases q2
  · rw [e10, e11, f2, f5]
    intro _ q2
    obtain ⟨y, r1, r2, r3⟩ := h5 h6 q2
    have hy := (Array.getElem?_eq_some_iff.1 r3).1
    exact ⟨y, t, a3, c3, z, r1, r2, Nat.lt_of_lt_of_le hy hb.size, rfl, .inr (ChRow.wide hr (by omega) (Nat.le_refl _)), fun _ => (hb.block y hy).trans r3, fun e => (n11 e).elim⟩
/-- The moves. -/
theorem FoJ.seven {w9 : World} {L : Nat} {sa : Option Addr} {n kk now : Nat} {l : Chs} {D : Array Bool} {u : Nat → Value} {W : World} (h : FoJ w9 L sa n kk now l D u W) (h6 : D.getD 6 false = true) :
    FoJ w9 L sa n kk now l (D.setIfInBounds 7 true) (upd u 23 (u 30)) W := by
  have e5 : (D.setIfInBounds 7 true).getD 5 false = D.getD 5 false := getD_set_ne false (by omega)
  have e6 : (D.setIfInBounds 7 true).getD 6 false = D.getD 6 false := getD_set_ne false (by omega)
  have e8 : (D.setIfInBounds 7 true).getD 8 false = D.getD 8 false := getD_set_ne false (by omega)
  have e10 : (D.setIfInBounds 7 true).getD 10 false = D.getD 10 false := getD_set_ne false (by omega)
  have e11 : (D.setIfInBounds 7 true).getD 11 false = D.getD 11 false := getD_set_ne false (by omega)
  have f29 : upd u 23 (u 30) 29 = u 29 := upd_ne _ _ (by omega)
  have f30 : upd u 23 (u 30) 30 = u 30 := upd_ne _ _ (by omega)
  have f31 : upd u 23 (u 30) 31 = u 31 := upd_ne _ _ (by omega)
  have f5 : upd u 23 (u 30) 5 = u 5 := upd_ne _ _ (by omega)
  have g23 : upd u 23 (u 30) 23 = u 30 := upd_at _ _ _
  obtain ⟨h1, h2, h3, h4, h5, h6', h7, h8, h9⟩ := h
  exact ⟨h1, by rw [e5]; exact h2, by rw [e5, f29]; exact h3, by rw [e6, e10, f30]; exact h4, by rw [e6, e10, f5]; exact h5, by rw [e6, e10, e11, f30, f5]; exact h6', fun _ => ⟨by rw [g23, f30], by rw [e6]; exact h6⟩, by rw [e6, e8, f30, f31]; exact h8, by rw [e6, e10, e11]; exact h9⟩
theorem FoJ.eight {w9 : World} {L : Nat} {sa : Option Addr} {n kk now : Nat} {l : Chs} {D : Array Bool} {u : Nat → Value} {W : World} (h : FoJ w9 L sa n kk now l D u W) (h6 : D.getD 6 false = true) {x z : Value} (hx : u 30 = .tuple #[x, z]) :
    FoJ w9 L sa n kk now l (D.setIfInBounds 8 true) (upd u 31 x) W := by
  have e5 : (D.setIfInBounds 8 true).getD 5 false = D.getD 5 false := getD_set_ne false (by omega)
  have e6 : (D.setIfInBounds 8 true).getD 6 false = D.getD 6 false := getD_set_ne false (by omega)
  have e7 : (D.setIfInBounds 8 true).getD 7 false = D.getD 7 false := getD_set_ne false (by omega)
  have e10 : (D.setIfInBounds 8 true).getD 10 false = D.getD 10 false := getD_set_ne false (by omega)
  have e11 : (D.setIfInBounds 8 true).getD 11 false = D.getD 11 false := getD_set_ne false (by omega)
  have f29 : upd u 31 (x) 29 = u 29 := upd_ne _ _ (by omega)
  have f30 : upd u 31 (x) 30 = u 30 := upd_ne _ _ (by omega)
  have f23 : upd u 31 (x) 23 = u 23 := upd_ne _ _ (by omega)
  have f5 : upd u 31 (x) 5 = u 5 := upd_ne _ _ (by omega)
  have g31 : upd u 31 x 31 = x := upd_at _ _ _
  obtain ⟨h1, h2, h3, h4, h5, h6', h7, h8, h9⟩ := h
  exact ⟨h1, by rw [e5]; exact h2, by rw [e5, f29]; exact h3, by rw [e6, e10, f30]; exact h4, by rw [e6, e10, f5]; exact h5, by rw [e6, e10, e11, f30, f5]; exact h6', by rw [e6, e7, f30, f23]; exact h7, fun _ => ⟨⟨x, z, by rw [f30]; exact hx, g31⟩, by rw [e6]; exact h6⟩, by rw [e6, e10, e11]; exact h9⟩
/-- The variable. -/
theorem FoJ.ten {w9 : World} {L : Nat} {sa : Option Addr} {n kk now : Nat} {l : Chs} {D : Array Bool} {u : Nat → Value} {W W' : World} (h : FoJ w9 L sa n kk now l D u W) (hL : L < w9.heap.size) (hb : Below W.heap.size W W') (hs : 10 < D.size) (h10 : D.getD 10 false = false) (hc : W'.heap[W.heap.size]? = some (.cells #[.slice none 0 0, .int .i64 0] 25 (0, 0))) :
    FoJ w9 L sa n kk now l (D.setIfInBounds 10 true) (upd u 5 (.pointer (some ⟨W.heap.size, 0, none⟩))) W' := by
  have e5 : (D.setIfInBounds 10 true).getD 5 false = D.getD 5 false := getD_set_ne false (by omega)
  have e6 : (D.setIfInBounds 10 true).getD 6 false = D.getD 6 false := getD_set_ne false (by omega)
  have e7 : (D.setIfInBounds 10 true).getD 7 false = D.getD 7 false := getD_set_ne false (by omega)
  have e8 : (D.setIfInBounds 10 true).getD 8 false = D.getD 8 false := getD_set_ne false (by omega)
  have e11 : (D.setIfInBounds 10 true).getD 11 false = D.getD 11 false := getD_set_ne false (by omega)
  have f29 : upd u 5 (Value.pointer (some ⟨W.heap.size, 0, none⟩)) 29 = u 29 := upd_ne _ _ (by omega)
  have f30 : upd u 5 (Value.pointer (some ⟨W.heap.size, 0, none⟩)) 30 = u 30 := upd_ne _ _ (by omega)
  have f23 : upd u 5 (Value.pointer (some ⟨W.heap.size, 0, none⟩)) 23 = u 23 := upd_ne _ _ (by omega)
  have f31 : upd u 5 (Value.pointer (some ⟨W.heap.size, 0, none⟩)) 31 = u 31 := upd_ne _ _ (by omega)
  have g5 : upd u 5 (Value.pointer (some ⟨W.heap.size, 0, none⟩)) 5 = Value.pointer (some ⟨W.heap.size, 0, none⟩) := upd_at _ _ _
  have hzW := h.grown.size
  have hlt := (Array.getElem?_eq_some_iff.1 hc).1
  obtain ⟨h1, h2, h3, h4, h5, h6', h7, h8, h9⟩ := h
  have n11 : ¬ D.getD 11 false = true := fun e => by have := (h9 e).2; rw [h10] at this; cases this
  refine ⟨grown_below h1 hb, ?_, ?_, fun _ e => (by simp [hs] at e), ?_, ?_, by rw [e6, e7, f30, f23]; exact h7, by rw [e6, e8, f30, f31]; exact h8, fun e => (n11 (e11 ▸ e)).elim⟩
  · rw [e5]; intro q; exact (h2 q).move (hb.block L (by omega))
  · rw [e5, f29]; intro q; exact ⟨(h3 q).1.move (hb.block L (by omega)), (h3 q).2⟩
  · intro _ _; exact ⟨W.heap.size, g5, hzW, hc⟩
  · rw [e6, e11, f30, g5]
    intro q1 _
    obtain ⟨t, a3, c3, z, r1, r2⟩ := h4 q1 h10
    exact ⟨W.heap.size, t, a3, c3, z, rfl, hzW, hlt, r1, .inl (ChRow.keep r2 (agree hb (Nat.le_refl _))), fun _ => hc, fun e => (n11 e).elim⟩
/-- The store. -/
theorem FoJ.eleven {w9 : World} {L : Nat} {sa : Option Addr} {n kk now : Nat} {l : Chs} {D : Array Bool} {u : Nat → Value} {W W' : World} (h : FoJ w9 L sa n kk now l D u W) (hL : L < w9.heap.size) (hs : 11 < D.size) (h6 : D.getD 6 false = true) (h10 : D.getD 10 false = true) {y t : Nat} {a3 : Option Addr} {c3 z : Nat} (q1 : u 5 = .pointer (some ⟨y, 0, none⟩)) (q2 : w9.heap.size ≤ y) (q3 : y < W.heap.size) (q4 : u 30 = foTup t a3 c3 z now l) (q5 : Beside w9.heap.size y W a3 (fgS t l)) (hg : ∀ g, g ≠ y → W'.heap[g]? = W.heap[g]?) (hz : W'.heap.size = W.heap.size) (hgr : w9.grownBy W' (some L))
    (hc : W'.heap[y]? = some (.cells #[.slice a3 (fgS t l).length c3, .int .i64 now] 25 (0, 0))) {val : Value} :
    FoJ w9 L sa n kk now l (D.setIfInBounds 11 true) (upd u 99 val) W' := by
  have e5 : (D.setIfInBounds 11 true).getD 5 false = D.getD 5 false := getD_set_ne false (by omega)
  have e6 : (D.setIfInBounds 11 true).getD 6 false = D.getD 6 false := getD_set_ne false (by omega)
  have e7 : (D.setIfInBounds 11 true).getD 7 false = D.getD 7 false := getD_set_ne false (by omega)
  have e8 : (D.setIfInBounds 11 true).getD 8 false = D.getD 8 false := getD_set_ne false (by omega)
  have e10 : (D.setIfInBounds 11 true).getD 10 false = D.getD 10 false := getD_set_ne false (by omega)
  have f29 : upd u 99 (val) 29 = u 29 := upd_ne _ _ (by omega)
  have f30 : upd u 99 (val) 30 = u 30 := upd_ne _ _ (by omega)
  have f23 : upd u 99 (val) 23 = u 23 := upd_ne _ _ (by omega)
  have f31 : upd u 99 (val) 31 = u 31 := upd_ne _ _ (by omega)
  have f5 : upd u 99 (val) 5 = u 5 := upd_ne _ _ (by omega)
  obtain ⟨h1, h2, h3, h4, h5, h6', h7, h8, h9⟩ := h
  refine ⟨hgr, ?_, ?_, ?_, ?_, ?_, by rw [e6, e7, f30, f23]; exact h7, by rw [e6, e8, f30, f31]; exact h8, fun _ => by rw [e6, e10]; exact ⟨h6, h10⟩⟩
  · rw [e5]; intro q; exact (h2 q).move (hg L (by omega))
  · rw [e5, f29]; intro q; exact ⟨(h3 q).1.move (hg L (by omega)), (h3 q).2⟩
  · rw [e10, h10]; intro _ e; cases e
  · rw [e6, h6]; intro e; cases e
  · rw [e6, e10, f30, f5]
    intro _ _
    exact ⟨y, t, a3, c3, z, q1, q2, by omega, q4, q5.keep (by omega) q2 (by omega) (fun g _ _ a3 => hg g a3), fun e => (by simp [hs] at e), fun _ => hc⟩
end Go.Proofs.Ytoahbfledamnnaa.G
