/- NewStore on both sides: sixteen chains of nothing. -/
import Derived.Test.YtbpkjpoicelgcaaStWrSpecTwo
import Derived.Test.YtbpkjpoicelgcaaStTxFn
import Derived.Test.YtbpkjpoicelgcaaStFgMath
import Derived.Test.YtbpkjpoicelgcaaStCopy
import Derived.Test.YtbpkjpoicelgcaaStKids
import Derived.Test.YtbpkjpoicelgcaaStGrow
import Derived.Test.YtbpkjpoicelgcaaStReadSpec
import Derived.Deep.CutRange
import Derived.Deep.CutBlock
import Derived.Test.YtbpkjpoicelgcaaStMark
namespace Go.Proofs.Ytbpkjpoicelgcaa.G
open Go.ChangeShapes Go.WideShapes Go.ChangeAt Go.RowKit
set_option linter.unusedVariables false

theorem NuOwn.kept2 {W W' : World} {a : Option Addr} {x : List Int} (h : NuOwn 0 W.heap.size W a x) (hs : W.heap.size ≤ W'.heap.size) (hk : ∀ (g : Nat) (cs : Array Value), W.heap[g]? = some (.cells cs 3 (0, 0)) → W'.heap[g]? = W.heap[g]?) : NuOwn 0 W'.heap.size W' a x := by
  rcases h with h | ⟨g, cs, e, h1, h2, h3, h4⟩
  · exact .inl h
  · exact .inr ⟨g, cs, e, h1, by omega, (hk g cs h3).trans h3, h4⟩
theorem NuOwn.row0 {W : World} {a : Option Addr} {x : List Int} (h : NuOwn 0 W.heap.size W a x) : NuRow 0 W.heap.size W a x := NuOwn.row h
theorem SrcSt.ne {W : World} {L : Nat} {sa : Option Addr} {n kk g : Nat} {T : TypeId} {cs : Array Value} (h : SrcSt W L sa n kk) (hg : W.heap[g]? = some (.cells cs T (0, 0))) (hT : T ≠ 78) : g ≠ L := by
  rintro rfl
  obtain ⟨c, p, sd, h1, _⟩ := h
  rw [h1] at hg
  simp only [Option.some.injEq, Obj.cells.injEq] at hg
  exact hT hg.2.1.symm
abbrev txZ : Array Value := #[.int .i64 0, .slice none 0 0, .slice none 0 0]
def rdTup (st : Int) (ra : Option Addr) (rn rq : Nat) (wv : Value) (z : Int) : Value := .tuple #[.agg #[.int .i64 st, .slice ra rn rq, wv], .int .i64 z]
/-- The region 'y, _ := l07Read(x, t, s.next(16))': 3 draws the key, 4 reads, 5 and 6 move, 8 makes the variable, 9 stores. -/
structure RdJ (w9 : World) (L : Nat) (sa : Option Addr) (n kk : Nat) (st : Int) (rs : List Int) (ws : List Ve) (wv : Value) (D : Array Bool) (u : Nat → Value) (W : World) : Prop where
  grown : w9.grownBy W (some L)
  s0 : D.getD 3 false = false → SrcSt W L sa n kk
  s1 : D.getD 3 false = true → SrcSt W L sa n (kk + 1) ∧ ∃ t : Nat, t < 16 ∧ u 29 = .int .i64 t
  rd : D.getD 4 false = true → ∃ (t : Nat) (ra : Option Addr) (rq : Nat) (z : Int), t < 16 ∧ u 30 = rdTup st ra (rdK rs ws t).length rq wv z ∧ NuOwn 0 W.heap.size W ra (rdK rs ws t) ∧ (rdK rs ws t).length ≤ rq ∧ (D.getD 9 false = true → ∃ y, u 7 = .pointer (some ⟨y, 0, none⟩) ∧ w9.heap.size ≤ y ∧ W.heap[y]? = some (.cells #[.int .i64 st, .slice ra (rdK rs ws t).length rq, wv] 30 (0, 0)))
  vr : D.getD 8 false = true → D.getD 9 false = false → ∃ y, u 7 = .pointer (some ⟨y, 0, none⟩) ∧ w9.heap.size ≤ y ∧ W.heap[y]? = some (.cells txZ 30 (0, 0))
  m5 : D.getD 5 false = true → u 25 = u 30 ∧ D.getD 4 false = true
  m6 : D.getD 6 false = true → (∃ x z, u 30 = .tuple #[x, z] ∧ u 31 = x) ∧ D.getD 4 false = true
  o9 : D.getD 9 false = true → D.getD 4 false = true ∧ D.getD 8 false = true
section
variable {w9 W W' : World} {L : Nat} {sa : Option Addr} {n kk : Nat} {st : Int} {rs : List Int} {ws : List Ve} {wv : Value} {D : Array Bool} {u : Nat → Value}
theorem RdJ.start {m : Nat} (h : SrcSt w9 L sa n kk) : RdJ w9 L sa n kk st rs ws wv (Array.replicate m false) u w9.drew := by
  have no : ∀ j, (Array.replicate m false).getD j false = true → False := fun j hj => by
    by_cases hx : j < m
    · simp [hx] at hj
    · simp [hx] at hj
  exact ⟨grown_below (grown_refl _ _) (Below.refl _ _).drew, fun _ => h, fun h => (no _ h).elim, fun h => (no _ h).elim, fun h => (no _ h).elim, fun h => (no _ h).elim, fun h => (no _ h).elim, fun h => (no _ h).elim⟩
theorem RdJ.src (h : RdJ w9 L sa n kk st rs ws wv D u W) : SrcSt W L sa n (kk + 1) := by
  cases h3 : D.getD 3 false
  · exact (h.s0 h3).more (by omega)
  · exact (h.s1 h3).1
/-- An operation that turns no block and none of these slots. -/
theorem RdJ.step (h : RdJ w9 L sa n kk st rs ws wv D u W) {i d : Nat} {val : Value} (hi : i ≠ 3 ∧ i ≠ 4 ∧ i ≠ 5 ∧ i ≠ 6 ∧ i ≠ 8 ∧ i ≠ 9) (hd : d ≠ 29 ∧ d ≠ 30 ∧ d ≠ 25 ∧ d ≠ 31 ∧ d ≠ 7) : RdJ w9 L sa n kk st rs ws wv (D.setIfInBounds i true) (upd u d val) W := by
  obtain ⟨i3, i4, i5, i6, i8, i9⟩ := hi
  obtain ⟨d1, d2, d3, d4, d5⟩ := hd
  have e3 : (D.setIfInBounds i true).getD 3 false = D.getD 3 false := getD_set_ne false i3
  have e4 : (D.setIfInBounds i true).getD 4 false = D.getD 4 false := getD_set_ne false i4
  have e5 : (D.setIfInBounds i true).getD 5 false = D.getD 5 false := getD_set_ne false i5
  have e6 : (D.setIfInBounds i true).getD 6 false = D.getD 6 false := getD_set_ne false i6
  have e8 : (D.setIfInBounds i true).getD 8 false = D.getD 8 false := getD_set_ne false i8
  have e9 : (D.setIfInBounds i true).getD 9 false = D.getD 9 false := getD_set_ne false i9
  have f1 : upd u d val 29 = u 29 := upd_ne _ _ (Ne.symm d1)
  have f2 : upd u d val 30 = u 30 := upd_ne _ _ (Ne.symm d2)
  have f3 : upd u d val 25 = u 25 := upd_ne _ _ (Ne.symm d3)
  have f4 : upd u d val 31 = u 31 := upd_ne _ _ (Ne.symm d4)
  have f5 : upd u d val 7 = u 7 := upd_ne _ _ (Ne.symm d5)
  obtain ⟨h1, h2, h3, h4, h5, h6, h7, h8⟩ := h
  exact ⟨h1, by rw [e3]; exact h2, by rw [e3, f1]; exact h3, by rw [e4, e9, f2, f5]; exact h4, by rw [e8, e9, f5]; exact h5, by rw [e4, e5, f2, f3]; exact h6, by rw [e4, e6, f2, f4]; exact h7, by rw [e4, e8, e9]; exact h8⟩
/-- The key is drawn. -/
theorem RdJ.three (h : RdJ w9 L sa n kk st rs ws wv D u W) (hg : W.grownBy W' (some L)) (hs : 3 < D.size) {t : Nat} (ht : t < 16) (hS : SrcSt W' L sa n (kk + 1)) : RdJ w9 L sa n kk st rs ws wv (D.setIfInBounds 3 true) (upd u 29 (.int .i64 t)) W' := by
  have hsrc := h.src
  have e4 : (D.setIfInBounds 3 true).getD 4 false = D.getD 4 false := getD_set_ne false (by omega)
  have e5 : (D.setIfInBounds 3 true).getD 5 false = D.getD 5 false := getD_set_ne false (by omega)
  have e6 : (D.setIfInBounds 3 true).getD 6 false = D.getD 6 false := getD_set_ne false (by omega)
  have e8 : (D.setIfInBounds 3 true).getD 8 false = D.getD 8 false := getD_set_ne false (by omega)
  have e9 : (D.setIfInBounds 3 true).getD 9 false = D.getD 9 false := getD_set_ne false (by omega)
  have f2 : upd u 29 (Value.int .i64 t) 30 = u 30 := upd_ne _ _ (by omega)
  have f3 : upd u 29 (Value.int .i64 t) 25 = u 25 := upd_ne _ _ (by omega)
  have f4 : upd u 29 (Value.int .i64 t) 31 = u 31 := upd_ne _ _ (by omega)
  have f5 : upd u 29 (Value.int .i64 t) 7 = u 7 := upd_ne _ _ (by omega)
  have ok : ∀ (g : Nat) (cs : Array Value) (T : TypeId), W.heap[g]? = some (.cells cs T (0, 0)) → T ≠ 78 → W'.heap[g]? = W.heap[g]? := fun g cs T hgT hT => hg.block g (Array.getElem?_eq_some_iff.1 hgT).1 (by have := hsrc.ne hgT hT; simpa using this)
  obtain ⟨h1, h2, h3, h4, h5, h6, h7, h8⟩ := h
  refine ⟨grown_trans h1 hg, fun e => by simp [hs] at e, fun _ => ⟨hS, t, ht, upd_at _ _ _⟩, ?_, ?_, by rw [e4, e5, f2, f3]; exact h6, by rw [e4, e6, f2, f4]; exact h7, by rw [e4, e8, e9]; exact h8⟩
  · rw [e4, e9, f2, f5]
    intro q
    obtain ⟨t, ra, rq, z, r1, r2, r3, r4, r5⟩ := h4 q
    refine ⟨t, ra, rq, z, r1, r2, r3.kept2 hg.size (fun g cs hc => ok g cs _ hc (by decide)), r4, fun q9 => ?_⟩
    obtain ⟨y, y1, y2, y3⟩ := r5 q9
    exact ⟨y, y1, y2, (ok y _ _ y3 (by decide)).trans y3⟩
  · rw [e8, e9, f5]
    intro q8 q9
    obtain ⟨y, y1, y2, y3⟩ := h5 q8 q9
    exact ⟨y, y1, y2, (ok y _ _ y3 (by decide)).trans y3⟩
/-- The reading. -/
theorem RdJ.four (h : RdJ w9 L sa n kk st rs ws wv D u W) (hb : Below W.heap.size W W') (h4 : D.getD 4 false = false) {t : Nat} {ra : Option Addr} {rq : Nat} {z : Int} (ht : t < 16) (hr : NuOwn 0 W'.heap.size W' ra (rdK rs ws t)) (hc : (rdK rs ws t).length ≤ rq) : RdJ w9 L sa n kk st rs ws wv (D.setIfInBounds 4 true) (upd u 30 (rdTup st ra (rdK rs ws t).length rq wv z)) W' := by
  have hL := h.src.lt
  have e3 : (D.setIfInBounds 4 true).getD 3 false = D.getD 3 false := getD_set_ne false (by omega)
  have e5 : (D.setIfInBounds 4 true).getD 5 false = D.getD 5 false := getD_set_ne false (by omega)
  have e6 : (D.setIfInBounds 4 true).getD 6 false = D.getD 6 false := getD_set_ne false (by omega)
  have e8 : (D.setIfInBounds 4 true).getD 8 false = D.getD 8 false := getD_set_ne false (by omega)
  have e9 : (D.setIfInBounds 4 true).getD 9 false = D.getD 9 false := getD_set_ne false (by omega)
  have f1 : upd u 30 (rdTup st ra (rdK rs ws t).length rq wv z) 29 = u 29 := upd_ne _ _ (by omega)
  have f5 : upd u 30 (rdTup st ra (rdK rs ws t).length rq wv z) 7 = u 7 := upd_ne _ _ (by omega)
  obtain ⟨h1, h2, h3, _, h5, h6, h7, h8⟩ := h
  have n5 : ¬ D.getD 5 false = true := fun e => by have := (h6 e).2; rw [h4] at this; cases this
  have n6 : ¬ D.getD 6 false = true := fun e => by have := (h7 e).2; rw [h4] at this; cases this
  have n9 : ¬ D.getD 9 false = true := fun e => by have := (h8 e).1; rw [h4] at this; cases this
  refine ⟨grown_below h1 hb, ?_, ?_, fun _ => ⟨t, ra, rq, z, ht, upd_at _ _ _, hr, hc, fun e => (n9 (e9 ▸ e)).elim⟩, ?_, fun e => (n5 (e5 ▸ e)).elim, fun e => (n6 (e6 ▸ e)).elim, fun e => (n9 (e9 ▸ e)).elim⟩
  · rw [e3]; intro q; exact (h2 q).move (hb.block L hL)
  · rw [e3, f1]; intro q; exact ⟨(h3 q).1.move (hb.block L hL), (h3 q).2⟩
  · rw [e8, e9, f5]
    intro q8 q9
    obtain ⟨y, y1, y2, y3⟩ := h5 q8 q9
    exact ⟨y, y1, y2, (hb.block y (Array.getElem?_eq_some_iff.1 y3).1).trans y3⟩
theorem RdJ.five (h : RdJ w9 L sa n kk st rs ws wv D u W) (h4 : D.getD 4 false = true) : RdJ w9 L sa n kk st rs ws wv (D.setIfInBounds 5 true) (upd u 25 (u 30)) W := by
  have e3 : (D.setIfInBounds 5 true).getD 3 false = D.getD 3 false := getD_set_ne false (by omega)
  have e4 : (D.setIfInBounds 5 true).getD 4 false = D.getD 4 false := getD_set_ne false (by omega)
  have e6 : (D.setIfInBounds 5 true).getD 6 false = D.getD 6 false := getD_set_ne false (by omega)
  have e8 : (D.setIfInBounds 5 true).getD 8 false = D.getD 8 false := getD_set_ne false (by omega)
  have e9 : (D.setIfInBounds 5 true).getD 9 false = D.getD 9 false := getD_set_ne false (by omega)
  have f1 : upd u 25 (u 30) 29 = u 29 := upd_ne _ _ (by omega)
  have f2 : upd u 25 (u 30) 30 = u 30 := upd_ne _ _ (by omega)
  have f4 : upd u 25 (u 30) 31 = u 31 := upd_ne _ _ (by omega)
  have f5 : upd u 25 (u 30) 7 = u 7 := upd_ne _ _ (by omega)
  obtain ⟨h1, h2, h3, h4', h5, h6, h7, h8⟩ := h
  exact ⟨h1, by rw [e3]; exact h2, by rw [e3, f1]; exact h3, by rw [e4, e9, f2, f5]; exact h4', by rw [e8, e9, f5]; exact h5, fun _ => ⟨by rw [upd_at, f2], by rw [e4]; exact h4⟩, by rw [e4, e6, f2, f4]; exact h7, by rw [e4, e8, e9]; exact h8⟩
theorem RdJ.six (h : RdJ w9 L sa n kk st rs ws wv D u W) (h4 : D.getD 4 false = true) {x z : Value} (hx : u 30 = .tuple #[x, z]) : RdJ w9 L sa n kk st rs ws wv (D.setIfInBounds 6 true) (upd u 31 x) W := by
  have e3 : (D.setIfInBounds 6 true).getD 3 false = D.getD 3 false := getD_set_ne false (by omega)
  have e4 : (D.setIfInBounds 6 true).getD 4 false = D.getD 4 false := getD_set_ne false (by omega)
  have e5 : (D.setIfInBounds 6 true).getD 5 false = D.getD 5 false := getD_set_ne false (by omega)
  have e8 : (D.setIfInBounds 6 true).getD 8 false = D.getD 8 false := getD_set_ne false (by omega)
  have e9 : (D.setIfInBounds 6 true).getD 9 false = D.getD 9 false := getD_set_ne false (by omega)
  have f1 : upd u 31 x 29 = u 29 := upd_ne _ _ (by omega)
  have f2 : upd u 31 x 30 = u 30 := upd_ne _ _ (by omega)
  have f3 : upd u 31 x 25 = u 25 := upd_ne _ _ (by omega)
  have f5 : upd u 31 x 7 = u 7 := upd_ne _ _ (by omega)
  obtain ⟨h1, h2, h3, h4', h5, h6, h7, h8⟩ := h
  exact ⟨h1, by rw [e3]; exact h2, by rw [e3, f1]; exact h3, by rw [e4, e9, f2, f5]; exact h4', by rw [e8, e9, f5]; exact h5, by rw [e4, e5, f2, f3]; exact h6, fun _ => ⟨⟨x, z, by rw [f2]; exact hx, upd_at _ _ _⟩, by rw [e4]; exact h4⟩, by rw [e4, e8, e9]; exact h8⟩
/-- The variable. -/
theorem RdJ.eight (h : RdJ w9 L sa n kk st rs ws wv D u W) (hb : Below W.heap.size W W') (h8 : D.getD 8 false = false) (hc : W'.heap[W.heap.size]? = some (.cells txZ 30 (0, 0))) : RdJ w9 L sa n kk st rs ws wv (D.setIfInBounds 8 true) (upd u 7 (.pointer (some ⟨W.heap.size, 0, none⟩))) W' := by
  have hL := h.src.lt
  have e3 : (D.setIfInBounds 8 true).getD 3 false = D.getD 3 false := getD_set_ne false (by omega)
  have e4 : (D.setIfInBounds 8 true).getD 4 false = D.getD 4 false := getD_set_ne false (by omega)
  have e5 : (D.setIfInBounds 8 true).getD 5 false = D.getD 5 false := getD_set_ne false (by omega)
  have e6 : (D.setIfInBounds 8 true).getD 6 false = D.getD 6 false := getD_set_ne false (by omega)
  have e9 : (D.setIfInBounds 8 true).getD 9 false = D.getD 9 false := getD_set_ne false (by omega)
  have f1 : upd u 7 (Value.pointer (some ⟨W.heap.size, 0, none⟩)) 29 = u 29 := upd_ne _ _ (by omega)
  have f2 : upd u 7 (Value.pointer (some ⟨W.heap.size, 0, none⟩)) 30 = u 30 := upd_ne _ _ (by omega)
  have f3 : upd u 7 (Value.pointer (some ⟨W.heap.size, 0, none⟩)) 25 = u 25 := upd_ne _ _ (by omega)
  have f4 : upd u 7 (Value.pointer (some ⟨W.heap.size, 0, none⟩)) 31 = u 31 := upd_ne _ _ (by omega)
  obtain ⟨h1, h2, h3, h4, h5, h6, h7, h8'⟩ := h
  have hz := h1.size
  have n9 : ¬ D.getD 9 false = true := fun e => by have := (h8' e).2; rw [h8] at this; cases this
  refine ⟨grown_below h1 hb, ?_, ?_, ?_, fun _ _ => ⟨W.heap.size, upd_at _ _ _, hz, hc⟩, by rw [e4, e5, f2, f3]; exact h6, by rw [e4, e6, f2, f4]; exact h7, fun e => (n9 (e9 ▸ e)).elim⟩
  · rw [e3]; intro q; exact (h2 q).move (hb.block L hL)
  · rw [e3, f1]; intro q; exact ⟨(h3 q).1.move (hb.block L hL), (h3 q).2⟩
  · rw [e4, f2]
    intro q
    obtain ⟨t, ra, rq, z, r1, r2, r3, r4, _⟩ := h4 q
    exact ⟨t, ra, rq, z, r1, r2, r3.kept2 hb.size (fun g cs hc => hb.block g (Array.getElem?_eq_some_iff.1 hc).1), r4, fun e => (n9 (e9 ▸ e)).elim⟩
/-- The store. -/
theorem RdJ.nine (h : RdJ w9 L sa n kk st rs ws wv D u W) (hs : 9 < D.size) (h8 : D.getD 8 false = true) (h9 : D.getD 9 false = false) {y t : Nat} {ra : Option Addr} {rq : Nat} {z : Int} (ht : t < 16) (q1 : u 7 = .pointer (some ⟨y, 0, none⟩)) (q2 : w9.heap.size ≤ y) (q3 : W.heap[y]? = some (.cells txZ 30 (0, 0))) (h4 : D.getD 4 false = true) (q4 : u 30 = rdTup st ra (rdK rs ws t).length rq wv z) (q5 : NuOwn 0 W.heap.size W ra (rdK rs ws t)) (q6 : (rdK rs ws t).length ≤ rq) (hg : ∀ g, g ≠ y → W'.heap[g]? = W.heap[g]?) (hz : W'.heap.size = W.heap.size) (hgr : w9.grownBy W' (some L)) (hc : W'.heap[y]? = some (.cells #[.int .i64 st, .slice ra (rdK rs ws t).length rq, wv] 30 (0, 0))) {val : Value} : RdJ w9 L sa n kk st rs ws wv (D.setIfInBounds 9 true) (upd u 99 val) W' := by
  have hne := h.src.ne q3 (by decide)
  have e3 : (D.setIfInBounds 9 true).getD 3 false = D.getD 3 false := getD_set_ne false (by omega)
  have e4 : (D.setIfInBounds 9 true).getD 4 false = D.getD 4 false := getD_set_ne false (by omega)
  have e5 : (D.setIfInBounds 9 true).getD 5 false = D.getD 5 false := getD_set_ne false (by omega)
  have e6 : (D.setIfInBounds 9 true).getD 6 false = D.getD 6 false := getD_set_ne false (by omega)
  have e8 : (D.setIfInBounds 9 true).getD 8 false = D.getD 8 false := getD_set_ne false (by omega)
  have f1 : upd u 99 val 29 = u 29 := upd_ne _ _ (by omega)
  have f2 : upd u 99 val 30 = u 30 := upd_ne _ _ (by omega)
  have f3 : upd u 99 val 25 = u 25 := upd_ne _ _ (by omega)
  have f4 : upd u 99 val 31 = u 31 := upd_ne _ _ (by omega)
  have f5 : upd u 99 val 7 = u 7 := upd_ne _ _ (by omega)
  obtain ⟨h1, h2, h3, _, h5, h6, h7, h8'⟩ := h
  refine ⟨hgr, ?_, ?_, fun _ => ⟨t, ra, rq, z, ht, by rw [f2]; exact q4, ?_, q6, fun _ => ⟨y, by rw [f5]; exact q1, q2, hc⟩⟩, fun _ e => by simp [hs] at e, by rw [e4, e5, f2, f3]; exact h6, by rw [e4, e6, f2, f4]; exact h7, fun _ => by rw [e4, e8]; exact ⟨h4, h8⟩⟩
  · rw [e3]; intro q; exact (h2 q).move (hg L (Ne.symm hne))
  · rw [e3, f1]; intro q; exact ⟨(h3 q).1.move (hg L (Ne.symm hne)), (h3 q).2⟩
  · exact q5.kept2 (by omega) (fun g cs hcs => hg g (by rintro rfl; rw [q3] at hcs; simp at hcs))
end
/-- The region 't.Writes = append(t.Writes, s.put())': 3 draws, 4 makes the row of one, 5 appends. -/
structure PtJ (w : World) (L X R : Nat) (box : Array Value) (sa : Option Addr) (n kk : Nat) (st : Int) (rs : List Int) (ra : Option Addr) (rq : Nat) (ws : List Ve) (wv : Value) (D : Array Bool) (u : Nat → Value) (W : World) : Prop where
  grown : w.grownBy W (some L)
  tx : W.heap[X]? = some (.cells #[.int .i64 st, .slice ra rs.length rq, wv] 30 (0, 0))
  rs0 : W.heap[R]? = some (.cells txZ 30 (0, 0))
  st : W.heap[w.heap.size]? = some (.cells box 25 (0, 0))
  nu : NuOwn 0 W.heap.size W ra rs
  s0 : D.getD 3 false = false → SrcSt W L sa n kk
  s1 : D.getD 3 false = true → SrcSt W L sa n (kk + 3) ∧ ∃ p : Ve, u 37 = .agg #[.int .i64 p.ts, .int .i64 p.v] ∧ putB p.ts p.v = true
  own : D.getD 5 false = false → W.ownsRow w.heap.size 43 2 wv ws.length (veCells ws)
  one : D.getD 4 false = true → D.getD 5 false = false → ∃ (p : Ve) (h : Nat), putB p.ts p.v = true ∧ u 38 = .slice (some ⟨h, 0, none⟩) 1 1 ∧ W.heap[h]? = some (.cells #[.int .i64 p.ts, .int .i64 p.v] 43 (0, 0))
  app : D.getD 5 false = true → ∃ (p : Ve) (g cap : Nat), putB p.ts p.v = true ∧ u 39 = .slice (some ⟨g, 0, none⟩) (ws.length + 1) cap ∧ W.ownsRow w.heap.size 43 2 (.slice (some ⟨g, 0, none⟩) (ws.length + 1) cap) (ws.length + 1) (veCells (ws ++ [p]))
  c4 : D.getD 4 false = true → D.getD 3 false = true
  c5 : D.getD 5 false = true → D.getD 4 false = true
section
variable {w W W' : World} {L X R : Nat} {box : Array Value} {sa : Option Addr} {n kk : Nat} {st : Int} {rs : List Int} {ra : Option Addr} {rq : Nat} {ws : List Ve} {wv : Value} {D : Array Bool} {u : Nat → Value}
theorem PtJ.src (h : PtJ w L X R box sa n kk st rs ra rq ws wv D u W) : SrcSt W L sa n (kk + 3) := by
  cases h3 : D.getD 3 false
  · exact (h.s0 h3).more (by omega)
  · exact (h.s1 h3).1
theorem PtJ.start {w9 : World} {m : Nat} (hg : w.grownBy w9 (some L)) (hX : w9.heap[X]? = some (.cells #[.int .i64 st, .slice ra rs.length rq, wv] 30 (0, 0))) (hR : w9.heap[R]? = some (.cells txZ 30 (0, 0))) (hB : w9.heap[w.heap.size]? = some (.cells box 25 (0, 0))) (hn : NuOwn 0 w9.heap.size w9 ra rs) (hS : SrcSt w9 L sa n kk) (ho : w9.ownsRow w.heap.size 43 2 wv ws.length (veCells ws)) : PtJ w L X R box sa n kk st rs ra rq ws wv (Array.replicate m false) u w9.drew := by
  have no : ∀ j, (Array.replicate m false).getD j false = true → False := fun j hj => by
    by_cases hx : j < m
    · simp [hx] at hj
    · simp [hx] at hj
  exact ⟨grown_below hg (Below.refl _ _).drew, hX, hR, hB, hn, fun _ => hS, fun h => (no _ h).elim, fun _ => ho, fun h => (no _ h).elim, fun h => (no _ h).elim, fun h => (no _ h).elim, fun h => (no _ h).elim⟩
theorem PtJ.step (h : PtJ w L X R box sa n kk st rs ra rq ws wv D u W) {i d : Nat} {val : Value} (hi : i ≠ 3 ∧ i ≠ 4 ∧ i ≠ 5) (hd : d ≠ 37 ∧ d ≠ 38 ∧ d ≠ 39) : PtJ w L X R box sa n kk st rs ra rq ws wv (D.setIfInBounds i true) (upd u d val) W := by
  obtain ⟨i3, i4, i5⟩ := hi
  obtain ⟨d1, d2, d3⟩ := hd
  have e3 : (D.setIfInBounds i true).getD 3 false = D.getD 3 false := getD_set_ne false i3
  have e4 : (D.setIfInBounds i true).getD 4 false = D.getD 4 false := getD_set_ne false i4
  have e5 : (D.setIfInBounds i true).getD 5 false = D.getD 5 false := getD_set_ne false i5
  have f1 : upd u d val 37 = u 37 := upd_ne _ _ (Ne.symm d1)
  have f2 : upd u d val 38 = u 38 := upd_ne _ _ (Ne.symm d2)
  have f3 : upd u d val 39 = u 39 := upd_ne _ _ (Ne.symm d3)
  obtain ⟨h1, h2, h3, hB, h4, h5, h6, h7, h8, h9, h10, h11⟩ := h
  exact ⟨h1, h2, h3, hB, h4, by rw [e3]; exact h5, by rw [e3, f1]; exact h6, by rw [e5]; exact h7, by rw [e4, e5, f2]; exact h8, by rw [e5, f3]; exact h9, by rw [e3, e4]; exact h10, by rw [e4, e5]; exact h11⟩
theorem PtJ.three (h : PtJ w L X R box sa n kk st rs ra rq ws wv D u W) (hg : W.grownBy W' (some L)) (hs : 3 < D.size) (h3 : D.getD 3 false = false) {p : Ve} (hp : putB p.ts p.v = true) (hS : SrcSt W' L sa n (kk + 3)) : PtJ w L X R box sa n kk st rs ra rq ws wv (D.setIfInBounds 3 true) (upd u 37 (.agg #[.int .i64 p.ts, .int .i64 p.v])) W' := by
  have hsrc := h.src
  have e4 : (D.setIfInBounds 3 true).getD 4 false = D.getD 4 false := getD_set_ne false (by omega)
  have e5 : (D.setIfInBounds 3 true).getD 5 false = D.getD 5 false := getD_set_ne false (by omega)
  have ok : ∀ (g : Nat) (cs : Array Value) (T : TypeId), W.heap[g]? = some (.cells cs T (0, 0)) → T ≠ 78 → W'.heap[g]? = W.heap[g]? := fun g cs T hgT hT => hg.block g (Array.getElem?_eq_some_iff.1 hgT).1 (by have := hsrc.ne hgT hT; simpa using this)
  obtain ⟨h1, h2, h3', hB, h4, h5, h6, h7, h8, h9, h10, h11⟩ := h
  have n4 : ¬ D.getD 4 false = true := fun e => by have := h10 e; rw [h3] at this; cases this
  have n5 : ¬ D.getD 5 false = true := fun e => n4 (h11 e)
  refine ⟨grown_trans h1 hg, (ok X _ _ h2 (by decide)).trans h2, (ok R _ _ h3' (by decide)).trans h3', (ok _ _ _ hB (by decide)).trans hB, h4.kept2 hg.size (fun g cs hc => ok g cs _ hc (by decide)), fun e => by simp [hs] at e, fun _ => ⟨hS, p, upd_at _ _ _, hp⟩, fun e => ?_, fun e => (n4 (e4 ▸ e)).elim, fun e => (n5 (e5 ▸ e)).elim, fun e => (n4 (e4 ▸ e)).elim, fun e => (n5 (e5 ▸ e)).elim⟩
  have ho := h7 (e5 ▸ e)
  refine own_set ho (fun g hg2 => ?_)
  rcases ho.2 with ⟨e1, _⟩ | ⟨ga, ca, cua, ea, _, ha, _⟩
  · rw [e1] at hg2; cases hg2
  · rw [ea] at hg2
    simp only [Value.ownBlock, Option.some.injEq] at hg2
    subst hg2
    exact ok _ _ _ ha (by decide)
theorem PtJ.four (h : PtJ w L X R box sa n kk st rs ra rq ws wv D u W) (hb : Below W.heap.size W W') (hs : 4 < D.size) (h4 : D.getD 4 false = false) (h3 : D.getD 3 false = true) {p : Ve} (hp : putB p.ts p.v = true) (hc : W'.heap[W.heap.size]? = some (.cells #[.int .i64 p.ts, .int .i64 p.v] 43 (0, 0))) : PtJ w L X R box sa n kk st rs ra rq ws wv (D.setIfInBounds 4 true) (upd u 38 (.slice (some ⟨W.heap.size, 0, none⟩) 1 1)) W' := by
  have hL := h.src.lt
  have e3 : (D.setIfInBounds 4 true).getD 3 false = D.getD 3 false := getD_set_ne false (by omega)
  have e5 : (D.setIfInBounds 4 true).getD 5 false = D.getD 5 false := getD_set_ne false (by omega)
  have f1 : upd u 38 (Value.slice (some ⟨W.heap.size, 0, none⟩) 1 1) 37 = u 37 := upd_ne _ _ (by omega)
  obtain ⟨h1, h2, h3', hB, h4', h5, h6, h7, h8, h9, h10, h11⟩ := h
  have n5 : ¬ D.getD 5 false = true := fun e => by have := h11 e; rw [h4] at this; cases this
  refine ⟨grown_below h1 hb, (hb.block X (Array.getElem?_eq_some_iff.1 h2).1).trans h2, (hb.block R (Array.getElem?_eq_some_iff.1 h3').1).trans h3', (hb.block _ (Array.getElem?_eq_some_iff.1 hB).1).trans hB, h4'.kept2 hb.size (fun g cs hc => hb.block g (Array.getElem?_eq_some_iff.1 hc).1), ?_, ?_, fun e => own_below (h7 (e5 ▸ e)) hb, fun _ _ => ⟨p, W.heap.size, hp, upd_at _ _ _, hc⟩, fun e => (n5 (e5 ▸ e)).elim, fun _ => e3 ▸ h3, fun e => (n5 (e5 ▸ e)).elim⟩
  · rw [e3]; intro q; exact (h5 q).move (hb.block L hL)
  · rw [e3, f1]; intro q; exact ⟨(h6 q).1.move (hb.block L hL), (h6 q).2⟩
theorem PtJ.five (h : PtJ w L X R box sa n kk st rs ra rq ws wv D u W) (hLw : L < w.heap.size) (hs : 5 < D.size) (h5 : D.getD 5 false = false) (h4 : D.getD 4 false = true) (hgr : W.grownBy W' wv.ownBlock) {p : Ve} {g cap : Nat} (hp : putB p.ts p.v = true) (ho : W'.ownsRow w.heap.size 43 2 (.slice (some ⟨g, 0, none⟩) (ws.length + 1) cap) (ws.length + 1) (veCells (ws ++ [p]))) : PtJ w L X R box sa n kk st rs ra rq ws wv (D.setIfInBounds 5 true) (upd u 39 (.slice (some ⟨g, 0, none⟩) (ws.length + 1) cap)) W' := by
  have hL := h.src.lt
  have e3 : (D.setIfInBounds 5 true).getD 3 false = D.getD 3 false := getD_set_ne false (by omega)
  have e4 : (D.setIfInBounds 5 true).getD 4 false = D.getD 4 false := getD_set_ne false (by omega)
  have f1 : upd u 39 (Value.slice (some ⟨g, 0, none⟩) (ws.length + 1) cap) 37 = u 37 := upd_ne _ _ (by omega)
  obtain ⟨h1, h2, h3, hB, h4', h5', h6, h7, h8, h9, h10, h11⟩ := h
  have how := h7 h5
  have nb : ∀ (b : Nat) (cs : Array Value) (T : TypeId), W.heap[b]? = some (.cells cs T (0, 0)) → T ≠ 43 → W'.heap[b]? = W.heap[b]? := fun b cs T hb hT => hgr.block b (Array.getElem?_eq_some_iff.1 hb).1 (fun e => by
    rcases how.2 with ⟨e1, _⟩ | ⟨ga, ca, cua, ea, _, ha, _⟩
    · rw [e1] at e; cases e
    · rw [ea] at e
      simp only [Value.ownBlock, Option.some.injEq] at e
      subst e
      rw [ha] at hb
      simp only [Option.some.injEq, Obj.cells.injEq] at hb
      exact hT hb.2.1.symm)
  have hLL : W'.heap[L]? = W.heap[L]? := hgr.block L hL (fun e => by have := own_base how L e.symm; omega)
  refine ⟨grown_over h1 hgr (fun k hk => own_base how k hk), (nb X _ _ h2 (by decide)).trans h2, (nb R _ _ h3 (by decide)).trans h3, (nb _ _ _ hB (by decide)).trans hB, h4'.kept2 hgr.size (fun g cs hc => nb g cs _ hc (by decide)), ?_, ?_, fun e => by simp [hs] at e, fun _ e => by simp [hs] at e, fun _ => ⟨p, g, cap, hp, upd_at _ _ _, ho⟩, fun _ => e3 ▸ h10 h4, fun _ => e4 ▸ h4⟩
  · rw [e3]; intro q; exact (h5' q).move hLL
  · rw [e3, f1]; intro q; exact ⟨(h6 q).1.move hLL, (h6 q).2⟩
end
end Go.Proofs.Ytbpkjpoicelgcaa.G
namespace Go.Proofs.Ytbpkjpoicelgcaa.G
open Go.ChangeShapes Go.WideShapes Go.ChangeAt Go.RowKit
set_option linter.unusedVariables false

theorem VeRow.drop {lo hi : Nat} {w : World} {b o : Nat} {l : List Ve} (h : VeRow lo hi w (some ⟨b, o, none⟩) l) (k : Nat) : VeRow lo hi w (some ⟨b, o + k * 2, none⟩) (l.drop k) := by
  rcases h with rfl | ⟨b', o', e, h1, h2, h3⟩
  · exact .inl (by simp)
  · simp only [Option.some.injEq, Addr.mk.injEq, and_true] at e
    obtain ⟨rfl, rfl⟩ := e
    refine .inr ⟨b, _, rfl, h1, h2, fun i x hx => ?_⟩
    have := h3 (k + i) x (by simpa [List.getElem?_drop] using hx)
    rwa [show o + (k + i) * 2 = o + k * 2 + i * 2 by omega] at this
end Go.Proofs.Ytbpkjpoicelgcaa.G
namespace Go.Proofs.Ytbpkjpoicelgcaa.G
open Go.ChangeShapes Go.WideShapes Go.ChangeAt Go.RowKit
set_option linter.unusedVariables false

theorem VeRow.cut {lo hi : Nat} {w : World} {a : Option Addr} {l : List Ve} (h : VeRow lo hi w a l) (k : Nat) : VeRow lo hi w (a.map (fun x => x.add (k * 2))) (l.drop k) := by
  rcases h with rfl | ⟨b, o, rfl, h1, h2, h3⟩
  · exact .inl (by simp)
  · have := VeRow.drop (show VeRow lo hi w (some ⟨b, o, none⟩) l from .inr ⟨b, o, rfl, h1, h2, h3⟩) k
    simpa [add_plain] using this
/-- What each operation of the copying tells. -/
def FgPv (B N0 M0 : Nat) (W0 : World) (v : Value) (a3 : Option Addr) (c3 gn : Nat) (lc : List Ve) : Nat → Value → World → Prop
  | 0, y, _ => y = .pointer (some ⟨B, 0, none⟩)
  | 1, y, _ => y = v
  | 2, y, _ => ∃ g, y = .slice g 0 0
  | 3, y, _ => y = .slice a3 lc.length c3
  | 4, y, _ => y = .int .i64 gn
  | 5, y, _ => ∃ a5 c5, y = .slice a5 (lc.length - gn) c5 ∧ VeRow 0 M0 W0 a5 (lc.drop gn)
  | 6, y, W => KidX v.ownBlock N0 W y (lc.drop gn)
  | 7, y, W => ∃ h z, y = .slice (some ⟨h, 0, none⟩) 1 1 ∧ N0 ≤ h ∧ W.heap[h]? = some (.cells #[z] 58 (0, 0)) ∧ KidX v.ownBlock N0 W z (lc.drop gn)
  | 8, _, _ => True
  | _, y, _ => y = .pointer (some ⟨B, 0, none⟩)
theorem FgPv.up {B N0 M0 : Nat} {W0 : World} {v : Value} {a3 : Option Addr} {c3 gn : Nat} {lc : List Ve} {W W' : World} (hs : W.heap.size ≤ W'.heap.size) (hk : ∀ k, N0 ≤ k → k < W.heap.size → W'.heap[k]? = W.heap[k]?) {i : Nat} {y : Value} (h : FgPv B N0 M0 W0 v a3 c3 gn lc i y W) : FgPv B N0 M0 W0 v a3 c3 gn lc i y W' := by
  unfold FgPv at h ⊢
  split at h
  case h_7 => exact h.keep hs (fun k a1 a2 a3 => ⟨hk k a1 a2, a3⟩)
  case h_8 =>
    obtain ⟨h', z, h1, h2, h3, h4⟩ := h
    exact ⟨h', z, h1, h2, (hk _ h2 (Array.getElem?_eq_some_iff.1 h3).1).trans h3, h4.keep hs (fun k a1 a2 a3 => ⟨hk k a1 a2, a3⟩)⟩
  all_goals exact h
set_option maxHeartbeats 8000000 in
set_option maxRecDepth 40000 in
theorem spec_l06Forget (a : Option Addr) (c : Nat) (l : Chs) (now low : Int) (w : World) (hr : ChRow 0 w.heap.size w a l) (hbd : ChsBd 1048576 l) (h16 : l.length = 16) (hrise : ∀ i (h : i < l.length), Rise l[i]) :
    Calls Try.prog 48 #[.agg #[.slice a l.length c, .int .i64 now], .int .i64 low] w fun e w' => ∃ a' c', e = .returned (.tuple #[.agg #[.slice a' (fgS low l).length c', .int .i64 now], .int .i64 (goS low l)]) ∧ ChRow w.heap.size w'.heap.size w' a' (fgS low l) ∧ Below w.heap.size w w' := by
  have HR : Hid (ChRow 0 w.heap.size w a l) := hr
  have HT : Hid (∀ x ∈ l, x.length ≤ 1048576) := hbd.2
  have H16 : Hid _ := h16
  have HS : Hid _ := hrise
  clear hr hbd h16 hrise
  go_enter Try.func48, Try.ntmps48
  go_wp2_with fail
  obtain ⟨V, hV⟩ : ∃ V : World, V = (((w.alloc (.cells #[.slice a l.length c, .int .i64 now] 25)).alloc (.cells #[.slice none 0 0, .int .i64 0] 25)).alloc (.cells #[] 58)).alloc (.cells #[.slice (some ⟨w.heap.size + 1 + 1, 0, none⟩) 0 0, .int .i64 now] 25) := ⟨_, rfl⟩
  have zV : V.heap.size = w.heap.size + 4 := by rw [hV]; simp
  have bV : Below w.heap.size w V := by
    rw [hV]
    repeat (first | exact Below.refl _ _ | refine Below.alloc ?_ (by first | omega | (simp <;> omega)) _)
  have c0 : V.heap[w.heap.size]? = some (.cells #[.slice a l.length c, .int .i64 now] 25 (0, 0)) := by
    rw [hV, Below.heap_alloc _ _ _ (by simp <;> omega), Below.heap_alloc _ _ _ (by simp <;> omega), Below.heap_alloc _ _ _ (by simp <;> omega)]; exact heap_alloc_new _ _
  have c1 : V.heap[w.heap.size + 1]? = some (.cells #[.slice none 0 0, .int .i64 0] 25 (0, 0)) := by
    rw [hV, Below.heap_alloc _ _ _ (by simp <;> omega), Below.heap_alloc _ _ _ (by simp <;> omega)]
    have := heap_alloc_new (w.alloc (.cells #[.slice a l.length c, .int .i64 now] 25)) (.cells #[.slice none 0 0, .int .i64 0] 25)
    simpa using this
  have gV : Grow (w.heap.size + 1 + 1 + 1) now V (.slice (some ⟨w.heap.size + 1 + 1, 0, none⟩) 0 0) [] [] := by
    refine ⟨?_, ⟨rfl, .inr ⟨w.heap.size + 1 + 1, 0, #[], rfl, by omega, ?_, Nat.le_refl _, Nat.zero_le _, rfl, rfl⟩⟩, by simp [Value.ownBlock], fun i x hx => by simp at hx⟩
    · rw [hV]
      have := heap_alloc_new (((w.alloc (.cells #[.slice a l.length c, .int .i64 now] 25)).alloc (.cells #[.slice none 0 0, .int .i64 0] 25)).alloc (.cells #[] 58)) (.cells #[.slice (some ⟨w.heap.size + 1 + 1, 0, none⟩) 0 0, .int .i64 now] 25)
      simpa using this
    · rw [hV, Below.heap_alloc _ _ _ (by simp <;> omega)]
      have := heap_alloc_new ((w.alloc (.cells #[.slice a l.length c, .int .i64 now] 25)).alloc (.cells #[.slice none 0 0, .int .i64 0] 25)) (.cells #[] 58)
      simpa using this
  rw [← hV]
  have GV : Hid _ := gV
  have CV : Hid (V.heap[w.heap.size]? = some (.cells #[.slice a l.length c, .int .i64 now] 25 (0, 0)) ∧ V.heap[w.heap.size + 1]? = some (.cells #[.slice none 0 0, .int .i64 0] 25 (0, 0)) ∧ Below w.heap.size w V) := ⟨c0, c1, bV⟩
  clear gV c0 c1 bV hV
  go_loopw [7, 8] (fun s i w' => ∃ (k n : Nat) (v : Value) (vs : List Value), k ≤ l.length ∧ i = .int .i64 k ∧ s = .int .i64 n ∧ n ≤ k * 1048576 ∧ Hid (n = goS low (l.take k)) ∧ Below (w.heap.size + 1 + 1) V w' ∧ Hid (Grow (w.heap.size + 1 + 1 + 1) now w' v vs ((fgS low l).take k))) (fun _ i _ => l.length - (intOf i).toNat)
  case atStart => exact ⟨0, 0, _, _, by omega, rfl, rfl, by omega, by simp [Hid, goS], Below.refl _ _, by rw [List.take_zero]; exact GV⟩
  case round =>
    obtain ⟨wo, rfl⟩ : ∃ x, x = wr := ⟨_, rfl⟩
    obtain ⟨k, n, v, vs, hk, rfl, rfl, hn, HN, hb, HG⟩ := hrel
    have hz := hb.size
    have h16 := H16.out
    have e0 : wo.heap[w.heap.size]? = some (.cells #[.slice a l.length c, .int .i64 now] 25 (0, 0)) := (hb.block _ (by omega)).trans CV.out.1
    have e1 : wo.heap[w.heap.size + 1]? = some (.cells #[.slice none 0 0, .int .i64 0] 25 (0, 0)) := (hb.block _ (by omega)).trans CV.out.2.1
    have Q : Hid (Below w.heap.size w wo) := CV.out.2.2.trans (hb.mono (by omega))
    by_cases hlt : k < l.length
    case neg =>
      obtain rfl : k = l.length := by omega
      have hk16 : ¬ (l.length : Int) < 16 := by omega
      have hfl := fgS_len low l
      have GE : Hid (Grow (w.heap.size + 1 + 1 + 1) now wo v vs (fgS low l)) := by have := HG.out; rw [List.take_of_length_le (by omega)] at this; exact this
      obtain ⟨a', c', hv, hrow⟩ := GE.out.row
      have x0 := fun o => row_cell GE.out.cell o
      have x1 := fun o => row_cell e1 o
      have y1 := fun o => row_frozen e1 o
      have HN2 : Hid (n = goS low l) := by have := HN.out; rw [List.take_of_length_le (by omega)] at this; exact this
      have HRW : Hid _ := hrow
      have E1 : Hid _ := e1
      subst hv
      clear e0 e1 h16 hrow HG hfl
      go_wp2_with fail
      refine bodyPost_ret (v := .tuple #[.agg #[.slice a' (fgS low l).length c', .int .i64 now], .int .i64 n]) (by simp [results, Try.results48, go_sem, x1]) rfl ⟨a', ⟨c', by rw [HN2.out]⟩, ?_, ?_⟩
      · refine ChRow.wide (ChRow.keep HRW.out ?_) (by omega) (by simp)
        intro g h1 h2
        rw [heap_set _ _ _ _ _ (by omega), heap_set _ _ _ _ _ (by omega)]
      · repeat (refine Below.setCell ?_ (by first | omega | (simp <;> omega)) _)
        exact Q.out
    have hk16 : (k : Int) < 16 := by omega
    obtain ⟨b, o, a3, c3, ha, _, hbl, d0, hcap, r3⟩ := ChRow.cells (ChRow.keep HR.out (agree Q.out (Nat.le_refl _))) k hlt
    subst ha
    have hX : l[k].length ≤ 1048576 := HT.out l[k] (List.getElem_mem hlt)
    have R3 : Hid (VeRow 0 w.heap.size wo a3 l[k]) := r3
    have HS3 : Hid _ := HS.out k hlt
    have x0 := fun o => row_cell e0 o
    have HB : Hid _ := hb
    have E1 : Hid _ := e1
    clear r3 e0 e1 h16 hb
    obtain ⟨gn, hgn⟩ : ∃ gn, gn = goN low l[k] := ⟨_, rfl⟩
    have HGN : Hid (gn = goN low l[k]) := hgn
    have hgl : gn ≤ l[k].length := by rw [hgn]; exact goN_le low l[k]
    have hgl2 : gn = 0 ∨ gn + 1 ≤ l[k].length := by have := upN_le low l[k]; rw [hgn]; unfold goN; omega
    have hn16 : n ≤ 16777216 := Nat.le_trans hn (Nat.mul_le_mul_right 1048576 (show k ≤ 16 by omega))
    clear hgn
    go_upto_block 2 with fail
    go_cut [10] from 24 to 40 (fun u wx => u = .int .i64 gn ∧ wx = wo)
    case first =>
      go_wp2_with fail
      go_loop [10] (fun j => ∃ (m : Nat), m ≤ gn ∧ j = .int .i64 m) (fun j => l[k].length - (intOf j).toNat)
      case atStart => exact ⟨0, by omega, rfl⟩
      case round =>
        obtain ⟨m, hm, rfl⟩ := hrel
        have cont : m + 1 < l[k].length → (tsAt l[k] (m + 1) ≤ low ↔ m + 1 ≤ gn) := fun h => by have := goN_step (low := low) HS3.out (show m ≤ goN low l[k] by rw [← HGN.out]; exact hm) h; rw [← HGN.out] at this; exact this
        by_cases hmt : m + 1 < l[k].length ∧ m + 1 ≤ gn
        · obtain ⟨h1, h2⟩ := hmt
          have ht := (cont h1).2 h2
          rw [tsAt_eq h1] at ht
          obtain ⟨b2, o2, ha2, _, hbl2, f0, f1⟩ := VeRow.cells R3.out (m + 1) h1
          subst ha2
          have h1' : (m : Int) + 1 < l[k].length := by omega
          clear cont
          go_wp2_with fail
          go_round
          case rel => exact ⟨m + 1, h2, by go_num⟩
          case measure => simp [intOf]; omega
        · obtain rfl : gn = m := by
            by_cases e : m + 1 ≤ gn
            · exfalso; apply hmt; omega
            · omega
          by_cases h1 : gn + 1 < l[k].length
          · have ht : ¬ tsAt l[k] (gn + 1) ≤ low := fun h => by have := (cont h1).1 h; omega
            rw [tsAt_eq h1] at ht
            obtain ⟨b2, o2, ha2, _, hbl2, f0, f1⟩ := VeRow.cells R3.out (gn + 1) h1
            subst ha2
            have h1' : (gn : Int) + 1 < l[k].length := by omega
            clear cont
            go_wp2_with fail
            go_meet
            exact ⟨rfl, rfl⟩
          · have h1' : ¬ (gn : Int) + 1 < l[k].length := by omega
            clear cont
            go_wp2_with fail
            go_meet
            exact ⟨rfl, rfl⟩
    obtain ⟨rfl, rfl⟩ := hcut
    have x6 := fun o => row_cell HG.out.cell o
    go_wp2_with fail
    have hN0 : w.heap.size + 1 + 1 + 1 + 1 ≤ wc.heap.size := by omega
    have hrb := HG.out.lt.2
    have HRB : Hid _ := hrb
    have hpl : ((fgS low l).take k).length = k := by rw [List.length_take, fgS_len]; omega
    have HPL : Hid _ := hpl
    have HGN2 : Hid (l[k].drop gn = fgC low l[k]) := by rw [Hid, HGN.out]; rfl
    have HB3 : Hid (VeRow 0 wc.heap.size wc a3 l[k]) := VeRow.wide R3.out (Nat.le_refl _) (by have := Q.out.size; omega)
    clear hrb hpl x0 x6 d0
    refine region_rel5 (n := 10) (k := 1) (by omega) (by kernel_rfl) (by kernel_rfl) (by kernel_rfl) (fun u => ⟨#[.agg #[.slice (some ⟨b, o, none⟩) l.length c, .int .i64 now], .int .i64 low, .pointer (some ⟨w.heap.size, 0, none⟩), undef, .pointer (some ⟨w.heap.size + 1, 0, none⟩), .int .i64 0, .pointer (some ⟨w.heap.size + 1 + 1 + 1, 0, none⟩), .int .i64 ((n : Int) + gn), .int .i64 k, .slice a3 l[k].length c3, .int .i64 gn, .slice (some ⟨w.heap.size + 1 + 1, 0, none⟩) 0 0, .pointer (some ⟨w.heap.size, 1, none⟩), .int .i64 now, .agg #[.slice (some ⟨w.heap.size + 1 + 1, 0, none⟩) 0 0, .int .i64 now], .int .i64 k, .bool true, u17, u18, .pointer (some ⟨w.heap.size, 0, none⟩), .slice (some ⟨b, o, none⟩) l.length c, .int .i64 k, .pointer (some ⟨b, o + k, none⟩), .slice a3 l[k].length c3, u24, u25, u26, u27, u28, u29, u30, u31, u32, u33, u34, u35, u36, u37, u38, u39, u40, .int .i64 n, .int .i64 gn, .int .i64 ((n : Int) + gn), u 44, u 45, u 46, u 47, u 48, u 49, u 50, u 51, u 52, u 53, undef, undef], []⟩) (fun n => match n with | 44 => u44 | 45 => u45 | 46 => u46 | 47 => u47 | 48 => u48 | 49 => u49 | 50 => u50 | 51 => u51 | 52 => u52 | 53 => u53 | _ => undef) (fun i => 44 + i) (fun i j _ _ h => by omega)
      (FgPv (w.heap.size + 1 + 1 + 1) wc.heap.size w.heap.size wc v a3 c3 gn l[k]) (GrJ 8 52 (w.heap.size + 1 + 1 + 1) now wc v vs ((fgS low l).take k) (l[k].drop gn)) (GrJ.start HG.out) ?step ?last
    case step =>
      intro L u W i hi hLs hLi hj hdep
      have hzW := hj.1.size
      have hcase : i = 0 ∨ i = 1 ∨ i = 2 ∨ i = 3 ∨ i = 4 ∨ i = 5 ∨ i = 6 ∨ i = 7 ∨ i = 8 ∨ i = 9 := by omega
      rcases hcase with rfl | rfl | rfl | rfl | rfl | rfl | rfl | rfl | rfl | rfl
      · refine wpOp_step rfl (fun K hK => ?_)
        clear hdep
        go_simp
        exact hK _ _ ⟨_, rfl, fun _ _ h => h, rfl, hj.step (Below.refl _ _) (by omega) (by omega)⟩
      · have d0 : u 44 = .pointer (some ⟨w.heap.size + 1 + 1 + 1, 0, none⟩) := (hdep _ rfl ⟨0, .data⟩ (by simp) rfl).2
        have x6 := fun o => row_cell ((hj.1.block _ HG.out.lt.1 (fun e => HG.out.off e.symm)).trans HG.out.cell) o
        refine wpOp_step rfl (fun K hK => ?_)
        clear hdep
        go_simp
        exact hK _ _ ⟨_, by simp [upd, d0], fun _ _ h => h, rfl, hj.step (Below.refl _ _) (by omega) (by omega)⟩
      · refine wpOp_step rfl (fun K hK => ?_)
        clear hdep
        go_simp
        exact hK _ _ ⟨_, rfl, fun j y h => FgPv.up (by simp) (fun k _ h2 => Below.heap_alloc _ _ _ h2) h, ⟨_, rfl⟩, hj.step ((Below.refl _ _).alloc (Nat.le_refl _) _) (by omega) (by omega)⟩
      · refine wpOp_step rfl (fun K hK => ?_)
        clear hdep
        go_simp
        exact hK _ _ ⟨_, rfl, fun _ _ h => h, rfl, hj.step (Below.refl _ _) (by omega) (by omega)⟩
      · refine wpOp_step rfl (fun K hK => ?_)
        clear hdep
        go_simp
        exact hK _ _ ⟨_, rfl, fun _ _ h => h, rfl, hj.step (Below.refl _ _) (by omega) (by omega)⟩
      · have d3 : u 47 = .slice a3 l[k].length c3 := (hdep _ rfl ⟨3, .data⟩ (by simp) rfl).2
        have d4 : u 48 = .int .i64 gn := (hdep _ rfl ⟨4, .data⟩ (by simp) rfl).2
        have hg1 : (gn : Int) ≤ l[k].length := by omega
        have HV5 : Hid _ := VeRow.cut R3.out gn
        by_cases hcg : c3 = gn
        · subst hcg
          refine wpOp_step rfl (fun K hK => ?_)
          clear hdep
          go_simp
          exact hK _ _ ⟨.slice a3 0 0, by simp [upd, d3, d4], fun _ _ h => h, ⟨a3, 0, by rw [show l[k].length - c3 = 0 by omega], .inl (List.drop_eq_nil_of_le (by omega))⟩, hj.step (Below.refl _ _) (by omega) (by omega)⟩
        · refine wpOp_step rfl (fun K hK => ?_)
          clear hdep
          go_simp
          exact hK _ _ ⟨.slice (a3.map (fun x => x.add (gn * 2))) (l[k].length - gn) (c3 - gn), by simp [upd, d3, d4], fun _ _ h => h, ⟨_, _, rfl, HV5.out⟩, hj.step (Below.refl _ _) (by omega) (by omega)⟩
      · obtain ⟨g2, d2⟩ : ∃ g, u 46 = .slice g 0 0 := (hdep _ rfl ⟨2, .data⟩ (by simp) rfl).2
        obtain ⟨a5, c5, d5, r5⟩ : ∃ a5 c5, u 49 = .slice a5 (l[k].length - gn) c5 ∧ VeRow 0 w.heap.size wc a5 (l[k].drop gn) := (hdep _ rfl ⟨5, .data⟩ (by simp) rfl).2
        have r5W : VeRow 0 W.heap.size W a5 (l[k].drop gn) := VeRow.wide (VeRow.keep r5 (fun g _ h2 => hj.1.block g (by omega) (fun e => by have := HRB.out g e.symm; omega))) (Nat.le_refl _) (by omega)
        obtain ⟨a6, c6, W6, hrun, h61, h62, h63⟩ := app_fresh (l[k].drop gn) a5 g2 c5 W r5W (by simp; omega)
        rw [List.length_drop] at hrun h61
        have HK6 : Hid (KidX v.ownBlock wc.heap.size W6 (.slice a6 (l[k].length - gn) c6) (l[k].drop gn)) := by
          refine ⟨a6, c6, by rw [List.length_drop], by rw [List.length_drop]; exact h61, ?_⟩
          rcases h62 with h | ⟨h, hv⟩
          · exact .inl h
          · exact .inr ⟨W.heap.size, h, hzW, hv.lt, fun e => by have := (HRB.out _ e.symm).2; omega, hv⟩
        have H63 : Hid _ := h63
        clear hdep r5 r5W h61 h62 h63
        refine wpOp_step rfl (fun K hK => ?_)
        refine wp_append_run (.tmp 46) (.tmp 49) _ rfl _ _ _ _ d2 d5 hrun ?_
        exact hK _ _ ⟨_, rfl, fun j y h => FgPv.up H63.out.size (fun k _ h2 => H63.out.block k h2) h, HK6.out, hj.step H63.out (by omega) (by omega)⟩
      · have d6 : KidX v.ownBlock wc.heap.size W (u 50) (l[k].drop gn) := (hdep _ rfl ⟨6, .data⟩ (by simp) rfl).2
        have H6 := d6
        obtain ⟨a6, c6, e6, _⟩ := d6
        rw [List.length_drop] at e6
        rw [e6] at H6
        have HK7 : Hid _ := H6
        clear hdep H6
        refine wpOp_step rfl (fun K hK => ?_)
        go_simp
        exact hK _ _ ⟨.slice (some ⟨W.heap.size, 0, none⟩) 1 1, by simp [upd, e6], fun j y h => FgPv.up (by simp) (fun k _ h2 => Below.heap_alloc _ _ _ h2) h, ⟨W.heap.size, _, rfl, hzW, heap_alloc_new _ _, KidX.keep (show KidX v.ownBlock wc.heap.size W (.slice a6 (l[k].length - gn) c6) (l[k].drop gn) from HK7.out) (by simp) (fun k _ h2 h3 => ⟨Below.heap_alloc _ _ _ h2, h3⟩)⟩, hj.step ((Below.refl _ _).alloc (Nat.le_refl _) _) (by omega) (by omega)⟩
      · obtain ⟨h, z, d7, h71, h72, h73⟩ : ∃ h z, u 51 = .slice (some ⟨h, 0, none⟩) 1 1 ∧ wc.heap.size ≤ h ∧ W.heap[h]? = some (.cells #[z] 58 (0, 0)) ∧ KidX v.ownBlock wc.heap.size W z (l[k].drop gn) := (hdep _ rfl ⟨7, .data⟩ (by simp) rfl).2
        have d1 : u 45 = v := (hdep _ rfl ⟨1, .data⟩ (by simp) rfl).2
        have hl8 : L.getD 8 false = false := by
          cases h8 : L.getD 8 false
          · rfl
          · rw [getD_both (by omega) h8] at hLi; cases hLi
        have hG := hj.2.1 hl8
        have ho := hG.own
        rw [HPL.out] at ho
        obtain ⟨g, cap, W8, hrun, q1, q2, q3, q4⟩ := app_row k v z vs _ h W ho h72 h73.one (by omega) (by omega)
        have HJ8 : Hid _ := GrJ.put hj (by omega) hl8 hN0 h73 (g := g) (cap := cap) (by rw [HPL.out]; exact q1) q2 q3
        rw [HPL.out] at HJ8
        have HQ2 : Hid _ := q2
        clear hdep ho hG q1 q2 q3 h73 h72
        refine wpOp_step rfl (fun K hK => ?_)
        refine wp_append_run (.tmp 45) (.tmp 51) _ rfl _ _ _ _ d1 d7 hrun ?_
        exact hK _ _ ⟨_, rfl, fun j y h => FgPv.up HQ2.out.size (fun k a1 h2 => HQ2.out.block k h2 (fun e => by have := (HRB.out _ e.symm).2; omega)) h, trivial, HJ8.out⟩
      · refine wpOp_step rfl (fun K hK => ?_)
        clear hdep
        go_simp
        exact hK _ _ ⟨_, rfl, fun _ _ h => h, rfl, hj.step (Below.refl _ _) (by omega) (by omega)⟩
    case last =>
      intro L u W hLs hL hj hp
      have d9 : u 53 = .pointer (some ⟨w.heap.size + 1 + 1 + 1, 0, none⟩) := hp 9 (by omega)
      obtain ⟨hc, vs', hG⟩ := hj.done HG.out (hL 8 (by omega)) (by omega)
      obtain ⟨a9, n9, c9, e9⟩ : ∃ a n c, u 52 = .slice a n c := by obtain ⟨a9, c9, e9, _⟩ := hG.row; exact ⟨a9, _, c9, e9⟩
      have q2 := fun o => row_cell hc o
      have f2 := fun o => row_frozen hc o
      have HG2 : Hid (Grow (w.heap.size + 1 + 1 + 1) now (W.setCell ⟨w.heap.size + 1 + 1 + 1, 0, none⟩ (u 52)) (u 52) vs' ((fgS low l).take (k + 1))) := by
        rw [Hid, List.take_succ_eq_append_getElem (by rw [fgS_len]; exact hlt)]
        have e : (fgS low l)[k]'(by rw [fgS_len]; exact hlt) = l[k].drop gn := by
          rw [HGN2.out]
          have := fgS_at (low := low) hlt
          rw [List.getElem?_eq_getElem (by rw [fgS_len]; exact hlt)] at this
          simpa using this
        rw [e]; exact hG
      have HBW : Hid (Below (w.heap.size + 1 + 1) V W) := HB.out.grown hj.1 (by omega) (fun g hg => by have := (HRB.out g hg).1; omega)
      rw [e9] at HG2
      have HN3 : Hid (n + gn = goS low (l.take (k + 1))) := by rw [Hid, goS_take hlt, HN.out, HGN.out]
      clear hp hj hc hG
      unfold wpTail
      refine wpOp_step rfl (fun K hK => ?_)
      go_simp
      refine hK _ _ ?_
      clear hK
      unfold wpTail
      go_wp2_with fail
      exact ⟨⟨k + 1, n + gn, _, vs', by omega, by go_num, by go_num, by omega, HN3, HBW.out.setCell (by first | omega | (simp <;> omega)) _, HG2⟩, by simp [intOf]; omega⟩
end Go.Proofs.Ytbpkjpoicelgcaa.G
namespace Go.Proofs.Ytbpkjpoicelgcaa.G
open Go.ChangeShapes Go.WideShapes Go.ChangeAt Go.RowKit
set_option linter.unusedVariables false

def NoCh (l : Chs) : Prop := l.length = 16 ∧ ∀ x ∈ l, x = []
theorem noCh : ∃ l, NoCh l := ⟨List.replicate 16 [], by simp, fun x hx => (List.mem_replicate.1 hx).2⟩
theorem NoCh.bd {l : Chs} (h : NoCh l) : ChsBd 1048576 l := ⟨by have := h.1; omega, fun x hx => by rw [h.2 x hx]; simp⟩
theorem NoCh.size {l : Chs} (h : NoCh l) : sizeN l = 0 := by
  unfold sizeN
  have : l.map List.length = List.replicate l.length 0 := by
    rw [List.eq_replicate_iff]
    exact ⟨by simp, fun b hb => by obtain ⟨x, hx, rfl⟩ := List.mem_map.1 hb; rw [h.2 x hx]; rfl⟩
  rw [this]; simp
theorem made_nil (i : Nat) (h : i < 16) : (madeCells #[Value.slice none 0 0] 16)[i]? = some (.slice none 0 0) := by
  have key : ∀ j : Fin 16, (madeCells #[Value.slice none 0 0] 16)[j.val]? = some (.slice none 0 0) := by
    intro j
    unfold madeCells
    rw [Array.getElem?_map, Array.getElem?_eq_getElem (by simp), Array.getElem_range]
    simp [Nat.mod_one]
  exact key ⟨i, h⟩
theorem NoCh.own {l : Chs} (h : NoCh l) {w : World} {b lo hi : Nat} (hh : w.heap[b]? = some (.cells (madeCells #[Value.slice none 0 0] 16) 58 (0, 0))) (h1 : lo ≤ b) (h2 : b < hi) : StOwn lo hi w (some ⟨b, 0, none⟩) l (fun _ => 0) := by
  refine ⟨b, _, rfl, h1, h2, hh, by rw [size_madeCells]; have := h.1; omega, fun i x hx => ?_, fun i j x y hx hy _ hxn _ => absurd (h.2 x (List.mem_of_getElem? hx)) hxn⟩
  have hi : i < 16 := by have := (List.getElem?_eq_some_iff.1 hx).1; have := h.1; omega
  have hx0 := h.2 x (List.mem_of_getElem? hx)
  subst hx0
  exact ⟨none, 0, made_nil i hi, by simp, fun hne => absurd rfl hne⟩
set_option maxHeartbeats 1000000 in
theorem spec_new (l : Chs) (hn : NoCh l) (w : World) :
    Calls Try.prog 43 #[] w fun e w' => ∃ a, e = .returned (.agg #[.slice a l.length 16, .int .i64 0]) ∧ StOwn w.heap.size w'.heap.size w' a l (fun _ => 0) ∧ Below w.heap.size w w' := by
  obtain ⟨i27, hi, hz, hsz, hby⟩ := info_Ch
  have hmk := fun W => run_make (P := Try.prog) W 23 58 i27 _ Try.underlying23 hi hz .i64 .i64 (16 : Int) (16 : Int) (by omega) (by omega) (by rw [hby]; omega) (by omega)
  rw [hsz] at hmk
  replace hmk : ∀ W : World, (Instr.makeSlice 23 (.int .i64 16) (.int .i64 16)).run Try.prog W = .ok (.slice (some ⟨W.heap.size, 0, none⟩) 16 16) (W.alloc (.cells (madeCells #[Value.slice none 0 0] 16) 58)) := hmk
  clear hi hz hsz hby
  have HG := fun (W : World) (b lo hi : Nat) => NoCh.own hn (w := W) (b := b) (lo := lo) (hi := hi)
  have HGG : Hid _ := HG
  have hl := hn.1
  have HL : Hid _ := hl
  clear HG hn hl
  generalize madeCells #[Value.slice none 0 0] 16 = cs0 at *
  go_enter Try.func43, Try.ntmps43
  go_wp2_with fail
  refine bodyPost_ret (v := .agg #[.slice (some ⟨w.heap.size + 1, 0, none⟩) 16 16, .int .i64 0]) (by simp [results, Try.results43, go_sem]) rfl ⟨some ⟨w.heap.size + 1, 0, none⟩, by rw [HL.out], ?_, ?_⟩
  · refine HGG.out _ _ _ _ ?_ (by omega) (by simp)
    have := heap_alloc_new (w.alloc (.cells #[.slice (some ⟨w.heap.size + 1, 0, none⟩) 16 16, .int .i64 0] 25)) (.cells cs0 58)
    simpa using this
  · repeat (first | exact Below.refl _ _ | refine Below.setCell ?_ (by first | omega | (simp <;> omega)) _ | refine Below.alloc ?_ (by first | omega | (simp <;> omega)) _)
end Go.Proofs.Ytbpkjpoicelgcaa.G
