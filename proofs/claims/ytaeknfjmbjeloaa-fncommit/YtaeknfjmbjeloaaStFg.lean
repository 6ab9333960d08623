/- The program's Forget: a chain cut and copied, all chains, the whole. -/
import Derived.Test.YtaeknfjmbjeloaaStTxRd
import Derived.Test.YtaeknfjmbjeloaaStTxFn
import Derived.Test.YtaeknfjmbjeloaaStPutsOK
import Derived.Test.YtaeknfjmbjeloaaGRegion
namespace Go.Proofs.Ytaeknfjmbjeloaa.G
open Go.ChangeShapes Go.WideShapes Go.ChangeAt Go.RowKit
set_option linter.unusedVariables false

theorem NuOwn.kept2 {W W' : World} {a : Option Addr} {x : List Int} (h : NuOwn 0 W.heap.size W a x) (hs : W.heap.size ≤ W'.heap.size) (hk : ∀ (g : Nat) (cs : Array Value), W.heap[g]? = some (.cells cs 3 (0, 0)) → W'.heap[g]? = W.heap[g]?) : NuOwn 0 W'.heap.size W' a x := by
  rcases h with h | ⟨g, cs, e, h1, h2, h3, h4⟩
  · exact .inl h
  · exact .inr ⟨g, cs, e, h1, by omega, (hk g cs h3).trans h3, h4⟩
theorem NuOwn.row0 {W : World} {a : Option Addr} {x : List Int} (h : NuOwn 0 W.heap.size W a x) : NuRow 0 W.heap.size W a x := NuOwn.row h
theorem SrcSt.ne {W : World} {L : Nat} {sa : Option Addr} {n kk g : Nat} {T : TypeId} {cs : Array Value} (h : SrcSt W L sa n kk) (hg : W.heap[g]? = some (.cells cs T (0, 0))) (hT : T ≠ 78) : g ≠ L := by
  rintro rfl
  obtain ⟨c, p, sd, h1, _⟩ := h
  rw [h1] at hg
  simp only [Option.some.injEq, Obj.cells.injEq] at hg
  exact hT hg.2.1.symm
abbrev txZ : Array Value := #[.int .i64 0, .slice none 0 0, .slice none 0 0]
def rdTup (st : Int) (ra : Option Addr) (rn rq : Nat) (wv : Value) (z : Int) : Value := .tuple #[.agg #[.int .i64 st, .slice ra rn rq, wv], .int .i64 z]
/-- The region 'y, _ := l07Read(x, t, s.next(16))': 3 draws the key, 4 reads, 5 and 6 move, 8 makes the variable, 9 stores. -/
structure RdJ (w9 : World) (L : Nat) (sa : Option Addr) (n kk : Nat) (st : Int) (rs : List Int) (ws : List Ve) (wv : Value) (D : Array Bool) (u : Nat → Value) (W : World) : Prop where
  grown : w9.grownBy W (some L)
  s0 : D.getD 3 false = false → SrcSt W L sa n kk
  s1 : D.getD 3 false = true → SrcSt W L sa n (kk + 1) ∧ ∃ t : Nat, t < 16 ∧ u 29 = .int .i64 t
  rd : D.getD 4 false = true → ∃ (t : Nat) (ra : Option Addr) (rq : Nat) (z : Int), t < 16 ∧ u 30 = rdTup st ra (rdK rs ws t).length rq wv z ∧ NuOwn 0 W.heap.size W ra (rdK rs ws t) ∧ (rdK rs ws t).length ≤ rq ∧ (D.getD 9 false = true → ∃ y, u 7 = .pointer (some ⟨y, 0, none⟩) ∧ w9.heap.size ≤ y ∧ W.heap[y]? = some (.cells #[.int .i64 st, .slice ra (rdK rs ws t).length rq, wv] 30 (0, 0)))
  vr : D.getD 8 false = true → D.getD 9 false = false → ∃ y, u 7 = .pointer (some ⟨y, 0, none⟩) ∧ w9.heap.size ≤ y ∧ W.heap[y]? = some (.cells txZ 30 (0, 0))
  m5 : D.getD 5 false = true → u 25 = u 30 ∧ D.getD 4 false = true
  m6 : D.getD 6 false = true → (∃ x z, u 30 = .tuple #[x, z] ∧ u 31 = x) ∧ D.getD 4 false = true
  o9 : D.getD 9 false = true → D.getD 4 false = true ∧ D.getD 8 false = true
section
variable {w9 W W' : World} {L : Nat} {sa : Option Addr} {n kk : Nat} {st : Int} {rs : List Int} {ws : List Ve} {wv : Value} {D : Array Bool} {u : Nat → Value}
theorem RdJ.start {m : Nat} (h : SrcSt w9 L sa n kk) : RdJ w9 L sa n kk st rs ws wv (Array.replicate m false) u w9.drew := by
  have no : ∀ j, (Array.replicate m false).getD j false = true → False := fun j hj => by
    by_cases hx : j < m
    · simp [hx] at hj
    · simp [hx] at hj
  exact ⟨grown_below (grown_refl _ _) (Below.refl _ _).drew, fun _ => h, fun h => (no _ h).elim, fun h => (no _ h).elim, fun h => (no _ h).elim, fun h => (no _ h).elim, fun h => (no _ h).elim, fun h => (no _ h).elim⟩
theorem RdJ.src (h : RdJ w9 L sa n kk st rs ws wv D u W) : SrcSt W L sa n (kk + 1) := by
  cases h3 : D.getD 3 false
  · exact (h.s0 h3).more (by omega)
  · exact (h.s1 h3).1
/-- An operation that turns no block and none of these slots. -/
theorem RdJ.step (h : RdJ w9 L sa n kk st rs ws wv D u W) {i d : Nat} {val : Value} (hi : i ≠ 3 ∧ i ≠ 4 ∧ i ≠ 5 ∧ i ≠ 6 ∧ i ≠ 8 ∧ i ≠ 9) (hd : d ≠ 29 ∧ d ≠ 30 ∧ d ≠ 25 ∧ d ≠ 31 ∧ d ≠ 7) : RdJ w9 L sa n kk st rs ws wv (D.setIfInBounds i true) (upd u d val) W := by
  obtain ⟨i3, i4, i5, i6, i8, i9⟩ := hi
  obtain ⟨d1, d2, d3, d4, d5⟩ := hd
  have e3 : (D.setIfInBounds i true).getD 3 false = D.getD 3 false := getD_set_ne false i3
  have e4 : (D.setIfInBounds i true).getD 4 false = D.getD 4 false := getD_set_ne false i4
  have e5 : (D.setIfInBounds i true).getD 5 false = D.getD 5 false := getD_set_ne false i5
  have e6 : (D.setIfInBounds i true).getD 6 false = D.getD 6 false := getD_set_ne false i6
  have e8 : (D.setIfInBounds i true).getD 8 false = D.getD 8 false := getD_set_ne false i8
  have e9 : (D.setIfInBounds i true).getD 9 false = D.getD 9 false := getD_set_ne false i9
  have f1 : upd u d val 29 = u 29 := upd_ne _ _ (Ne.symm d1)
  have f2 : upd u d val 30 = u 30 := upd_ne _ _ (Ne.symm d2)
  have f3 : upd u d val 25 = u 25 := upd_ne _ _ (Ne.symm d3)
  have f4 : upd u d val 31 = u 31 := upd_ne _ _ (Ne.symm d4)
  have f5 : upd u d val 7 = u 7 := upd_ne _ _ (Ne.symm d5)
  obtain ⟨h1, h2, h3, h4, h5, h6, h7, h8⟩ := h
  exact ⟨h1, by rw [e3]; exact h2, by rw [e3, f1]; exact h3, by rw [e4, e9, f2, f5]; exact h4, by rw [e8, e9, f5]; exact h5, by rw [e4, e5, f2, f3]; exact h6, by rw [e4, e6, f2, f4]; exact h7, by rw [e4, e8, e9]; exact h8⟩
/-- The key is drawn. -/
theorem RdJ.three (h : RdJ w9 L sa n kk st rs ws wv D u W) (hg : W.grownBy W' (some L)) (hs : 3 < D.size) {t : Nat} (ht : t < 16) (hS : SrcSt W' L sa n (kk + 1)) : RdJ w9 L sa n kk st rs ws wv (D.setIfInBounds 3 true) (upd u 29 (.int .i64 t)) W' := by
  have hsrc := h.src
  have e4 : (D.setIfInBounds 3 true).getD 4 false = D.getD 4 false := getD_set_ne false (by omega)
  have e5 : (D.setIfInBounds 3 true).getD 5 false = D.getD 5 false := getD_set_ne false (by omega)
  have e6 : (D.setIfInBounds 3 true).getD 6 false = D.getD 6 false := getD_set_ne false (by omega)
  have e8 : (D.setIfInBounds 3 true).getD 8 false = D.getD 8 false := getD_set_ne false (by omega)
  have e9 : (D.setIfInBounds 3 true).getD 9 false = D.getD 9 false := getD_set_ne false (by omega)
  have f2 : upd u 29 (Value.int .i64 t) 30 = u 30 := upd_ne _ _ (by omega)
  have f3 : upd u 29 (Value.int .i64 t) 25 = u 25 := upd_ne _ _ (by omega)
  have f4 : upd u 29 (Value.int .i64 t) 31 = u 31 := upd_ne _ _ (by omega)
  have f5 : upd u 29 (Value.int .i64 t) 7 = u 7 := upd_ne _ _ (by omega)
  have ok : ∀ (g : Nat) (cs : Array Value) (T : TypeId), W.heap[g]? = some (.cells cs T (0, 0)) → T ≠ 78 → W'.heap[g]? = W.heap[g]? := fun g cs T hgT hT => hg.block g (Array.getElem?_eq_some_iff.1 hgT).1 (by have := hsrc.ne hgT hT; simpa using this)
  obtain ⟨h1, h2, h3, h4, h5, h6, h7, h8⟩ := h
  refine ⟨grown_trans h1 hg, fun e => by simp [hs] at e, fun _ => ⟨hS, t, ht, upd_at _ _ _⟩, ?_, ?_, by rw [e4, e5, f2, f3]; exact h6, by rw [e4, e6, f2, f4]; exact h7, by rw [e4, e8, e9]; exact h8⟩
  · rw [e4, e9, f2, f5]
    intro q
    obtain ⟨t, ra, rq, z, r1, r2, r3, r4, r5⟩ := h4 q
    refine ⟨t, ra, rq, z, r1, r2, r3.kept2 hg.size (fun g cs hc => ok g cs _ hc (by decide)), r4, fun q9 => ?_⟩
    obtain ⟨y, y1, y2, y3⟩ := r5 q9
    exact ⟨y, y1, y2, (ok y _ _ y3 (by decide)).trans y3⟩
  · rw [e8, e9, f5]
    intro q8 q9
    obtain ⟨y, y1, y2, y3⟩ := h5 q8 q9
    exact ⟨y, y1, y2, (ok y _ _ y3 (by decide)).trans y3⟩
/-- The reading. -/
theorem RdJ.four (h : RdJ w9 L sa n kk st rs ws wv D u W) (hb : Below W.heap.size W W') (h4 : D.getD 4 false = false) {t : Nat} {ra : Option Addr} {rq : Nat} {z : Int} (ht : t < 16) (hr : NuOwn 0 W'.heap.size W' ra (rdK rs ws t)) (hc : (rdK rs ws t).length ≤ rq) : RdJ w9 L sa n kk st rs ws wv (D.setIfInBounds 4 true) (upd u 30 (rdTup st ra (rdK rs ws t).length rq wv z)) W' := by
  have hL := h.src.lt
  have e3 : (D.setIfInBounds 4 true).getD 3 false = D.getD 3 false := getD_set_ne false (by omega)
  have e5 : (D.setIfInBounds 4 true).getD 5 false = D.getD 5 false := getD_set_ne false (by omega)
  have e6 : (D.setIfInBounds 4 true).getD 6 false = D.getD 6 false := getD_set_ne false (by omega)
  have e8 : (D.setIfInBounds 4 true).getD 8 false = D.getD 8 false := getD_set_ne false (by omega)
  have e9 : (D.setIfInBounds 4 true).getD 9 false = D.getD 9 false := getD_set_ne false (by omega)
  have f1 : upd u 30 (rdTup st ra (rdK rs ws t).length rq wv z) 29 = u 29 := upd_ne _ _ (by omega)
  have f5 : upd u 30 (rdTup st ra (rdK rs ws t).length rq wv z) 7 = u 7 := upd_ne _ _ (by omega)
  obtain ⟨h1, h2, h3, _, h5, h6, h7, h8⟩ := h
  have n5 : ¬ D.getD 5 false = true := fun e => by have := (h6 e).2; rw [h4] at this; cases this
  have n6 : ¬ D.getD 6 false = true := fun e => by have := (h7 e).2; rw [h4] at this; cases this
  have n9 : ¬ D.getD 9 false = true := fun e => by have := (h8 e).1; rw [h4] at this; cases this
  refine ⟨grown_below h1 hb, ?_, ?_, fun _ => ⟨t, ra, rq, z, ht, upd_at _ _ _, hr, hc, fun e => (n9 (e9 ▸ e)).elim⟩, ?_, fun e => (n5 (e5 ▸ e)).elim, fun e => (n6 (e6 ▸ e)).elim, fun e => (n9 (e9 ▸ e)).elim⟩
  · rw [e3]; intro q; exact (h2 q).move (hb.block L hL)
  · rw [e3, f1]; intro q; exact ⟨(h3 q).1.move (hb.block L hL), (h3 q).2⟩
  · rw [e8, e9, f5]
    intro q8 q9
    obtain ⟨y, y1, y2, y3⟩ := h5 q8 q9
    exact ⟨y, y1, y2, (hb.block y (Array.getElem?_eq_some_iff.1 y3).1).trans y3⟩
theorem RdJ.five (h : RdJ w9 L sa n kk st rs ws wv D u W) (h4 : D.getD 4 false = true) : RdJ w9 L sa n kk st rs ws wv (D.setIfInBounds 5 true) (upd u 25 (u 30)) W := by
  have e3 : (D.setIfInBounds 5 true).getD 3 false = D.getD 3 false := getD_set_ne false (by omega)
  have e4 : (D.setIfInBounds 5 true).getD 4 false = D.getD 4 false := getD_set_ne false (by omega)
  have e6 : (D.setIfInBounds 5 true).getD 6 false = D.getD 6 false := getD_set_ne false (by omega)
  have e8 : (D.setIfInBounds 5 true).getD 8 false = D.getD 8 false := getD_set_ne false (by omega)
  have e9 : (D.setIfInBounds 5 true).getD 9 false = D.getD 9 false := getD_set_ne false (by omega)
  have f1 : upd u 25 (u 30) 29 = u 29 := upd_ne _ _ (by omega)
  have f2 : upd u 25 (u 30) 30 = u 30 := upd_ne _ _ (by omega)
  have f4 : upd u 25 (u 30) 31 = u 31 := upd_ne _ _ (by omega)
  have f5 : upd u 25 (u 30) 7 = u 7 := upd_ne _ _ (by omega)
  obtain ⟨h1, h2, h3, h4', h5, h6, h7, h8⟩ := h
  exact ⟨h1, by rw [e3]; exact h2, by rw [e3, f1]; exact h3, by rw [e4, e9, f2, f5]; exact h4', by rw [e8, e9, f5]; exact h5, fun _ => ⟨by rw [upd_at, f2], by rw [e4]; exact h4⟩, by rw [e4, e6, f2, f4]; exact h7, by rw [e4, e8, e9]; exact h8⟩
theorem RdJ.six (h : RdJ w9 L sa n kk st rs ws wv D u W) (h4 : D.getD 4 false = true) {x z : Value} (hx : u 30 = .tuple #[x, z]) : RdJ w9 L sa n kk st rs ws wv (D.setIfInBounds 6 true) (upd u 31 x) W := by
  have e3 : (D.setIfInBounds 6 true).getD 3 false = D.getD 3 false := getD_set_ne false (by omega)
  have e4 : (D.setIfInBounds 6 true).getD 4 false = D.getD 4 false := getD_set_ne false (by omega)
  have e5 : (D.setIfInBounds 6 true).getD 5 false = D.getD 5 false := getD_set_ne false (by omega)
  have e8 : (D.setIfInBounds 6 true).getD 8 false = D.getD 8 false := getD_set_ne false (by omega)
  have e9 : (D.setIfInBounds 6 true).getD 9 false = D.getD 9 false := getD_set_ne false (by omega)
  have f1 : upd u 31 x 29 = u 29 := upd_ne _ _ (by omega)
  have f2 : upd u 31 x 30 = u 30 := upd_ne _ _ (by omega)
  have f3 : upd u 31 x 25 = u 25 := upd_ne _ _ (by omega)
  have f5 : upd u 31 x 7 = u 7 := upd_ne _ _ (by omega)
  obtain ⟨h1, h2, h3, h4', h5, h6, h7, h8⟩ := h
  exact ⟨h1, by rw [e3]; exact h2, by rw [e3, f1]; exact h3, by rw [e4, e9, f2, f5]; exact h4', by rw [e8, e9, f5]; exact h5, by rw [e4, e5, f2, f3]; exact h6, fun _ => ⟨⟨x, z, by rw [f2]; exact hx, upd_at _ _ _⟩, by rw [e4]; exact h4⟩, by rw [e4, e8, e9]; exact h8⟩
/-- The variable. -/
theorem RdJ.eight (h : RdJ w9 L sa n kk st rs ws wv D u W) (hb : Below W.heap.size W W') (h8 : D.getD 8 false = false) (hc : W'.heap[W.heap.size]? = some (.cells txZ 30 (0, 0))) : RdJ w9 L sa n kk st rs ws wv (D.setIfInBounds 8 true) (upd u 7 (.pointer (some ⟨W.heap.size, 0, none⟩))) W' := by
  have hL := h.src.lt
  have e3 : (D.setIfInBounds 8 true).getD 3 false = D.getD 3 false := getD_set_ne false (by omega)
  have e4 : (D.setIfInBounds 8 true).getD 4 false = D.getD 4 false := getD_set_ne false (by omega)
  have e5 : (D.setIfInBounds 8 true).getD 5 false = D.getD 5 false := getD_set_ne false (by omega)
  have e6 : (D.setIfInBounds 8 true).getD 6 false = D.getD 6 false := getD_set_ne false (by omega)
  have e9 : (D.setIfInBounds 8 true).getD 9 false = D.getD 9 false := getD_set_ne false (by omega)
  have f1 : upd u 7 (Value.pointer (some ⟨W.heap.size, 0, none⟩)) 29 = u 29 := upd_ne _ _ (by omega)
  have f2 : upd u 7 (Value.pointer (some ⟨W.heap.size, 0, none⟩)) 30 = u 30 := upd_ne _ _ (by omega)
  have f3 : upd u 7 (Value.pointer (some ⟨W.heap.size, 0, none⟩)) 25 = u 25 := upd_ne _ _ (by omega)
  have f4 : upd u 7 (Value.pointer (some ⟨W.heap.size, 0, none⟩)) 31 = u 31 := upd_ne _ _ (by omega)
  obtain ⟨h1, h2, h3, h4, h5, h6, h7, h8'⟩ := h
  have hz := h1.size
  have n9 : ¬ D.getD 9 false = true := fun e => by have := (h8' e).2; rw [h8] at this; cases this
  refine ⟨grown_below h1 hb, ?_, ?_, ?_, fun _ _ => ⟨W.heap.size, upd_at _ _ _, hz, hc⟩, by rw [e4, e5, f2, f3]; exact h6, by rw [e4, e6, f2, f4]; exact h7, fun e => (n9 (e9 ▸ e)).elim⟩
  · rw [e3]; intro q; exact (h2 q).move (hb.block L hL)
  · rw [e3, f1]; intro q; exact ⟨(h3 q).1.move (hb.block L hL), (h3 q).2⟩
  · rw [e4, f2]
    intro q
    obtain ⟨t, ra, rq, z, r1, r2, r3, r4, _⟩ := h4 q
    exact ⟨t, ra, rq, z, r1, r2, r3.kept2 hb.size (fun g cs hc => hb.block g (Array.getElem?_eq_some_iff.1 hc).1), r4, fun e => (n9 (e9 ▸ e)).elim⟩
/-- The store. -/
theorem RdJ.nine (h : RdJ w9 L sa n kk st rs ws wv D u W) (hs : 9 < D.size) (h8 : D.getD 8 false = true) (h9 : D.getD 9 false = false) {y t : Nat} {ra : Option Addr} {rq : Nat} {z : Int} (ht : t < 16) (q1 : u 7 = .pointer (some ⟨y, 0, none⟩)) (q2 : w9.heap.size ≤ y) (q3 : W.heap[y]? = some (.cells txZ 30 (0, 0))) (h4 : D.getD 4 false = true) (q4 : u 30 = rdTup st ra (rdK rs ws t).length rq wv z) (q5 : NuOwn 0 W.heap.size W ra (rdK rs ws t)) (q6 : (rdK rs ws t).length ≤ rq) (hg : ∀ g, g ≠ y → W'.heap[g]? = W.heap[g]?) (hz : W'.heap.size = W.heap.size) (hgr : w9.grownBy W' (some L)) (hc : W'.heap[y]? = some (.cells #[.int .i64 st, .slice ra (rdK rs ws t).length rq, wv] 30 (0, 0))) {val : Value} : RdJ w9 L sa n kk st rs ws wv (D.setIfInBounds 9 true) (upd u 99 val) W' := by
  have hne := h.src.ne q3 (by decide)
  have e3 : (D.setIfInBounds 9 true).getD 3 false = D.getD 3 false := getD_set_ne false (by omega)
  have e4 : (D.setIfInBounds 9 true).getD 4 false = D.getD 4 false := getD_set_ne false (by omega)
  have e5 : (D.setIfInBounds 9 true).getD 5 false = D.getD 5 false := getD_set_ne false (by omega)
  have e6 : (D.setIfInBounds 9 true).getD 6 false = D.getD 6 false := getD_set_ne false (by omega)
  have e8 : (D.setIfInBounds 9 true).getD 8 false = D.getD 8 false := getD_set_ne false (by omega)
  have f1 : upd u 99 val 29 = u 29 := upd_ne _ _ (by omega)
  have f2 : upd u 99 val 30 = u 30 := upd_ne _ _ (by omega)
  have f3 : upd u 99 val 25 = u 25 := upd_ne _ _ (by omega)
  have f4 : upd u 99 val 31 = u 31 := upd_ne _ _ (by omega)
  have f5 : upd u 99 val 7 = u 7 := upd_ne _ _ (by omega)
  obtain ⟨h1, h2, h3, _, h5, h6, h7, h8'⟩ := h
  refine ⟨hgr, ?_, ?_, fun _ => ⟨t, ra, rq, z, ht, by rw [f2]; exact q4, ?_, q6, fun _ => ⟨y, by rw [f5]; exact q1, q2, hc⟩⟩, fun _ e => by simp [hs] at e, by rw [e4, e5, f2, f3]; exact h6, by rw [e4, e6, f2, f4]; exact h7, fun _ => by rw [e4, e8]; exact ⟨h4, h8⟩⟩
  · rw [e3]; intro q; exact (h2 q).move (hg L (Ne.symm hne))
  · rw [e3, f1]; intro q; exact ⟨(h3 q).1.move (hg L (Ne.symm hne)), (h3 q).2⟩
  · exact q5.kept2 (by omega) (fun g cs hcs => hg g (by rintro rfl; rw [q3] at hcs; simp at hcs))
end
/-- The region 't.Writes = append(t.Writes, s.put())': 3 draws, 4 makes the row of one, 5 appends. -/
structure PtJ (w : World) (L X R : Nat) (box : Array Value) (sa : Option Addr) (n kk : Nat) (st : Int) (rs : List Int) (ra : Option Addr) (rq : Nat) (ws : List Ve) (wv : Value) (D : Array Bool) (u : Nat → Value) (W : World) : Prop where
  grown : w.grownBy W (some L)
  tx : W.heap[X]? = some (.cells #[.int .i64 st, .slice ra rs.length rq, wv] 30 (0, 0))
  rs0 : W.heap[R]? = some (.cells txZ 30 (0, 0))
  st : W.heap[w.heap.size]? = some (.cells box 25 (0, 0))
  nu : NuOwn 0 W.heap.size W ra rs
  s0 : D.getD 3 false = false → SrcSt W L sa n kk
  s1 : D.getD 3 false = true → SrcSt W L sa n (kk + 3) ∧ ∃ p : Ve, u 37 = .agg #[.int .i64 p.ts, .int .i64 p.v] ∧ putB p.ts p.v = true
  own : D.getD 5 false = false → W.ownsRow w.heap.size 43 2 wv ws.length (veCells ws)
  one : D.getD 4 false = true → D.getD 5 false = false → ∃ (p : Ve) (h : Nat), putB p.ts p.v = true ∧ u 38 = .slice (some ⟨h, 0, none⟩) 1 1 ∧ W.heap[h]? = some (.cells #[.int .i64 p.ts, .int .i64 p.v] 43 (0, 0))
  app : D.getD 5 false = true → ∃ (p : Ve) (g cap : Nat), putB p.ts p.v = true ∧ u 39 = .slice (some ⟨g, 0, none⟩) (ws.length + 1) cap ∧ W.ownsRow w.heap.size 43 2 (.slice (some ⟨g, 0, none⟩) (ws.length + 1) cap) (ws.length + 1) (veCells (ws ++ [p]))
  c4 : D.getD 4 false = true → D.getD 3 false = true
  c5 : D.getD 5 false = true → D.getD 4 false = true
section
variable {w W W' : World} {L X R : Nat} {box : Array Value} {sa : Option Addr} {n kk : Nat} {st : Int} {rs : List Int} {ra : Option Addr} {rq : Nat} {ws : List Ve} {wv : Value} {D : Array Bool} {u : Nat → Value}
theorem PtJ.src (h : PtJ w L X R box sa n kk st rs ra rq ws wv D u W) : SrcSt W L sa n (kk + 3) := by
  cases h3 : D.getD 3 false
  · exact (h.s0 h3).more (by omega)
  · exact (h.s1 h3).1
theorem PtJ.start {w9 : World} {m : Nat} (hg : w.grownBy w9 (some L)) (hX : w9.heap[X]? = some (.cells #[.int .i64 st, .slice ra rs.length rq, wv] 30 (0, 0))) (hR : w9.heap[R]? = some (.cells txZ 30 (0, 0))) (hB : w9.heap[w.heap.size]? = some (.cells box 25 (0, 0))) (hn : NuOwn 0 w9.heap.size w9 ra rs) (hS : SrcSt w9 L sa n kk) (ho : w9.ownsRow w.heap.size 43 2 wv ws.length (veCells ws)) : PtJ w L X R box sa n kk st rs ra rq ws wv (Array.replicate m false) u w9.drew := by
  have no : ∀ j, (Array.replicate m false).getD j false = true → False := fun j hj => by
    by_cases hx : j < m
    · simp [hx] at hj
    · simp [hx] at hj
  exact ⟨grown_below hg (Below.refl _ _).drew, hX, hR, hB, hn, fun _ => hS, fun h => (no _ h).elim, fun _ => ho, fun h => (no _ h).elim, fun h => (no _ h).elim, fun h => (no _ h).elim, fun h => (no _ h).elim⟩
theorem PtJ.step (h : PtJ w L X R box sa n kk st rs ra rq ws wv D u W) {i d : Nat} {val : Value} (hi : i ≠ 3 ∧ i ≠ 4 ∧ i ≠ 5) (hd : d ≠ 37 ∧ d ≠ 38 ∧ d ≠ 39) : PtJ w L X R box sa n kk st rs ra rq ws wv (D.setIfInBounds i true) (upd u d val) W := by
  obtain ⟨i3, i4, i5⟩ := hi
  obtain ⟨d1, d2, d3⟩ := hd
  have e3 : (D.setIfInBounds i true).getD 3 false = D.getD 3 false := getD_set_ne false i3
  have e4 : (D.setIfInBounds i true).getD 4 false = D.getD 4 false := getD_set_ne false i4
  have e5 : (D.setIfInBounds i true).getD 5 false = D.getD 5 false := getD_set_ne false i5
  have f1 : upd u d val 37 = u 37 := upd_ne _ _ (Ne.symm d1)
  have f2 : upd u d val 38 = u 38 := upd_ne _ _ (Ne.symm d2)
  have f3 : upd u d val 39 = u 39 := upd_ne _ _ (Ne.symm d3)
  obtain ⟨h1, h2, h3, hB, h4, h5, h6, h7, h8, h9, h10, h11⟩ := h
  exact ⟨h1, h2, h3, hB, h4, by rw [e3]; exact h5, by rw [e3, f1]; exact h6, by rw [e5]; exact h7, by rw [e4, e5, f2]; exact h8, by rw [e5, f3]; exact h9, by rw [e3, e4]; exact h10, by rw [e4, e5]; exact h11⟩
theorem PtJ.three (h : PtJ w L X R box sa n kk st rs ra rq ws wv D u W) (hg : W.grownBy W' (some L)) (hs : 3 < D.size) (h3 : D.getD 3 false = false) {p : Ve} (hp : putB p.ts p.v = true) (hS : SrcSt W' L sa n (kk + 3)) : PtJ w L X R box sa n kk st rs ra rq ws wv (D.setIfInBounds 3 true) (upd u 37 (.agg #[.int .i64 p.ts, .int .i64 p.v])) W' := by
  have hsrc := h.src
  have e4 : (D.setIfInBounds 3 true).getD 4 false = D.getD 4 false := getD_set_ne false (by omega)
  have e5 : (D.setIfInBounds 3 true).getD 5 false = D.getD 5 false := getD_set_ne false (by omega)
  have ok : ∀ (g : Nat) (cs : Array Value) (T : TypeId), W.heap[g]? = some (.cells cs T (0, 0)) → T ≠ 78 → W'.heap[g]? = W.heap[g]? := fun g cs T hgT hT => hg.block g (Array.getElem?_eq_some_iff.1 hgT).1 (by have := hsrc.ne hgT hT; simpa using this)
  obtain ⟨h1, h2, h3', hB, h4, h5, h6, h7, h8, h9, h10, h11⟩ := h
  have n4 : ¬ D.getD 4 false = true := fun e => by have := h10 e; rw [h3] at this; cases this
  have n5 : ¬ D.getD 5 false = true := fun e => n4 (h11 e)
  refine ⟨grown_trans h1 hg, (ok X _ _ h2 (by decide)).trans h2, (ok R _ _ h3' (by decide)).trans h3', (ok _ _ _ hB (by decide)).trans hB, h4.kept2 hg.size (fun g cs hc => ok g cs _ hc (by decide)), fun e => by simp [hs] at e, fun _ => ⟨hS, p, upd_at _ _ _, hp⟩, fun e => ?_, fun e => (n4 (e4 ▸ e)).elim, fun e => (n5 (e5 ▸ e)).elim, fun e => (n4 (e4 ▸ e)).elim, fun e => (n5 (e5 ▸ e)).elim⟩
  have ho := h7 (e5 ▸ e)
  refine own_set ho (fun g hg2 => ?_)
  rcases ho.2 with ⟨e1, _⟩ | ⟨ga, ca, cua, ea, _, ha, _⟩
  · rw [e1] at hg2; cases hg2
  · rw [ea] at hg2
    simp only [Value.ownBlock, Option.some.injEq] at hg2
    subst hg2
    exact ok _ _ _ ha (by decide)
theorem PtJ.four (h : PtJ w L X R box sa n kk st rs ra rq ws wv D u W) (hb : Below W.heap.size W W') (hs : 4 < D.size) (h4 : D.getD 4 false = false) (h3 : D.getD 3 false = true) {p : Ve} (hp : putB p.ts p.v = true) (hc : W'.heap[W.heap.size]? = some (.cells #[.int .i64 p.ts, .int .i64 p.v] 43 (0, 0))) : PtJ w L X R box sa n kk st rs ra rq ws wv (D.setIfInBounds 4 true) (upd u 38 (.slice (some ⟨W.heap.size, 0, none⟩) 1 1)) W' := by
  have hL := h.src.lt
  have e3 : (D.setIfInBounds 4 true).getD 3 false = D.getD 3 false := getD_set_ne false (by omega)
  have e5 : (D.setIfInBounds 4 true).getD 5 false = D.getD 5 false := getD_set_ne false (by omega)
  have f1 : upd u 38 (Value.slice (some ⟨W.heap.size, 0, none⟩) 1 1) 37 = u 37 := upd_ne _ _ (by omega)
  obtain ⟨h1, h2, h3', hB, h4', h5, h6, h7, h8, h9, h10, h11⟩ := h
  have n5 : ¬ D.getD 5 false = true := fun e => by have := h11 e; rw [h4] at this; cases this
  refine ⟨grown_below h1 hb, (hb.block X (Array.getElem?_eq_some_iff.1 h2).1).trans h2, (hb.block R (Array.getElem?_eq_some_iff.1 h3').1).trans h3', (hb.block _ (Array.getElem?_eq_some_iff.1 hB).1).trans hB, h4'.kept2 hb.size (fun g cs hc => hb.block g (Array.getElem?_eq_some_iff.1 hc).1), ?_, ?_, fun e => own_below (h7 (e5 ▸ e)) hb, fun _ _ => ⟨p, W.heap.size, hp, upd_at _ _ _, hc⟩, fun e => (n5 (e5 ▸ e)).elim, fun _ => e3 ▸ h3, fun e => (n5 (e5 ▸ e)).elim⟩
  · rw [e3]; intro q; exact (h5 q).move (hb.block L hL)
  · rw [e3, f1]; intro q; exact ⟨(h6 q).1.move (hb.block L hL), (h6 q).2⟩
theorem PtJ.five (h : PtJ w L X R box sa n kk st rs ra rq ws wv D u W) (hLw : L < w.heap.size) (hs : 5 < D.size) (h5 : D.getD 5 false = false) (h4 : D.getD 4 false = true) (hgr : W.grownBy W' wv.ownBlock) {p : Ve} {g cap : Nat} (hp : putB p.ts p.v = true) (ho : W'.ownsRow w.heap.size 43 2 (.slice (some ⟨g, 0, none⟩) (ws.length + 1) cap) (ws.length + 1) (veCells (ws ++ [p]))) : PtJ w L X R box sa n kk st rs ra rq ws wv (D.setIfInBounds 5 true) (upd u 39 (.slice (some ⟨g, 0, none⟩) (ws.length + 1) cap)) W' := by
  have hL := h.src.lt
  have e3 : (D.setIfInBounds 5 true).getD 3 false = D.getD 3 false := getD_set_ne false (by omega)
  have e4 : (D.setIfInBounds 5 true).getD 4 false = D.getD 4 false := getD_set_ne false (by omega)
  have f1 : upd u 39 (Value.slice (some ⟨g, 0, none⟩) (ws.length + 1) cap) 37 = u 37 := upd_ne _ _ (by omega)
  obtain ⟨h1, h2, h3, hB, h4', h5', h6, h7, h8, h9, h10, h11⟩ := h
  have how := h7 h5
  have nb : ∀ (b : Nat) (cs : Array Value) (T : TypeId), W.heap[b]? = some (.cells cs T (0, 0)) → T ≠ 43 → W'.heap[b]? = W.heap[b]? := fun b cs T hb hT => hgr.block b (Array.getElem?_eq_some_iff.1 hb).1 (fun e => by
    rcases how.2 with ⟨e1, _⟩ | ⟨ga, ca, cua, ea, _, ha, _⟩
    · rw [e1] at e; cases e
    · rw [ea] at e
      simp only [Value.ownBlock, Option.some.injEq] at e
      subst e
      rw [ha] at hb
      simp only [Option.some.injEq, Obj.cells.injEq] at hb
      exact hT hb.2.1.symm)
  have hLL : W'.heap[L]? = W.heap[L]? := hgr.block L hL (fun e => by have := own_base how L e.symm; omega)
  refine ⟨grown_over h1 hgr (fun k hk => own_base how k hk), (nb X _ _ h2 (by decide)).trans h2, (nb R _ _ h3 (by decide)).trans h3, (nb _ _ _ hB (by decide)).trans hB, h4'.kept2 hgr.size (fun g cs hc => nb g cs _ hc (by decide)), ?_, ?_, fun e => by simp [hs] at e, fun _ e => by simp [hs] at e, fun _ => ⟨p, g, cap, hp, upd_at _ _ _, ho⟩, fun _ => e3 ▸ h10 h4, fun _ => e4 ▸ h4⟩
  · rw [e3]; intro q; exact (h5' q).move hLL
  · rw [e3, f1]; intro q; exact ⟨(h6 q).1.move hLL, (h6 q).2⟩
end
end Go.Proofs.Ytaeknfjmbjeloaa.G
namespace Go.Proofs.Ytaeknfjmbjeloaa.G
open Go.ChangeShapes Go.WideShapes Go.ChangeAt Go.RowKit
set_option linter.unusedVariables false

theorem VeRow.drop {lo hi : Nat} {w : World} {b o : Nat} {l : List Ve} (h : VeRow lo hi w (some ⟨b, o, none⟩) l) (k : Nat) : VeRow lo hi w (some ⟨b, o + k * 2, none⟩) (l.drop k) := by
  rcases h with rfl | ⟨b', o', e, h1, h2, h3⟩
  · exact .inl (by simp)
  · simp only [Option.some.injEq, Addr.mk.injEq, and_true] at e
    obtain ⟨rfl, rfl⟩ := e
    refine .inr ⟨b, _, rfl, h1, h2, fun i x hx => ?_⟩
    have := h3 (k + i) x (by simpa [List.getElem?_drop] using hx)
    rwa [show o + (k + i) * 2 = o + k * 2 + i * 2 by omega] at this
end Go.Proofs.Ytaeknfjmbjeloaa.G
