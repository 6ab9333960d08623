/- The library's insertion sort, at those that are committed. -/
import Derived.Test.YtgnonbghgcpnoaaDoorWiCmp
namespace Go.Proofs.YtgnonbghgcpnoaaDoor
open Go.ChangeShapes Go.WideShapes Go.ChangeAt Go.RowKit
open Go.Shelf Go.Lib Go.Sort
set_option linter.unusedVariables false

abbrev SC (w0 : World) (g : Nat) (d : Array Cm) (W : World) : Prop := SWK cmV 9 w0 g 0 d W
abbrev RC (w0 : World) (g : Nat) (d : Array Cm) : Prop := RowK cmV 9 w0 g 0 d
def vw (d : Array Cm) : Nat → Cm := fun i => d[i]!
theorem vw_swp {d : Array Cm} {i j : Nat} (hi : i < d.size) (hj : j < d.size) : vw (swp d i j) = swF (vw d) i j := by
  funext k
  exact swp_get d hi hj k
theorem SC.cells {w0 W : World} {g : Nat} {d d0 : Array Cm} (S : SC w0 g d W) (R : RC w0 g d0) (hs : d.size = d0.size) (i : Nat) (hi : i < d.size) {x : Cm} (hx : x = d[i]!) :
    W.cell? ⟨g, i * 9, none⟩ = some (.int .i64 x.x.id) ∧ W.cell? ⟨g, i * 9 + 1, none⟩ = some (.int .i64 x.x.code) ∧ W.cell? ⟨g, i * 9 + 2, none⟩ = some (.int .i64 x.x.ts) ∧ W.cell? ⟨g, i * 9 + 3, none⟩ = some (.int .i64 x.x.since) ∧ W.cell? ⟨g, i * 9 + 4, none⟩ = some (.bool x.x.wr) ∧ W.cell? ⟨g, i * 9 + 5, none⟩ = some (.slice x.a x.x.defs.length x.c) ∧ W.cell? ⟨g, i * 9 + 6, none⟩ = some (.slice x.b x.x.vars.length x.d) ∧ W.cell? ⟨g, i * 9 + 7, none⟩ = some (.string x.x.t) ∧ W.cell? ⟨g, i * 9 + 8, none⟩ = some (.int .i64 x.p) := by
  have G : ∀ c v, (cmV x)[c]? = some v → W.cell? ⟨g, i * 9 + c, none⟩ = some v := fun c v h => by
    have := HoldsK.cells (h := S.holds R.hblk R.hH hs) R.hk hi c v (by rw [← hx]; exact h)
    rwa [Lib.add_plain, Nat.zero_add] at this
  exact ⟨G 0 _ rfl, G 1 _ rfl, G 2 _ rfl, G 3 _ rfl, G 4 _ rfl, G 5 _ rfl, G 6 _ rfl, G 7 _ rfl, G 8 _ rfl⟩
theorem SC.frz {w0 W : World} {g : Nat} {d d0 : Array Cm} (S : SC w0 g d W) (R : RC w0 g d0) (hs : d.size = d0.size) (i : Nat) (hi : i < d.size) :
    W.frozen? ⟨g, i * 9, none⟩ = false ∧ W.frozen? ⟨g, i * 9 + 1, none⟩ = false ∧ W.frozen? ⟨g, i * 9 + 2, none⟩ = false ∧ W.frozen? ⟨g, i * 9 + 3, none⟩ = false ∧ W.frozen? ⟨g, i * 9 + 4, none⟩ = false ∧ W.frozen? ⟨g, i * 9 + 5, none⟩ = false ∧ W.frozen? ⟨g, i * 9 + 6, none⟩ = false ∧ W.frozen? ⟨g, i * 9 + 7, none⟩ = false ∧ W.frozen? ⟨g, i * 9 + 8, none⟩ = false := by
  have G : ∀ c, c < 9 → W.frozen? ⟨g, i * 9 + c, none⟩ = false := fun c h => by
    have := ((S.holds R.hblk R.hH hs).cell hi h).2
    rwa [Nat.zero_add] at this
  exact ⟨G 0 (by omega), G 1 (by omega), G 2 (by omega), G 3 (by omega), G 4 (by omega), G 5 (by omega), G 6 (by omega), G 7 (by omega), G 8 (by omega)⟩
theorem SC.swap {w0 W : World} {g : Nat} {d d0 : Array Cm} (S : SC w0 g d W) (R : RC w0 g d0) (i j : Nat) (hi : i < d.size) (hj : j < d.size) {x y : Cm} (hx : x = d[i]!) (hy : y = d[j]!) :
    SC w0 g (swp d i j) ((((((((((((((((((W.setCell ⟨g, i * 9, none⟩ (.int .i64 y.x.id)).setCell ⟨g, i * 9 + 1, none⟩ (.int .i64 y.x.code)).setCell ⟨g, i * 9 + 2, none⟩ (.int .i64 y.x.ts)).setCell ⟨g, i * 9 + 3, none⟩ (.int .i64 y.x.since)).setCell ⟨g, i * 9 + 4, none⟩ (.bool y.x.wr)).setCell ⟨g, i * 9 + 5, none⟩ (.slice y.a y.x.defs.length y.c)).setCell ⟨g, i * 9 + 6, none⟩ (.slice y.b y.x.vars.length y.d)).setCell ⟨g, i * 9 + 7, none⟩ (.string y.x.t)).setCell ⟨g, i * 9 + 8, none⟩ (.int .i64 y.p)).setCell ⟨g, j * 9, none⟩ (.int .i64 x.x.id)).setCell ⟨g, j * 9 + 1, none⟩ (.int .i64 x.x.code)).setCell ⟨g, j * 9 + 2, none⟩ (.int .i64 x.x.ts)).setCell ⟨g, j * 9 + 3, none⟩ (.int .i64 x.x.since)).setCell ⟨g, j * 9 + 4, none⟩ (.bool x.x.wr)).setCell ⟨g, j * 9 + 5, none⟩ (.slice x.a x.x.defs.length x.c)).setCell ⟨g, j * 9 + 6, none⟩ (.slice x.b x.x.vars.length x.d)).setCell ⟨g, j * 9 + 7, none⟩ (.string x.x.t)).setCell ⟨g, j * 9 + 8, none⟩ (.int .i64 x.p)) := by
  have := SWK.swap S R.hk R.hblk i j hi hj
  rw [← hx, ← hy] at this
  simpa [cmV, World.setCells, Nat.add_assoc] using this
def ag (x : Cm) : Value := .agg #[.int .i64 x.x.id, .int .i64 x.x.code, .int .i64 x.x.ts, .int .i64 x.x.since, .bool x.x.wr, .slice x.a x.x.defs.length x.c, .slice x.b x.x.vars.length x.d, .string x.x.t, .int .i64 x.p]
theorem SC.cmp {w0 W : World} {g : Nat} {d d0 : Array Cm} (S : SC w0 g d W) (hs : d.size = d0.size) (x y : Cm) (n : Nat) (os : Array Obj) :
    Calls Tryd.prog 42 #[.agg #[.int .i64 x.x.id, .int .i64 x.x.code, .int .i64 x.x.ts, .int .i64 x.x.since, .bool x.x.wr, .slice x.a x.x.defs.length x.c, .slice x.b x.x.vars.length x.d, .string x.x.t, .int .i64 x.p], .agg #[.int .i64 y.x.id, .int .i64 y.x.code, .int .i64 y.x.ts, .int .i64 y.x.since, .bool y.x.wr, .slice y.a y.x.defs.length y.c, .slice y.b y.x.vars.length y.d, .string y.x.t, .int .i64 y.p]] (Sort.grow (W.drewN n) os) fun e w' => e = .returned (.int .i64 (cfH x y)) ∧ ∃ q os', w' = Sort.grow ((Sort.grow (W.drewN n) os).drewN q) os' := by
  have := SWK.cmp S (cm_lays g d0.size w0) hs x y n os
  simpa [cmV] using this
set_option maxHeartbeats 8000000 in
set_option maxRecDepth 100000 in
theorem ins_sort (w0 : World) (g cap : Nat) (d0 d : Array Cm) (a b : Nat) (W : World) (R : RC w0 g d0) (hs : d.size = d0.size) (S : SC w0 g d W) (hab : a ≤ b) (hb : b ≤ d.size) (hsz : d.size ≤ 60) (hp : PlA a b (vw d)) :
    Calls Tryd.prog 68 #[.slice (some ⟨g, 0, none⟩) d.size cap, .int .i64 a, .int .i64 b, .func (.func 42) #[] #[]] W fun e w' =>
      e = .returned (.tuple #[]) ∧ ∃ d' : Array Cm, d'.size = d.size ∧ SC w0 g d' w' ∧ Mv a b (vw d) (vw d') ∧ SoL a b (vw d') := by
  have HS : Hid (SC w0 g d W) := S
  have HR : Hid (RC w0 g d0) := R
  have HP : Hid (PlA a b (vw d)) := hp
  have HN : Hid (d.size = d0.size) := hs
  have mixed : Tryd.prog.follows Departure.mixedOrders = true := by kernel_rfl
  clear S R hp hs
  go_enter Tryd.func68, Tryd.ntmps68
  go_wp2_with fail
  go_loopw [8] (fun vi wr => ∃ (i : Nat) (dk : Array Cm), vi = .int .i64 i ∧ a < i ∧ i ≤ b + 1 ∧ Hid (dk.size = d.size) ∧ Hid (SC w0 g dk wr) ∧ Hid (Mv a (min i b) (vw d) (vw dk)) ∧ Hid (SoL a (min i b) (vw dk))) (fun vi _ => b + 1 - (intOf vi).toNat)
  case atStart => exact ⟨a + 1, d, by go_num, by omega, by omega, rfl, HS, Mv.refl _ _ _, fun u v h1 h2 h3 => by omega⟩
  case round =>
    obtain ⟨i, dk, rfl, hai, hib, HSZ, HW, HM, HO⟩ := hrel
    obtain ⟨W1, rfl⟩ : ∃ x, x = wr := ⟨_, rfl⟩
    by_cases hlt : i < b
    · have hltz : (i : Int) < (b : Int) := by omega
      have e1 : min i b = i := by omega
      have HM1 : Hid (Mv a i (vw d) (vw dk)) := by have := HM.out; rwa [e1] at this
      have HO1 : Hid (SoL a i (vw dk)) := by have := HO.out; rwa [e1] at this
      clear HM HO e1
      go_wp2_with fail
      go_loopw [9] (fun vj wr2 => ∃ (j : Nat) (dj : Array Cm), vj = .int .i64 j ∧ a ≤ j ∧ j ≤ i ∧ Hid (dj.size = d.size) ∧ Hid (SC w0 g dj wr2) ∧ Hid (InsJ a i j (vw dk) (vw dj))) (fun vj _ => (intOf vj).toNat)
      case atStart => exact ⟨i, dk, rfl, by omega, by omega, HSZ, HW, InsJ.start (by omega) HO1.out (SoL.next HM1.out HP.out (by omega) hlt)⟩
      case round =>
        obtain ⟨j, dj, rfl, haj, hji, HSJ, HWJ, HI⟩ := hrel
        obtain ⟨W2, rfl⟩ : ∃ x, x = wr := ⟨_, rfl⟩
        have OUT : Hid ((j = a ∨ ∃ k, j = k + 1 ∧ ¬ Kl (vw dj j) (vw dj k)) → Mv a (min (i + 1) b) (vw d) (vw dj) ∧ SoL a (min (i + 1) b) (vw dj)) := fun h => by
          rw [show min (i + 1) b = i + 1 by omega]
          exact ⟨(HM1.out.mono (Nat.le_refl _) (by omega)).trans HI.out.1, InsJ.stop HI.out h⟩
        by_cases hja : a < j
        · obtain ⟨k, rfl⟩ : ∃ k, j = k + 1 := ⟨j - 1, by omega⟩
          have hd1 : k + 1 < dj.size := by have := HSJ.out; omega
          have hd0 : k < dj.size := by omega
          have hse : dj.size = d0.size := HSJ.out.trans HN.out
          have HSE : Hid _ := hse
          obtain ⟨x, hx⟩ : ∃ x, x = dj[k + 1]! := ⟨_, rfl⟩
          obtain ⟨y, hy⟩ : ∃ x, x = dj[k]! := ⟨_, rfl⟩
          have l1 := fun n os => SC.cells (SWK.grown HWJ.out n os) HR.out hse (k + 1) hd1 hx
          have l0 := fun n os => SC.cells (SWK.grown HWJ.out n os) HR.out hse (k) hd0 hy
          have l10 := fun n os => (l1 n os).1
          have l11 := fun n os => (l1 n os).2.1
          have l12 := fun n os => (l1 n os).2.2.1
          have l13 := fun n os => (l1 n os).2.2.2.1
          have l14 := fun n os => (l1 n os).2.2.2.2.1
          have l15 := fun n os => (l1 n os).2.2.2.2.2.1
          have l16 := fun n os => (l1 n os).2.2.2.2.2.2.1
          have l17 := fun n os => (l1 n os).2.2.2.2.2.2.2.1
          have l18 := fun n os => (l1 n os).2.2.2.2.2.2.2.2
          have l00 := fun n os => (l0 n os).1
          have l01 := fun n os => (l0 n os).2.1
          have l02 := fun n os => (l0 n os).2.2.1
          have l03 := fun n os => (l0 n os).2.2.2.1
          have l04 := fun n os => (l0 n os).2.2.2.2.1
          have l05 := fun n os => (l0 n os).2.2.2.2.2.1
          have l06 := fun n os => (l0 n os).2.2.2.2.2.2.1
          have l07 := fun n os => (l0 n os).2.2.2.2.2.2.2.1
          have l08 := fun n os => (l0 n os).2.2.2.2.2.2.2.2
          have hc := fun n os => SC.cmp (d0 := d0) HWJ.out hse x y n os
          have HXY : Hid (x = dj[k + 1]! ∧ y = dj[k]!) := ⟨hx, hy⟩
          clear l1 l0 hx hy
          have hjz : (a : Int) < (k : Int) + 1 := by omega
          have hb1 : (k : Int) + 1 < d.size := by omega
          have hb0 : (k : Int) < d.size := by omega
          have p0 : (0 : Int) ≤ (k : Int) + 1 := by omega
          have e0 : ((k : Int) + 1).toNat = k + 1 := by omega
          have hw : IntKind.i64.wrap (k : Int) = (k : Int) := by rw [IntKind.wrap_i64]; omega
          clear hse
          by_cases hk : cfH x y < 0
          · have HKL : Hid (Kl (vw dj (k + 1)) (vw dj k)) := by unfold Hid vw; rw [← HXY.out.1, ← HXY.out.2]; exact (cf_kl x y).1 hk
            go_wp2_with fail
            go_quiet_grown (first | (go_at_call 42; refine Calls.grown_of (hc _ _)))
            go_wp2_with fail
            have S2 : Hid (SC w0 g dj (grow (W2.drewN nq) osq)) := SWK.grown HWJ.out nq osq
            clear hc l10 l11 l12 l13 l14 l15 l16 l17 l18 l00 l01 l02 l03 l04 l05 l06 l07 l08
            generalize grow (W2.drewN nq) osq = V at *
            have m1 := SC.cells S2.out HR.out HSE.out (k + 1) hd1 HXY.out.1
            have m0 := SC.cells S2.out HR.out HSE.out (k) hd0 HXY.out.2
            have f1 := SC.frz S2.out HR.out HSE.out (k + 1) hd1
            have f0 := SC.frz S2.out HR.out HSE.out (k) hd0
            obtain ⟨p10, p11, p12, p13, p14, p15, p16, p17, p18⟩ := m1
            obtain ⟨p00, p01, p02, p03, p04, p05, p06, p07, p08⟩ := m0
            obtain ⟨q10, q11, q12, q13, q14, q15, q16, q17, q18⟩ := f1
            obtain ⟨q00, q01, q02, q03, q04, q05, q06, q07, q08⟩ := f0
            go_big_region_o
            go_wp2_with fail
            refine ⟨⟨k, swp dj (k + 1) k, rfl, by omega, by omega, by rw [Hid, size_swp]; exact HSJ.out, ?_, ?_⟩, by simp [intOf]⟩
            · exact SWK.drew (SC.swap S2.out HR.out (k + 1) k hd1 hd0 HXY.out.1 HXY.out.2)
            · rw [Hid, vw_swp hd1 hd0]; exact InsJ.step HI.out (by omega) HKL.out
          · have HKL : Hid (¬ Kl (vw dj (k + 1)) (vw dj k)) := by unfold Hid vw; rw [← HXY.out.1, ← HXY.out.2]; exact fun h => hk ((cf_kl x y).2 h)
            go_wp2_with fail
            go_quiet_grown (first | (go_at_call 42; refine Calls.grown_of (hc _ _)))
            go_wp2_with fail
            have T := OUT.out (.inr ⟨k, rfl, HKL.out⟩)
            exact ⟨⟨i + 1, dj, by go_num, by omega, by omega, HSJ, SWK.grown HWJ.out nq osq, T.1, T.2⟩, by simp [intOf]; omega⟩
        · have hjaz : decide ((j : Int) > (a : Int)) = false := decide_eq_false (by omega)
          have hjaz' : ¬ (a : Int) < (j : Int) := by omega
          go_wp2_with fail
          go_big_region_o
          go_wp2_with fail
          have T := OUT.out (.inl (by omega))
          exact ⟨⟨i + 1, dj, by go_num, by omega, by omega, HSJ, SWK.drew HWJ.out, T.1, T.2⟩, by simp [intOf]; omega⟩
    · have hltz : ¬ (i : Int) < (b : Int) := by omega
      have HE : Hid (Mv a b (vw d) (vw dk) ∧ SoL a b (vw dk)) := by
        have h1 := HM.out
        have h2 := HO.out
        rw [show min i b = b by omega] at h1 h2
        exact ⟨h1, h2⟩
      clear HM HO
      go_wp2_with fail
      go_end0
      exact ⟨rfl, dk, HSZ.out, HW.out, HE.out.1, HE.out.2⟩
end Go.Proofs.YtgnonbghgcpnoaaDoor
