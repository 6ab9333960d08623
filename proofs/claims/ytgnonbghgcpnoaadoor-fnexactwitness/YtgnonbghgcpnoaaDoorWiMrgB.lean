/- The library's merging of a run with one behind it. -/
import Derived.Test.YtgnonbghgcpnoaaDoorWiMrgA
namespace Go.Proofs.YtgnonbghgcpnoaaDoor
open Go.ChangeShapes Go.WideShapes Go.ChangeAt Go.RowKit
open Go.Shelf Go.Lib Go.Sort
set_option linter.unusedVariables false

set_option maxHeartbeats 16000000 in
set_option maxRecDepth 100000 in
theorem merge_two (w0 : World) (g cap : Nat) (d0 d : Array Cm) (a m : Nat) (W : World) (R : RC w0 g d0) (hs : d.size = d0.size) (S : SC w0 g d W) (ham : a + 1 < m) (hb : m + 1 ≤ d.size) (hsz : d.size ≤ 60) (hp : Pre a m (m + 1) (vw d)) :
    Calls Tryd.prog 69 #[.slice (some ⟨g, 0, none⟩) d.size cap, .int .i64 a, .int .i64 m, .int .i64 ((m : Int) + 1), .func (.func 42) #[] #[]] W fun e w' => e = .returned (.tuple #[]) ∧ ∃ d' : Array Cm, d'.size = d.size ∧ SC w0 g d' w' ∧ Mv a (m + 1) (vw d) (vw d') ∧ SoL a (m + 1) (vw d') := by
  have HS : Hid (SC w0 g d W) := S
  have HR : Hid (RC w0 g d0) := R
  have HN : Hid (d.size = d0.size) := hs
  have HP : Hid (Pre a m (m + 1) (vw d)) := hp
  have mixed : Tryd.prog.follows Departure.mixedOrders = true := by kernel_rfl
  have hw2 : ((m : Int) - (a : Int) == 1) = false := by simp; omega
  have hw1 : (m : Int) + 1 - (m : Int) = 1 := by omega
  clear S R hs hp
  go_enter Tryd.func69, Tryd.ntmps69
  go_wp2_with fail
  go_loopw [14, 15] (fun vi vj wr => ∃ (i j : Nat), vi = .int .i64 i ∧ vj = .int .i64 j ∧ a ≤ i ∧ i ≤ j ∧ j ≤ m ∧ Hid (SC w0 g d wr) ∧ Hid (∀ k, a ≤ k → k < i → ¬ Kl (vw d m) (vw d k)) ∧ Hid (∀ k, j ≤ k → k < m → Kl (vw d m) (vw d k))) (fun vi vj _ => (intOf vj).toNat - (intOf vi).toNat)
  case atStart => exact ⟨a, m, rfl, rfl, by omega, by omega, by omega, HS, fun k h1 h2 => by omega, fun k h1 h2 => by omega⟩
  case round =>
    obtain ⟨i, j, rfl, rfl, hi, hij, hj, HW, HI, HJ⟩ := hrel
    obtain ⟨W1, rfl⟩ : ∃ x, x = wr := ⟨_, rfl⟩
    by_cases hlt : i < j
    · have hltz : (i : Int) < (j : Int) := by omega
      obtain ⟨h, hh, hh1, hh2⟩ : ∃ h : Nat, ((i : Int) + j) / 2 = h ∧ i ≤ h ∧ h < j := ⟨(i + j) / 2, by omega, by omega, by omega⟩
      have HHH : Hid _ := hh
      clear hh
      have hd1 : m < d.size := by omega
      have hd0 : h < d.size := by omega
      obtain ⟨x, hx⟩ : ∃ x, x = d[m]! := ⟨_, rfl⟩
      obtain ⟨y, hy⟩ : ∃ x, x = d[h]! := ⟨_, rfl⟩
      have l1 := fun n os => SC.cells (SWK.grown HW.out n os) HR.out HN.out (m) hd1 hx
      have l0 := fun n os => SC.cells (SWK.grown HW.out n os) HR.out HN.out (h) hd0 hy
      have l10 := fun n os => (l1 n os).1
      have l11 := fun n os => (l1 n os).2.1
      have l12 := fun n os => (l1 n os).2.2.1
      have l13 := fun n os => (l1 n os).2.2.2.1
      have l14 := fun n os => (l1 n os).2.2.2.2.1
      have l15 := fun n os => (l1 n os).2.2.2.2.2.1
      have l16 := fun n os => (l1 n os).2.2.2.2.2.2.1
      have l17 := fun n os => (l1 n os).2.2.2.2.2.2.2.1
      have l18 := fun n os => (l1 n os).2.2.2.2.2.2.2.2
      have l00 := fun n os => (l0 n os).1
      have l01 := fun n os => (l0 n os).2.1
      have l02 := fun n os => (l0 n os).2.2.1
      have l03 := fun n os => (l0 n os).2.2.2.1
      have l04 := fun n os => (l0 n os).2.2.2.2.1
      have l05 := fun n os => (l0 n os).2.2.2.2.2.1
      have l06 := fun n os => (l0 n os).2.2.2.2.2.2.1
      have l07 := fun n os => (l0 n os).2.2.2.2.2.2.2.1
      have l08 := fun n os => (l0 n os).2.2.2.2.2.2.2.2
      have hc := fun n os => SC.cmp (d0 := d0) HW.out HN.out x y n os
      have HXY : Hid (x = d[m]! ∧ y = d[h]!) := ⟨hx, hy⟩
      clear l1 l0 hx hy
      have hb1 : (m : Int) < d.size := by omega
      have hb0 : (h : Int) < d.size := by omega
      by_cases hk : cfH x y < 0
      · have hkd : decide (cfH x y < 0) = true := decide_eq_true hk
        have HJ2 : Hid (∀ k, h ≤ k → k < m → Kl (vw d m) (vw d k)) := fun k h1 h2 => by
          have g1 : Kl (vw d m) (vw d h) := by unfold vw; rw [← HXY.out.1, ← HXY.out.2]; exact (cf_kl x y).1 hk
          by_cases e : k = h
          · subst e; exact g1
          · have g2 := HP.out.1 h k (by omega) (by omega) h2
            unfold Lt Kl at *; omega
        go_wp2_with fail
        rw [HHH.out]
        go_quiet_grown (first | (go_at_call 42; refine Calls.grown_of (hc _ _)))
        go_wp2_with fail
        exact ⟨⟨i, h, rfl, rfl, hi, by omega, by omega, SWK.grown HW.out nq osq, HI, HJ2⟩, by simp [intOf]; omega⟩
      · have hkd : decide (cfH x y < 0) = false := decide_eq_false hk
        have HI2 : Hid (∀ k, a ≤ k → k < h + 1 → ¬ Kl (vw d m) (vw d k)) := fun k h1 h2 => by
          have g1 : ¬ Kl (vw d m) (vw d h) := by unfold vw; rw [← HXY.out.1, ← HXY.out.2]; exact fun q => hk ((cf_kl x y).2 q)
          by_cases e : k = h
          · subst e; exact g1
          · have g2 := HP.out.1 k h h1 (by omega) (by omega)
            unfold Lt Kl at *; omega
        go_wp2_with fail
        rw [HHH.out]
        go_quiet_grown (first | (go_at_call 42; refine Calls.grown_of (hc _ _)))
        go_wp2_with fail
        exact ⟨⟨h + 1, j, by go_num, rfl, by omega, by omega, hj, SWK.grown HW.out nq osq, HI2, HJ⟩, by simp [intOf]; omega⟩
    · obtain rfl : i = j := by omega
      have HSO : Hid (SoL a (m + 1) (sdF (vw d) m i)) := sd_done HP.out hi hj HI.out HJ.out
      clear HI HJ
      go_wp2_with fail
      go_loopw [17] (fun vk wr2 => ∃ (k : Nat) (dk : Array Cm), vk = .int .i64 k ∧ i ≤ k ∧ k ≤ m ∧ Hid (dk.size = d.size) ∧ Hid (SC w0 g dk wr2) ∧ Hid (Mv a (m + 1) (vw d) (vw dk)) ∧ Hid (vw dk = sdF (vw d) m k)) (fun vk _ => (intOf vk).toNat)
      case atStart => exact ⟨m, d, rfl, by omega, by omega, rfl, HW, Mv.refl _ _ _, (sd_zero _ _).symm⟩
      case round =>
        obtain ⟨k1, dk, rfl, hik, hkm, HSZ, HWK, HM, HO⟩ := hrel
        obtain ⟨W2, rfl⟩ : ∃ x, x = wr := ⟨_, rfl⟩
        by_cases hlt2 : i < k1
        · obtain ⟨k, rfl⟩ : ∃ k, k1 = k + 1 := ⟨k1 - 1, by omega⟩
          have hltz2 : (i : Int) < (k : Int) + 1 := by omega
          have hd1 : k + 1 < dk.size := by have := HSZ.out; omega
          have hd0 : k < dk.size := by have := HSZ.out; omega
          have HSE : Hid (dk.size = d0.size) := HSZ.out.trans HN.out
          obtain ⟨x, hx⟩ : ∃ x, x = dk[k + 1]! := ⟨_, rfl⟩
          obtain ⟨y, hy⟩ : ∃ x, x = dk[k]! := ⟨_, rfl⟩
          have HXY : Hid (x = dk[k + 1]! ∧ y = dk[k]!) := ⟨hx, hy⟩
          have hb1 : (k : Int) + 1 < d.size := by omega
          have hb0 : (k : Int) < d.size := by omega
          have p0 : (0 : Int) ≤ (k : Int) + 1 := by omega
          have e0 : ((k : Int) + 1).toNat = k + 1 := by omega
          have hw : IntKind.i64.wrap (k : Int) = (k : Int) := by rw [IntKind.wrap_i64]; omega
          clear hx hy
          have m1 := SC.cells HWK.out HR.out HSE.out (k + 1) hd1 HXY.out.1
          have m0 := SC.cells HWK.out HR.out HSE.out (k) hd0 HXY.out.2
          have f1 := SC.frz HWK.out HR.out HSE.out (k + 1) hd1
          have f0 := SC.frz HWK.out HR.out HSE.out (k) hd0
          obtain ⟨p10, p11, p12, p13, p14, p15, p16, p17, p18⟩ := m1
          obtain ⟨p00, p01, p02, p03, p04, p05, p06, p07, p08⟩ := m0
          obtain ⟨q10, q11, q12, q13, q14, q15, q16, q17, q18⟩ := f1
          obtain ⟨q00, q01, q02, q03, q04, q05, q06, q07, q08⟩ := f0
          go_wp2_with fail
          go_big_region_o
          go_wp2_with fail
          refine ⟨⟨k, swp dk (k + 1) k, rfl, by omega, by omega, by rw [Hid, size_swp]; exact HSZ.out, ?_, ?_, ?_⟩, by simp [intOf]⟩
          · exact SWK.drew (SC.swap HWK.out HR.out (k + 1) k hd1 hd0 HXY.out.1 HXY.out.2)
          · rw [Hid, vw_swp hd1 hd0]; exact HM.out.trans (Mv.sw _ (by omega) (by omega) (by omega) (by omega))
          · rw [Hid, vw_swp hd1 hd0, HO.out]; exact sd_next _ _ _ hkm
        · obtain rfl : k1 = i := by omega
          have HE : Hid (SoL a (m + 1) (vw dk)) := by have := HSO.out; rw [← HO.out] at this; exact this
          go_wp2_with fail
          refine bodyPost_ret (v := .tuple #[]) (by simp [results, Tryd.results69, go_sem]) rfl ?_
          exact ⟨rfl, dk, HSZ.out, HWK.out, HM.out, HE.out⟩
end Go.Proofs.YtgnonbghgcpnoaaDoor
