/- The library's merging of two runs, at those that are committed. -/
import Derived.Test.YtgnonbghgcpnoaaDoorWiRot
namespace Go.Proofs.YtgnonbghgcpnoaaDoor
open Go.ChangeShapes Go.WideShapes Go.ChangeAt Go.RowKit
open Go.Shelf Go.Lib Go.Sort
set_option linter.unusedVariables false

theorem Pre.keep {a m b : Nat} {f h : Nat → Cm} (p : Pre a m b f) (ham : a ≤ m) (e : ∀ i, a ≤ i → h i = f i) : Pre a m b h := by
  obtain ⟨q1, q2, q3⟩ := p
  refine ⟨fun i j h1 h2 h3 => ?_, fun i j h1 h2 h3 => ?_, fun i j h1 h2 h3 h4 => ?_⟩
  · rw [e i h1, e j (by omega)]; exact q1 i j h1 h2 h3
  · rw [e i (by omega), e j (by omega)]; exact q2 i j h1 h2 h3
  · rw [e i h1, e j (by omega)]; exact q3 i j h1 h2 h3 h4
def MgS (w0 : World) (g cap : Nat) (d0 : Array Cm) (N : Nat) : Prop := ∀ (a m b : Nat) (d : Array Cm) (W : World), b - a < N → d.size = d0.size → SC w0 g d W → a < m → m < b → b ≤ d.size → d.size ≤ 60 → Pre a m b (vw d) →
    Calls Tryd.prog 69 #[.slice (some ⟨g, 0, none⟩) d.size cap, .int .i64 a, .int .i64 m, .int .i64 b, .func (.func 42) #[] #[]] W fun e w' => e = .returned (.tuple #[]) ∧ ∃ d' : Array Cm, d'.size = d.size ∧ SC w0 g d' w' ∧ Mv a b (vw d) (vw d') ∧ SoL a b (vw d')
set_option maxHeartbeats 16000000 in
set_option maxRecDepth 100000 in
theorem merge_one (w0 : World) (g cap : Nat) (d0 d : Array Cm) (a b : Nat) (W : World) (R : RC w0 g d0) (hs : d.size = d0.size) (S : SC w0 g d W) (hmb : a + 1 < b) (hb : b ≤ d.size) (hsz : d.size ≤ 60) (hp : Pre a (a + 1) b (vw d)) :
    Calls Tryd.prog 69 #[.slice (some ⟨g, 0, none⟩) d.size cap, .int .i64 a, .int .i64 ((a : Int) + 1), .int .i64 b, .func (.func 42) #[] #[]] W fun e w' => e = .returned (.tuple #[]) ∧ ∃ d' : Array Cm, d'.size = d.size ∧ SC w0 g d' w' ∧ Mv a b (vw d) (vw d') ∧ SoL a b (vw d') := by
  have HS : Hid (SC w0 g d W) := S
  have HR : Hid (RC w0 g d0) := R
  have HN : Hid (d.size = d0.size) := hs
  have HP : Hid (Pre a (a + 1) b (vw d)) := hp
  have mixed : Tryd.prog.follows Departure.mixedOrders = true := by kernel_rfl
  have hw0 : IntKind.i64.wrap ((a : Int) + 1 - (a : Int)) = 1 := by rw [IntKind.wrap_i64]; omega
  have hw1 : (a : Int) + 1 - (a : Int) = 1 := by omega
  clear S R hs hp
  go_enter Tryd.func69, Tryd.ntmps69
  go_wp2_with fail
  go_loopw [10, 11] (fun vi vj wr => ∃ (i j : Nat), vi = .int .i64 i ∧ vj = .int .i64 j ∧ a + 1 ≤ i ∧ i ≤ j ∧ j ≤ b ∧ Hid (SC w0 g d wr) ∧ Hid (∀ k, a + 1 ≤ k → k < i → Kl (vw d k) (vw d a)) ∧ Hid (∀ k, j ≤ k → k < b → ¬ Kl (vw d k) (vw d a))) (fun vi vj _ => (intOf vj).toNat - (intOf vi).toNat)
  case atStart => exact ⟨a + 1, b, by go_num, rfl, by omega, by omega, by omega, HS, fun k h1 h2 => by omega, fun k h1 h2 => by omega⟩
  case round =>
    obtain ⟨i, j, rfl, rfl, hi, hij, hj, HW, HI, HJ⟩ := hrel
    obtain ⟨W1, rfl⟩ : ∃ x, x = wr := ⟨_, rfl⟩
    by_cases hlt : i < j
    · have hltz : (i : Int) < (j : Int) := by omega
      obtain ⟨h, hh, hh1, hh2⟩ : ∃ h : Nat, ((i : Int) + j) / 2 = h ∧ i ≤ h ∧ h < j := ⟨(i + j) / 2, by omega, by omega, by omega⟩
      have HHH : Hid _ := hh
      clear hh
      have hd1 : h < d.size := by omega
      have hd0 : a < d.size := by omega
      obtain ⟨x, hx⟩ : ∃ x, x = d[h]! := ⟨_, rfl⟩
      obtain ⟨y, hy⟩ : ∃ x, x = d[a]! := ⟨_, rfl⟩
      have l1 := fun n os => SC.cells (SWK.grown HW.out n os) HR.out HN.out (h) hd1 hx
      have l0 := fun n os => SC.cells (SWK.grown HW.out n os) HR.out HN.out (a) hd0 hy
      have l10 := fun n os => (l1 n os).1
      have l11 := fun n os => (l1 n os).2.1
      have l12 := fun n os => (l1 n os).2.2.1
      have l13 := fun n os => (l1 n os).2.2.2.1
      have l14 := fun n os => (l1 n os).2.2.2.2.1
      have l15 := fun n os => (l1 n os).2.2.2.2.2.1
      have l16 := fun n os => (l1 n os).2.2.2.2.2.2.1
      have l17 := fun n os => (l1 n os).2.2.2.2.2.2.2.1
      have l18 := fun n os => (l1 n os).2.2.2.2.2.2.2.2
      have l00 := fun n os => (l0 n os).1
      have l01 := fun n os => (l0 n os).2.1
      have l02 := fun n os => (l0 n os).2.2.1
      have l03 := fun n os => (l0 n os).2.2.2.1
      have l04 := fun n os => (l0 n os).2.2.2.2.1
      have l05 := fun n os => (l0 n os).2.2.2.2.2.1
      have l06 := fun n os => (l0 n os).2.2.2.2.2.2.1
      have l07 := fun n os => (l0 n os).2.2.2.2.2.2.2.1
      have l08 := fun n os => (l0 n os).2.2.2.2.2.2.2.2
      have hc := fun n os => SC.cmp (d0 := d0) HW.out HN.out x y n os
      have HXY : Hid (x = d[h]! ∧ y = d[a]!) := ⟨hx, hy⟩
      clear l1 l0 hx hy
      have hb1 : (h : Int) < d.size := by omega
      have hb0 : (a : Int) < d.size := by omega
      by_cases hk : cfH x y < 0
      · have HI2 : Hid (∀ k, a + 1 ≤ k → k < h + 1 → Kl (vw d k) (vw d a)) := fun k h1 h2 => by
          have g1 : Kl (vw d h) (vw d a) := by unfold vw; rw [← HXY.out.1, ← HXY.out.2]; exact (cf_kl x y).1 hk
          by_cases e : k = h
          · subst e; exact g1
          · have g2 := HP.out.2.1 k h h1 (by omega) (by omega)
            unfold Lt Kl at *; omega
        go_wp2_with fail
        rw [HHH.out]
        go_quiet_grown (first | (go_at_call 42; refine Calls.grown_of (hc _ _)))
        go_wp2_with fail
        exact ⟨⟨h + 1, j, by go_num, rfl, by omega, by omega, hj, SWK.grown HW.out nq osq, HI2, HJ⟩, by simp [intOf]; omega⟩
      · have HJ2 : Hid (∀ k, h ≤ k → k < b → ¬ Kl (vw d k) (vw d a)) := fun k h1 h2 => by
          have g1 : ¬ Kl (vw d h) (vw d a) := by unfold vw; rw [← HXY.out.1, ← HXY.out.2]; exact fun q => hk ((cf_kl x y).2 q)
          by_cases e : k = h
          · subst e; exact g1
          · have g2 := HP.out.2.1 h k (by omega) (by omega) h2
            unfold Lt Kl at *; omega
        go_wp2_with fail
        rw [HHH.out]
        go_quiet_grown (first | (go_at_call 42; refine Calls.grown_of (hc _ _)))
        go_wp2_with fail
        exact ⟨⟨i, h, rfl, rfl, hi, by omega, by omega, SWK.grown HW.out nq osq, HI, HJ2⟩, by simp [intOf]; omega⟩
    · obtain rfl : i = j := by omega
      have HSO : Hid (SoL a b (shF (vw d) a (i - 1))) := sh_done HP.out hi hj HI.out HJ.out
      clear HI HJ
      go_wp2_with fail
      go_loopw [13] (fun vk wr2 => ∃ (k : Nat) (dk : Array Cm), vk = .int .i64 k ∧ a ≤ k ∧ k + 1 ≤ i ∧ Hid (dk.size = d.size) ∧ Hid (SC w0 g dk wr2) ∧ Hid (Mv a b (vw d) (vw dk)) ∧ Hid (vw dk = shF (vw d) a k)) (fun vk _ => b - (intOf vk).toNat)
      case atStart => exact ⟨a, d, rfl, by omega, by omega, rfl, HW, Mv.refl _ _ _, (sh_zero _ _).symm⟩
      case round =>
        obtain ⟨k, dk, rfl, hak, hki, HSZ, HWK, HM, HO⟩ := hrel
        obtain ⟨W2, rfl⟩ : ∃ x, x = wr := ⟨_, rfl⟩
        have hi1 : (0 : Int) ≤ (i : Int) - 1 := by omega
        by_cases hlt2 : k + 1 < i
        · have hltz2 : (k : Int) < (i : Int) - 1 := by omega
          have hd1 : k < dk.size := by have := HSZ.out; omega
          have hd0 : k + 1 < dk.size := by have := HSZ.out; omega
          have HSE : Hid (dk.size = d0.size) := HSZ.out.trans HN.out
          obtain ⟨x, hx⟩ : ∃ x, x = dk[k]! := ⟨_, rfl⟩
          obtain ⟨y, hy⟩ : ∃ x, x = dk[k + 1]! := ⟨_, rfl⟩
          have HXY : Hid (x = dk[k]! ∧ y = dk[k + 1]!) := ⟨hx, hy⟩
          have hb1 : (k : Int) + 1 < d.size := by omega
          have hb0 : (k : Int) < d.size := by omega
          have p0 : (0 : Int) ≤ (k : Int) + 1 := by omega
          have e0 : ((k : Int) + 1).toNat = k + 1 := by omega
          clear hx hy
          have m1 := SC.cells HWK.out HR.out HSE.out (k) hd1 HXY.out.1
          have m0 := SC.cells HWK.out HR.out HSE.out (k + 1) hd0 HXY.out.2
          have f1 := SC.frz HWK.out HR.out HSE.out (k) hd1
          have f0 := SC.frz HWK.out HR.out HSE.out (k + 1) hd0
          obtain ⟨p10, p11, p12, p13, p14, p15, p16, p17, p18⟩ := m1
          obtain ⟨p00, p01, p02, p03, p04, p05, p06, p07, p08⟩ := m0
          obtain ⟨q10, q11, q12, q13, q14, q15, q16, q17, q18⟩ := f1
          obtain ⟨q00, q01, q02, q03, q04, q05, q06, q07, q08⟩ := f0
          go_wp2_with fail
          go_big_region_o
          go_wp2_with fail
          refine ⟨⟨k + 1, swp dk k (k + 1), by go_num, by omega, by omega, by rw [Hid, size_swp]; exact HSZ.out, ?_, ?_, ?_⟩, by simp [intOf]; omega⟩
          · exact SWK.drew (SC.swap HWK.out HR.out k (k + 1) hd1 hd0 HXY.out.1 HXY.out.2)
          · rw [Hid, vw_swp hd1 hd0]; exact HM.out.trans (Mv.sw _ (by omega) (by omega) (by omega) (by omega))
          · rw [Hid, vw_swp hd1 hd0, HO.out]; exact sh_next _ _ _ hak
        · have hltz2 : ¬ (k : Int) < (i : Int) - 1 := by omega
          have HE : Hid (SoL a b (vw dk)) := by have := HSO.out; rw [show i - 1 = k by omega, ← HO.out] at this; exact this
          go_wp2_with fail
          refine bodyPost_ret (v := .tuple #[]) (by simp [results, Tryd.results69, go_sem]) rfl ?_
          exact ⟨rfl, dk, HSZ.out, HWK.out, HM.out, HE.out⟩
end Go.Proofs.YtgnonbghgcpnoaaDoor
