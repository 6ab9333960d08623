/- The library's exchange of ranges, its rotation. -/
import Derived.Test.YtgnonbghgcpnoaaDoorWiIns
namespace Go.Proofs.YtgnonbghgcpnoaaDoor
open Go.ChangeShapes Go.WideShapes Go.ChangeAt Go.RowKit
open Go.Shelf Go.Lib Go.Sort
set_option linter.unusedVariables false

set_option maxHeartbeats 8000000 in
set_option maxRecDepth 100000 in
theorem swap_range (w0 : World) (g cap : Nat) (d0 d : Array Cm) (a b n : Nat) (W : World) (R : RC w0 g d0) (hs : d.size = d0.size) (S : SC w0 g d W) (hab : a + n ≤ b) (hb : b + n ≤ d.size) (hsz : d.size ≤ 60) :
    Calls Tryd.prog 77 #[.slice (some ⟨g, 0, none⟩) d.size cap, .int .i64 a, .int .i64 b, .int .i64 n, .func (.func 42) #[] #[]] W fun e w' =>
      e = .returned (.tuple #[]) ∧ ∃ d' : Array Cm, d'.size = d.size ∧ SC w0 g d' w' ∧ Mv a (b + n) (vw d) (vw d') ∧ vw d' = srF (vw d) a b n := by
  have HS : Hid (SC w0 g d W) := S
  have HR : Hid (RC w0 g d0) := R
  have HN : Hid (d.size = d0.size) := hs
  have mixed : Tryd.prog.follows Departure.mixedOrders = true := by kernel_rfl
  clear S R hs
  go_enter Tryd.func77, Tryd.ntmps77
  go_wp2_with fail
  go_loopw [10] (fun vi wr => ∃ (i : Nat) (dk : Array Cm), vi = .int .i64 i ∧ i ≤ n ∧ Hid (dk.size = d.size) ∧ Hid (SC w0 g dk wr) ∧ Hid (Mv a (b + n) (vw d) (vw dk)) ∧ Hid (vw dk = srF (vw d) a b i)) (fun vi _ => n - (intOf vi).toNat)
  case atStart => exact ⟨0, d, rfl, by omega, rfl, HS, Mv.refl _ _ _, (sr_zero _ _ _).symm⟩
  case round =>
    obtain ⟨i, dk, rfl, hin, HSZ, HW, HM, HO⟩ := hrel
    obtain ⟨W1, rfl⟩ : ∃ x, x = wr := ⟨_, rfl⟩
    by_cases hlt : i < n
    · have hltz : (i : Int) < (n : Int) := by omega
      have hd1 : a + i < dk.size := by have := HSZ.out; omega
      have hd0 : b + i < dk.size := by have := HSZ.out; omega
      have HSE : Hid (dk.size = d0.size) := HSZ.out.trans HN.out
      obtain ⟨x, hx⟩ : ∃ x, x = dk[a + i]! := ⟨_, rfl⟩
      obtain ⟨y, hy⟩ : ∃ x, x = dk[b + i]! := ⟨_, rfl⟩
      have HXY : Hid (x = dk[a + i]! ∧ y = dk[b + i]!) := ⟨hx, hy⟩
      obtain ⟨u, hu⟩ : ∃ u, u = a + i := ⟨_, rfl⟩
      obtain ⟨v, hv⟩ : ∃ v, v = b + i := ⟨_, rfl⟩
      have hu1 : (a : Int) + (i : Int) = (u : Int) := by omega
      have hv1 : (b : Int) + (i : Int) = (v : Int) := by omega
      have hw1 : IntKind.i64.wrap ((a : Int) + (i : Int)) = (u : Int) := by rw [IntKind.wrap_i64]; omega
      have hw2 : IntKind.i64.wrap ((b : Int) + (i : Int)) = (v : Int) := by rw [IntKind.wrap_i64]; omega
      have hb1 : (u : Int) < d.size := by omega
      have hb0 : (v : Int) < d.size := by omega
      rw [← hu] at hd1 HXY
      rw [← hv] at hd0 HXY
      have HU : Hid (u = a + i ∧ v = b + i) := ⟨hu, hv⟩
      clear hx hy hu hv
      have m1 := SC.cells HW.out HR.out HSE.out (u) hd1 HXY.out.1
      have m0 := SC.cells HW.out HR.out HSE.out (v) hd0 HXY.out.2
      have f1 := SC.frz HW.out HR.out HSE.out (u) hd1
      have f0 := SC.frz HW.out HR.out HSE.out (v) hd0
      obtain ⟨p10, p11, p12, p13, p14, p15, p16, p17, p18⟩ := m1
      obtain ⟨p00, p01, p02, p03, p04, p05, p06, p07, p08⟩ := m0
      obtain ⟨q10, q11, q12, q13, q14, q15, q16, q17, q18⟩ := f1
      obtain ⟨q00, q01, q02, q03, q04, q05, q06, q07, q08⟩ := f0
      go_wp2_with fail
      go_big_region_o
      go_wp2_with fail
      refine ⟨⟨i + 1, swp dk u v, by go_num, by omega, by rw [Hid, size_swp]; exact HSZ.out, ?_, ?_, ?_⟩, by simp [intOf]; omega⟩
      · exact SWK.drew (SC.swap HW.out HR.out u v hd1 hd0 HXY.out.1 HXY.out.2)
      · rw [Hid, vw_swp hd1 hd0]; exact HM.out.trans (Mv.sw _ (by have := HU.out; omega) (by have := HU.out; omega) (by have := HU.out; omega) (by have := HU.out; omega))
      · rw [Hid, vw_swp hd1 hd0, HO.out, HU.out.1, HU.out.2]; exact sr_next _ _ _ _ (by omega)
    · have hltz : ¬ (i : Int) < (n : Int) := by omega
      obtain rfl : i = n := by omega
      go_wp2_with fail
      go_end0
      exact ⟨rfl, dk, HSZ.out, HW.out, HM.out, HO.out⟩
set_option maxHeartbeats 8000000 in
set_option maxRecDepth 100000 in
theorem rotate (w0 : World) (g cap : Nat) (d0 d : Array Cm) (a m b : Nat) (W : World) (R : RC w0 g d0) (hs : d.size = d0.size) (S : SC w0 g d W) (ham : a < m) (hmb : m < b) (hb : b ≤ d.size) (hsz : d.size ≤ 60) :
    Calls Tryd.prog 73 #[.slice (some ⟨g, 0, none⟩) d.size cap, .int .i64 a, .int .i64 m, .int .i64 b, .func (.func 42) #[] #[]] W fun e w' =>
      e = .returned (.tuple #[]) ∧ ∃ d' : Array Cm, d'.size = d.size ∧ SC w0 g d' w' ∧ Mv a b (vw d) (vw d') ∧ vw d' = rotF (vw d) a m b := by
  have HS : Hid (SC w0 g d W) := S
  have HR : Hid (RC w0 g d0) := R
  have HN : Hid (d.size = d0.size) := hs
  clear S R hs
  go_enter Tryd.func73, Tryd.ntmps73
  go_wp2_with fail
  go_loopw [10, 11] (fun vi vj wr => ∃ (i j : Nat) (dk : Array Cm), vi = .int .i64 i ∧ vj = .int .i64 j ∧ 0 < i ∧ 0 < j ∧ a + i ≤ m ∧ m + j ≤ b ∧ Hid (dk.size = d.size) ∧ Hid (SC w0 g dk wr) ∧ Hid (Mv a b (vw d) (vw dk)) ∧ Hid (rotF (vw dk) (m - i) m (m + j) = rotF (vw d) a m b)) (fun vi vj _ => (intOf vi).toNat + (intOf vj).toNat)
  case atStart => exact ⟨m - a, b - m, d, by go_num, by go_num, by omega, by omega, by omega, by omega, rfl, HS, Mv.refl _ _ _, by unfold Hid; rw [show m - (m - a) = a by omega, show m + (b - m) = b by omega]⟩
  case round =>
    obtain ⟨i, j, dk, rfl, rfl, hi, hj, him, hjm, HSZ, HW, HM, HO⟩ := hrel
    obtain ⟨W1, rfl⟩ : ∃ x, x = wr := ⟨_, rfl⟩
    obtain ⟨lo, hlo⟩ : ∃ lo, lo = m - i := ⟨_, rfl⟩
    have hmi : (m : Int) - (i : Int) = (lo : Int) := by omega
    have HLO : Hid (lo = m - i) := hlo
    have HSE : Hid (dk.size = d0.size) := HSZ.out.trans HN.out
    rw [← hlo] at HO
    have hsd : dk.size = d.size := HSZ.out
    by_cases h1 : i = j
    · subst h1
      clear hlo
      go_wp2_with fail
      rw [← hsd]
      refine (swap_range w0 g cap d0 dk lo m i _ HR.out HSE.out HW.out (by omega) (by omega) (by omega)).mono ?_
      rintro e w1 ⟨rfl, d', e1, e2, e3, e4⟩
      have HD : Hid (d'.size = d.size ∧ SC w0 g d' w1 ∧ Mv a b (vw d) (vw d') ∧ vw d' = rotF (vw d) a m b) :=
        ⟨e1.trans hsd, e2, HM.out.trans (e3.mono (by have := HLO.out; omega) (by omega)), by rw [← HO.out, e4]; exact rot_even _ _ _ _ (by have := HLO.out; omega)⟩
      clear e1 e2 e3 e4
      go_wp2_with fail
      go_end0
      exact ⟨rfl, d', HD.out⟩
    have h1' : ((i : Int) != (j : Int)) = true := by simp; omega
    by_cases h2 : j < i
    · have h2' : (j : Int) < (i : Int) := by omega
      clear hlo
      go_wp2_with fail
      rw [← hsd]
      refine (swap_range w0 g cap d0 dk lo m j _ HR.out HSE.out HW.out (by omega) (by omega) (by omega)).mono ?_
      rintro e w1 ⟨rfl, d', e1, e2, e3, e4⟩
      have HD : Hid (d'.size = d.size ∧ SC w0 g d' w1 ∧ Mv a b (vw d) (vw d') ∧ rotF (vw d') (m - (i - j)) m (m + j) = rotF (vw d) a m b) :=
        ⟨e1.trans hsd, e2, HM.out.trans (e3.mono (by have := HLO.out; omega) (by omega)), by rw [← HO.out, e4, show m - (i - j) = lo + j by have := HLO.out; omega]; exact rot_big _ _ _ _ _ (by have := HLO.out; omega) h2⟩
      clear e1 e2 e3 e4
      have hij : (i : Int) - (j : Int) = ((i - j : Nat) : Int) := by omega
      go_wp2_with fail
      exact ⟨⟨i - j, j, d', by go_num, rfl, by omega, hj, by omega, by omega, HD.out.1, HD.out.2.1, HD.out.2.2.1, HD.out.2.2.2⟩, by simp [intOf]; omega⟩
    · have h2' : ¬ (j : Int) < (i : Int) := by omega
      obtain ⟨t, ht⟩ : ∃ t, t = m + j - i := ⟨_, rfl⟩
      have hmj : (m : Int) + (j : Int) - (i : Int) = (t : Int) := by omega
      have HT : Hid (t = m + j - i) := ht
      clear hlo ht
      go_wp2_with fail
      rw [← hsd]
      refine (swap_range w0 g cap d0 dk lo t i _ HR.out HSE.out HW.out (by omega) (by omega) (by omega)).mono ?_
      rintro e w1 ⟨rfl, d', e1, e2, e3, e4⟩
      have HD : Hid (d'.size = d.size ∧ SC w0 g d' w1 ∧ Mv a b (vw d) (vw d') ∧ rotF (vw d') (m - i) m (m + (j - i)) = rotF (vw d) a m b) :=
        ⟨e1.trans hsd, e2, HM.out.trans (e3.mono (by have := HLO.out; omega) (by omega)), by rw [← HO.out, e4, ← HLO.out, HT.out]; exact rot_small _ _ _ _ _ (by have := HLO.out; omega) (by omega)⟩
      clear e1 e2 e3 e4
      go_wp2_with fail
      exact ⟨⟨i, j - i, d', rfl, by go_num, hi, by omega, by omega, by omega, HD.out.1, HD.out.2.1, HD.out.2.2.1, HD.out.2.2.2⟩, by simp [intOf]; omega⟩
end Go.Proofs.YtgnonbghgcpnoaaDoor
