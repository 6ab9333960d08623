/- The library's merging of two runs. -/
import Derived.Test.YtgnonbghgcpnoaaDoorWiMrgB
namespace Go.Proofs.YtgnonbghgcpnoaaDoor
open Go.ChangeShapes Go.WideShapes Go.ChangeAt Go.RowKit
open Go.Shelf Go.Lib Go.Sort
set_option linter.unusedVariables false

set_option maxHeartbeats 16000000 in
set_option maxRecDepth 100000 in
theorem sym_merge (w0 : World) (g cap : Nat) (d0 : Array Cm) (R : RC w0 g d0) : ∀ N, MgS w0 g cap d0 N := by
  intro N
  induction N with
  | zero => intro a m b d W h; omega
  | succ N ih =>
  intro a m b d W hN hs S ham hmb hb hsz hp
  by_cases hm1 : m = a + 1
  · subst hm1
    have := merge_one w0 g cap d0 d a b W R hs S hmb hb hsz hp
    simpa using this
  by_cases hb1 : b = m + 1
  · subst hb1
    have := merge_two w0 g cap d0 d a m W R hs S (by omega) hb hsz hp
    simpa using this
  have IH : Hid (MgS w0 g cap d0 N) := ih
  have HS : Hid (SC w0 g d W) := S
  have HR : Hid (RC w0 g d0) := R
  have HN : Hid (d.size = d0.size) := hs
  have HP : Hid (Pre a m b (vw d)) := hp
  have mixed : Tryd.prog.follows Departure.mixedOrders = true := by kernel_rfl
  have e1 : ((m : Int) - (a : Int) == 1) = false := by simp; omega
  have e2 : ((b : Int) - (m : Int) == 1) = false := by simp; omega
  obtain ⟨mid, hmid⟩ : ∃ mid, mid = (a + b) / 2 := ⟨_, rfl⟩
  have HMID : Hid (mid = (a + b) / 2) := hmid
  have hmz : ((a : Int) + b) / 2 = (mid : Int) := by omega
  have hmb1 : mid < b := by omega
  have hma1 : a ≤ mid := by omega
  obtain ⟨n1, hn1⟩ : ∃ n1, n1 = mid + m - 1 := ⟨_, rfl⟩
  have HN1 : Hid (n1 + 1 = mid + m) := by unfold Hid; omega
  have hp1 : (mid : Int) + m - 1 = n1 := by have := HN1.out; omega
  obtain ⟨s0, r0, h0, hs0, hse, has0, hr0m, hr0d⟩ : ∃ s0 r0, ((mid < m ∧ s0 = mid + m - b ∧ r0 = mid) ∨ (m ≤ mid ∧ s0 = a ∧ r0 = m)) ∧ (mid < m → (mid : Int) + m - b = s0) ∧ s0 ≤ r0 ∧ a ≤ s0 ∧ r0 ≤ m ∧ r0 ≤ mid := by
    by_cases hmm : mid < m
    · exact ⟨mid + m - b, mid, .inl ⟨hmm, rfl, rfl⟩, fun _ => by omega, by omega, by omega, by omega, by omega⟩
    · exact ⟨a, m, .inr ⟨by omega, rfl, rfl⟩, fun h => absurd h hmm, by omega, by omega, by omega, by omega⟩
  have H0 : Hid ((mid < m ∧ s0 = mid + m - b ∧ r0 = mid) ∨ (m ≤ mid ∧ s0 = a ∧ r0 = m)) := h0
  clear S R hs hp ih hmid hn1
  have LOOP : Hid (∀ s r c : Nat, s0 ≤ s → s ≤ c → c < r → r ≤ r0 → c < d.size ∧ n1 - c < d.size ∧ c ≤ n1) := fun s r c h1 h2 h3 h4 => by
    have := H0.out; have := HN1.out; have := HMID.out; omega
  rcases h0 with ⟨hmm, hsz0, hrz0⟩ | ⟨hmm, hsz0, hrz0⟩
  all_goals
    have hs0z : (mid : Int) + m - b = s0 ∨ ¬ mid < m := by
      by_cases q : mid < m
      · exact .inl (hs0 q)
      · exact .inr q
    have hmmz : ((mid : Int) < (m : Int)) ∨ ¬ ((mid : Int) < (m : Int)) := Classical.em _
    have HQ : Hid (s0 ≤ r0 ∧ a ≤ s0 ∧ r0 ≤ m ∧ r0 ≤ mid) := ⟨hse, has0, hr0m, hr0d⟩
    have HSR : Hid ((mid < m → (mid : Int) + m - b = s0) ∧ (mid < m → r0 = mid) ∧ (¬ mid < m → s0 = a ∧ r0 = m)) := ⟨hs0, fun q => by omega, fun q => by omega⟩
    clear hs0z hs0 hsz0 hrz0 hse has0 hr0m hr0d
    go_enter Tryd.func69, Tryd.ntmps69
    go_wp2_with fail
    go_loopw [20, 21] (fun vi vj wr => ∃ (s r : Nat), vi = .int .i64 s ∧ vj = .int .i64 r ∧ Hid (s0 ≤ s ∧ s ≤ r ∧ r ≤ r0) ∧ Hid (SC w0 g d wr) ∧ Hid (s0 < s → ¬ Kl (vw d (n1 - (s - 1))) (vw d (s - 1))) ∧ Hid (r < r0 → Kl (vw d (n1 - r)) (vw d r))) (fun vi vj _ => (intOf vj).toNat - (intOf vi).toNat)
    case atStart =>
      exact ⟨s0, r0, val_int (by have := HSR.out; omega), val_int (by have := HSR.out; omega), ⟨by omega, HQ.out.1, by omega⟩, HS, fun h => by omega, fun h => by omega⟩
    case round =>
      obtain ⟨s, r, rfl, rfl, HB, HW, HI, HJ⟩ := hrel
      obtain ⟨W1, rfl⟩ : ∃ x, x = wr := ⟨_, rfl⟩
      by_cases hlt : s < r
      · have hltz : (s : Int) < (r : Int) := by omega
        have hr60 : r ≤ 60 := by have := HB.out; have := HQ.out; omega
        obtain ⟨c, hh, hh1, hh2⟩ : ∃ c : Nat, ((s : Int) + r) / 2 = c ∧ s ≤ c ∧ c < r := ⟨(s + r) / 2, by omega, by omega, by omega⟩
        have HHH : Hid _ := hh
        obtain ⟨l1c, l2c, l3c⟩ := LOOP.out s r c HB.out.1 hh1 hh2 HB.out.2.2
        obtain ⟨q, hq⟩ : ∃ q, q = n1 - c := ⟨_, rfl⟩
        have HQQ : Hid (q = n1 - c) := hq
        have hqz : (n1 : Int) - (c : Int) = (q : Int) := by omega
        have hwq : IntKind.i64.wrap (q : Int) = (q : Int) := by rw [IntKind.wrap_i64]; omega
        have hd1 : q < d.size := by omega
        have hd0 : c < d.size := l1c
        clear hh hq l1c l2c
        obtain ⟨x, hx⟩ : ∃ x, x = d[q]! := ⟨_, rfl⟩
        obtain ⟨y, hy⟩ : ∃ x, x = d[c]! := ⟨_, rfl⟩
        have l1 := fun n os => SC.cells (SWK.grown HW.out n os) HR.out HN.out (q) hd1 hx
        have l0 := fun n os => SC.cells (SWK.grown HW.out n os) HR.out HN.out (c) hd0 hy
        have l10 := fun n os => (l1 n os).1
        have l11 := fun n os => (l1 n os).2.1
        have l12 := fun n os => (l1 n os).2.2.1
        have l13 := fun n os => (l1 n os).2.2.2.1
        have l14 := fun n os => (l1 n os).2.2.2.2.1
        have l15 := fun n os => (l1 n os).2.2.2.2.2.1
        have l16 := fun n os => (l1 n os).2.2.2.2.2.2.1
        have l17 := fun n os => (l1 n os).2.2.2.2.2.2.2.1
        have l18 := fun n os => (l1 n os).2.2.2.2.2.2.2.2
        have l00 := fun n os => (l0 n os).1
        have l01 := fun n os => (l0 n os).2.1
        have l02 := fun n os => (l0 n os).2.2.1
        have l03 := fun n os => (l0 n os).2.2.2.1
        have l04 := fun n os => (l0 n os).2.2.2.2.1
        have l05 := fun n os => (l0 n os).2.2.2.2.2.1
        have l06 := fun n os => (l0 n os).2.2.2.2.2.2.1
        have l07 := fun n os => (l0 n os).2.2.2.2.2.2.2.1
        have l08 := fun n os => (l0 n os).2.2.2.2.2.2.2.2
        have hc := fun n os => SC.cmp (d0 := d0) HW.out HN.out x y n os
        have HXY : Hid (x = d[q]! ∧ y = d[c]!) := ⟨hx, hy⟩
        clear l1 l0 hx hy
        have hb1 : (q : Int) < d.size := by omega
        have hb0 : (c : Int) < d.size := by omega
        by_cases hk : cfH x y < 0
        · have hkd : decide (cfH x y < 0) = true := decide_eq_true hk
          have HJ2 : Hid (c < r0 → Kl (vw d (n1 - c)) (vw d c)) := fun _ => by
            rw [← HQQ.out]; unfold vw; rw [← HXY.out.1, ← HXY.out.2]; exact (cf_kl x y).1 hk
          go_wp2_with fail
          rw [HHH.out]
          go_quiet_grown (first | (go_at_call 42; refine Calls.grown_of (hc _ _)))
          go_wp2_with fail
          exact ⟨⟨s, c, rfl, rfl, ⟨HB.out.1, hh1, by have := HB.out; omega⟩, SWK.grown HW.out nq osq, HI, HJ2⟩, by simp [intOf]; omega⟩
        · have hkd : decide (cfH x y < 0) = false := decide_eq_false hk
          have HI2 : Hid (s0 < c + 1 → ¬ Kl (vw d (n1 - (c + 1 - 1))) (vw d (c + 1 - 1))) := fun _ => by
            rw [Nat.add_sub_cancel, ← HQQ.out]; unfold vw; rw [← HXY.out.1, ← HXY.out.2]; exact fun q => hk ((cf_kl x y).2 q)
          go_wp2_with fail
          rw [HHH.out]
          go_quiet_grown (first | (go_at_call 42; refine Calls.grown_of (hc _ _)))
          go_wp2_with fail
          exact ⟨⟨c + 1, r, by go_num, rfl, ⟨by have := HB.out; omega, by omega, HB.out.2.2⟩, SWK.grown HW.out nq osq, HI2, HJ⟩, by simp [intOf]; omega⟩
      · obtain rfl : s = r := by have := HB.out; omega
        have HC : Hid (CutAt a m b mid s (vw d)) := CutAt.of HP.out ham hmb HMID.out H0.out HB.out.1 HB.out.2.2 (by have := HI.out; rw [show mid + m - 1 - (s - 1) = n1 - (s - 1) by have := HN1.out; omega]; exact this) (by have := HJ.out; rw [show mid + m - 1 - s = n1 - s by have := HN1.out; omega]; exact this)
        obtain ⟨e, he⟩ : ∃ e, e = mid + m - s := ⟨_, rfl⟩
        have HEE : Hid (e = mid + m - s) := he
        have hcb : a ≤ s ∧ s ≤ m ∧ s ≤ mid ∧ m ≤ e ∧ e ≤ b ∧ mid ≤ e := by
          obtain ⟨k1, k2, k3, k4, k5, _⟩ := HC.out; omega
        obtain ⟨b1, b2, b3, b4, b5, b6⟩ := hcb
        have hez : (mid : Int) + m - s = e := by omega
        clear he HI HJ HB
        have HA : Hid (Mv a b (vw d) (vw d)) := Mv.refl _ _ _
        go_upto_region 39 with fail
        go_cut [185] from 178 to 185 (fun v wx => v = .bool (decide (s < m) && decide (m < e)) ∧ wx = W1)
        case first =>
          by_cases c1 : s < m
          · have c1z : (s : Int) < m := by omega
            by_cases c2 : m < e
            · have c2z : (m : Int) < e := by omega
              go_wp2_with fail
              all_goals (try go_meet)
              all_goals exact ⟨by simp [c1, c2], rfl⟩
            · have c2z : ¬ (m : Int) < e := by omega
              go_wp2_with fail
              all_goals (try go_meet)
              all_goals exact ⟨by simp [c1, c2], rfl⟩
          · have c1z : ¬ (s : Int) < m := by omega
            go_wp2_with fail
            all_goals (try go_meet)
            all_goals exact ⟨by simp [c1], rfl⟩
        obtain ⟨rfl, hwc⟩ := hcut
        subst hwc
        go_upto_if 185 with fail
        go_cut [] from 185 to 191 (fun wx => Hid (∃ d1 : Array Cm, d1.size = d.size ∧ SC w0 g d1 wx ∧ Mv a b (vw d) (vw d1) ∧ vw d1 = rotF (vw d) s m e))
        case first =>
          by_cases c1 : s < m ∧ m < e
          · rw [decide_eq_true c1.1, decide_eq_true c1.2]
            go_wp2_with fail
            refine (rotate w0 g cap d0 d s m e _ HR.out HN.out HW.out c1.1 c1.2 (by omega) hsz).mono ?_
            rintro e9 w1 ⟨rfl, d1, q1, q2, q3, q4⟩
            have HD : Hid (∃ d1 : Array Cm, d1.size = d.size ∧ SC w0 g d1 w1 ∧ Mv a b (vw d) (vw d1) ∧ vw d1 = rotF (vw d) s m e) := ⟨d1, q1, q2, q3.mono b1 b5, q4⟩
            clear q1 q2 q3 q4
            go_wp2_with fail
            go_meet
            exact HD
          · have HD : Hid (∃ d1 : Array Cm, d1.size = d.size ∧ SC w0 g d1 wc ∧ Mv a b (vw d) (vw d1) ∧ vw d1 = rotF (vw d) s m e) := ⟨d, rfl, HW.out, HA.out, (rot_none _ _ _ _ (by omega) b2 b4).symm⟩
            have hf : (decide (s < m) && decide (m < e)) = false := by simp; omega
            rw [hf]
            go_wp2_with fail
            all_goals (try go_meet)
            all_goals exact HD
        obtain ⟨d1, g1, g2, g3, g4⟩ := hcut
        have HS1 : Hid (SC w0 g d1 wc) := g2
        have HM1 : Hid (Mv a b (vw d) (vw d1)) := g3
        have HPR : Hid (Pre a s mid (vw d1) ∧ Pre mid e b (vw d1) ∧ ∀ i j, a ≤ i → i < mid → mid ≤ j → j < b → Lt (vw d1 i) (vw d1 j)) := by
          have := CutAt.rot HC.out HP.out (by omega)
          rw [← HEE.out, ← g4] at this
          exact this
        have HZ1 : Hid (d1.size = d.size) := g1
        have hz1 : d1.size = d.size := g1
        clear g1 g2 g3 g4 HC HW HA
        by_cases c1 : a < s
        · have c1z : (a : Int) < s := by omega
          by_cases c2 : s < mid
          · have c2z : (s : Int) < mid := by omega
            go_wp2_with fail
            rw [← hz1]
            refine (IH.out a s mid d1 _ (by omega) (HZ1.out.trans HN.out) HS1.out c1 c2 (by omega) (by omega) HPR.out.1).mono ?_
            rintro e9 w1 ⟨rfl, d2, q1, q2, q3, q4⟩
            have HS2 : Hid (SC w0 g d2 w1) := q2
            have HM2 : Hid (Mv a mid (vw d1) (vw d2)) := q3
            have HO2 : Hid (SoL a mid (vw d2)) := q4
            have HZ2 : Hid (d2.size = d.size) := q1.trans HZ1.out
            rw [hz1]
            clear q1 q2 q3 q4 HS1 hz1
            have HP2 : Hid (Pre mid e b (vw d2)) := HPR.out.2.1.keep b6 fun i hi => HM2.out.out (.inr hi)
            have hz2 : d2.size = d.size := HZ2.out
            by_cases k1 : mid < e
            · have k1z : (mid : Int) < e := by omega
              by_cases k2 : e < b
              · have k2z : (e : Int) < b := by omega
                go_wp2_with fail
                rw [← hz2]
                refine (IH.out mid e b d2 _ (by omega) (HZ2.out.trans HN.out) HS2.out k1 k2 (by omega) (by omega) HP2.out).mono ?_
                rintro e9 wy ⟨rfl, d3, q1, q2, q3, q4⟩
                have HD : Hid (∃ d' : Array Cm, d'.size = d.size ∧ SC w0 g d' wy ∧ Mv a b (vw d) (vw d') ∧ SoL a b (vw d')) := ⟨d3, q1.trans HZ2.out, q2, (HM1.out.trans (HM2.out.mono (Nat.le_refl _) (by omega))).trans (q3.mono hma1 (Nat.le_refl _)), SoL.join HPR.out.2.2 HM2.out HO2.out q3 q4⟩
                clear q1 q2 q3 q4
                go_wp2_with fail
                all_goals (try go_end0)
                all_goals exact ⟨rfl, HD.out⟩
              · have k2z : ¬ (e : Int) < b := by omega
                have HD : Hid (∃ d' : Array Cm, d'.size = d.size ∧ SC w0 g d' w1 ∧ Mv a b (vw d) (vw d') ∧ SoL a b (vw d')) := ⟨d2, HZ2.out, HS2.out, HM1.out.trans (HM2.out.mono (Nat.le_refl _) (by omega)), SoL.join HPR.out.2.2 HM2.out HO2.out (Mv.refl _ _ _) (HP2.out.triv (by omega) b6 b5)⟩
                go_wp2_with fail
                all_goals (try go_end0)
                all_goals exact ⟨rfl, HD.out⟩
            · have k1z : ¬ (mid : Int) < e := by omega
              have HD : Hid (∃ d' : Array Cm, d'.size = d.size ∧ SC w0 g d' w1 ∧ Mv a b (vw d) (vw d') ∧ SoL a b (vw d')) := ⟨d2, HZ2.out, HS2.out, HM1.out.trans (HM2.out.mono (Nat.le_refl _) (by omega)), SoL.join HPR.out.2.2 HM2.out HO2.out (Mv.refl _ _ _) (HP2.out.triv (by omega) b6 b5)⟩
              go_wp2_with fail
              all_goals (try go_end0)
              all_goals exact ⟨rfl, HD.out⟩
          · have c2z : ¬ (s : Int) < mid := by omega
            obtain ⟨d2, hd2⟩ : ∃ x, x = d1 := ⟨_, rfl⟩
            have HS2 : Hid (SC w0 g d2 wc) := by rw [hd2]; exact HS1.out
            have HM2 : Hid (Mv a mid (vw d1) (vw d2)) := by rw [hd2]; exact Mv.refl _ _ _
            have HO2 : Hid (SoL a mid (vw d2)) := by rw [hd2]; exact HPR.out.1.triv (by omega) b1 b3
            have HZ2 : Hid (d2.size = d.size) := by rw [hd2]; exact HZ1.out
            clear hd2 HS1 hz1
            have HP2 : Hid (Pre mid e b (vw d2)) := HPR.out.2.1.keep b6 fun i hi => HM2.out.out (.inr hi)
            have hz2 : d2.size = d.size := HZ2.out
            by_cases k1 : mid < e
            · have k1z : (mid : Int) < e := by omega
              by_cases k2 : e < b
              · have k2z : (e : Int) < b := by omega
                go_wp2_with fail
                rw [← hz2]
                refine (IH.out mid e b d2 _ (by omega) (HZ2.out.trans HN.out) HS2.out k1 k2 (by omega) (by omega) HP2.out).mono ?_
                rintro e9 wy ⟨rfl, d3, q1, q2, q3, q4⟩
                have HD : Hid (∃ d' : Array Cm, d'.size = d.size ∧ SC w0 g d' wy ∧ Mv a b (vw d) (vw d') ∧ SoL a b (vw d')) := ⟨d3, q1.trans HZ2.out, q2, (HM1.out.trans (HM2.out.mono (Nat.le_refl _) (by omega))).trans (q3.mono hma1 (Nat.le_refl _)), SoL.join HPR.out.2.2 HM2.out HO2.out q3 q4⟩
                clear q1 q2 q3 q4
                go_wp2_with fail
                all_goals (try go_end0)
                all_goals exact ⟨rfl, HD.out⟩
              · have k2z : ¬ (e : Int) < b := by omega
                have HD : Hid (∃ d' : Array Cm, d'.size = d.size ∧ SC w0 g d' wc ∧ Mv a b (vw d) (vw d') ∧ SoL a b (vw d')) := ⟨d2, HZ2.out, HS2.out, HM1.out.trans (HM2.out.mono (Nat.le_refl _) (by omega)), SoL.join HPR.out.2.2 HM2.out HO2.out (Mv.refl _ _ _) (HP2.out.triv (by omega) b6 b5)⟩
                go_wp2_with fail
                all_goals (try go_end0)
                all_goals exact ⟨rfl, HD.out⟩
            · have k1z : ¬ (mid : Int) < e := by omega
              have HD : Hid (∃ d' : Array Cm, d'.size = d.size ∧ SC w0 g d' wc ∧ Mv a b (vw d) (vw d') ∧ SoL a b (vw d')) := ⟨d2, HZ2.out, HS2.out, HM1.out.trans (HM2.out.mono (Nat.le_refl _) (by omega)), SoL.join HPR.out.2.2 HM2.out HO2.out (Mv.refl _ _ _) (HP2.out.triv (by omega) b6 b5)⟩
              go_wp2_with fail
              all_goals (try go_end0)
              all_goals exact ⟨rfl, HD.out⟩
        · have c1z : ¬ (a : Int) < s := by omega
          obtain ⟨d2, hd2⟩ : ∃ x, x = d1 := ⟨_, rfl⟩
          have HS2 : Hid (SC w0 g d2 wc) := by rw [hd2]; exact HS1.out
          have HM2 : Hid (Mv a mid (vw d1) (vw d2)) := by rw [hd2]; exact Mv.refl _ _ _
          have HO2 : Hid (SoL a mid (vw d2)) := by rw [hd2]; exact HPR.out.1.triv (by omega) b1 b3
          have HZ2 : Hid (d2.size = d.size) := by rw [hd2]; exact HZ1.out
          clear hd2 HS1 hz1
          have HP2 : Hid (Pre mid e b (vw d2)) := HPR.out.2.1.keep b6 fun i hi => HM2.out.out (.inr hi)
          have hz2 : d2.size = d.size := HZ2.out
          by_cases k1 : mid < e
          · have k1z : (mid : Int) < e := by omega
            by_cases k2 : e < b
            · have k2z : (e : Int) < b := by omega
              go_wp2_with fail
              rw [← hz2]
              refine (IH.out mid e b d2 _ (by omega) (HZ2.out.trans HN.out) HS2.out k1 k2 (by omega) (by omega) HP2.out).mono ?_
              rintro e9 wy ⟨rfl, d3, q1, q2, q3, q4⟩
              have HD : Hid (∃ d' : Array Cm, d'.size = d.size ∧ SC w0 g d' wy ∧ Mv a b (vw d) (vw d') ∧ SoL a b (vw d')) := ⟨d3, q1.trans HZ2.out, q2, (HM1.out.trans (HM2.out.mono (Nat.le_refl _) (by omega))).trans (q3.mono hma1 (Nat.le_refl _)), SoL.join HPR.out.2.2 HM2.out HO2.out q3 q4⟩
              clear q1 q2 q3 q4
              go_wp2_with fail
              all_goals (try go_end0)
              all_goals exact ⟨rfl, HD.out⟩
            · have k2z : ¬ (e : Int) < b := by omega
              have HD : Hid (∃ d' : Array Cm, d'.size = d.size ∧ SC w0 g d' wc ∧ Mv a b (vw d) (vw d') ∧ SoL a b (vw d')) := ⟨d2, HZ2.out, HS2.out, HM1.out.trans (HM2.out.mono (Nat.le_refl _) (by omega)), SoL.join HPR.out.2.2 HM2.out HO2.out (Mv.refl _ _ _) (HP2.out.triv (by omega) b6 b5)⟩
              go_wp2_with fail
              all_goals (try go_end0)
              all_goals exact ⟨rfl, HD.out⟩
          · have k1z : ¬ (mid : Int) < e := by omega
            have HD : Hid (∃ d' : Array Cm, d'.size = d.size ∧ SC w0 g d' wc ∧ Mv a b (vw d) (vw d') ∧ SoL a b (vw d')) := ⟨d2, HZ2.out, HS2.out, HM1.out.trans (HM2.out.mono (Nat.le_refl _) (by omega)), SoL.join HPR.out.2.2 HM2.out HO2.out (Mv.refl _ _ _) (HP2.out.triv (by omega) b6 b5)⟩
            go_wp2_with fail
            all_goals (try go_end0)
            all_goals exact ⟨rfl, HD.out⟩
end Go.Proofs.YtgnonbghgcpnoaaDoor
