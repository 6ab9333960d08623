/- The library's stable sort, at most 60 of those that are committed. -/
import Derived.Test.YtgnonbghgcpnoaaDoorWiMrg
namespace Go.Proofs.YtgnonbghgcpnoaaDoor
open Go.ChangeShapes Go.WideShapes Go.ChangeAt Go.RowKit
open Go.Shelf Go.Lib Go.Sort
set_option linter.unusedVariables false

def Run (bs n : Nat) (h : Nat → Cm) : Prop := ∀ i j, i < j → j < n → i / bs = j / bs → Lt (h i) (h j)
def Blk (bs n : Nat) (f h : Nat → Cm) : Prop := ∀ i, i < n → ∃ i0, i0 < n ∧ i0 / bs = i / bs ∧ h i = f i0
theorem Blk.mv {bs n a b : Nat} {f g h : Nat → Cm} (H : Blk bs n f g) (M : Mv a b g h) (hb : b ≤ n) (hab : ∀ i, a ≤ i → i < b → i / bs = a / bs) : Blk bs n f h := fun i hi => by
  by_cases c : a ≤ i ∧ i < b
  · obtain ⟨j, e1, e2, e3⟩ := M.mem c.1 c.2
    obtain ⟨i0, g1, g2, g3⟩ := H j (by omega)
    exact ⟨i0, g1, by rw [g2, hab j e1 e2, hab i c.1 c.2], by rw [e3, g3]⟩
  · obtain ⟨i0, g1, g2, g3⟩ := H i hi
    exact ⟨i0, g1, g2, by rw [M.out (by omega), g3]⟩
theorem Blk.up {bs bs' n : Nat} {f h : Nat → Cm} (H : Blk bs n f h) (hd : ∀ i j : Nat, i / bs = j / bs → i / bs' = j / bs') : Blk bs' n f h := fun i hi => by
  obtain ⟨i0, g1, g2, g3⟩ := H i hi
  exact ⟨i0, g1, hd _ _ g2, g3⟩
theorem Blk.place {bs n : Nat} {f h : Nat → Cm} (H : Blk bs n f h) (hp : PlA 0 n f) {i j : Nat} (hi : i < n) (hj : j < n) (hij : i / bs < j / bs) : (h i).p < (h j).p := by
  obtain ⟨i0, a1, a2, a3⟩ := H i hi
  obtain ⟨j0, b1, b2, b3⟩ := H j hj
  rw [a3, b3]
  refine hp i0 j0 (Nat.zero_le _) ?_ b1
  refine Nat.lt_of_not_le fun hle => ?_
  have := Nat.div_le_div_right (c := bs) hle
  omega
theorem Blk.refl (bs n : Nat) (f : Nat → Cm) : Blk bs n f f := fun i hi => ⟨i, hi, rfl, rfl⟩
set_option maxHeartbeats 16000000 in
set_option maxRecDepth 100000 in
theorem stable (w0 : World) (g cap : Nat) (d0 d : Array Cm) (W : World) (R : RC w0 g d0) (hs : d.size = d0.size) (S : SC w0 g d W) (hsz : d.size ≤ 60) (hp : PlA 0 d.size (vw d)) :
    Calls Tryd.prog 61 #[.slice (some ⟨g, 0, none⟩) d.size cap, .int .i64 d.size, .func (.func 42) #[] #[]] W fun e w' => e = .returned (.tuple #[]) ∧ ∃ d' : Array Cm, d'.size = d.size ∧ SC w0 g d' w' ∧ Mv 0 d.size (vw d) (vw d') ∧ SoL 0 d.size (vw d') := by
  have HS : Hid (SC w0 g d W) := S
  have HR : Hid (RC w0 g d0) := R
  have HN : Hid (d.size = d0.size) := hs
  have HP : Hid (PlA 0 d.size (vw d)) := hp
  clear S R hs hp
  go_enter Tryd.func61, Tryd.ntmps61
  go_wp2_with fail
  go_loopw [7, 8] (fun va vb wr => ∃ (t ta tb : Nat) (dk : Array Cm), va = .int .i64 ta ∧ vb = .int .i64 tb ∧ Hid (ta = 20 * t ∧ tb = 20 * t + 20 ∧ 20 * t ≤ d.size) ∧ Hid (dk.size = d.size) ∧ Hid (SC w0 g dk wr) ∧ Hid (Mv 0 (20 * t) (vw d) (vw dk)) ∧ Hid (Run 20 (20 * t) (vw dk)) ∧ Hid (Blk 20 d.size (vw d) (vw dk))) (fun va _ _ => 61 - (intOf va).toNat)
  case atStart => exact ⟨0, 0, 20, d, rfl, rfl, ⟨rfl, rfl, by omega⟩, rfl, HS, Mv.refl _ _ _, fun i j h1 h2 => by omega, Blk.refl _ _ _⟩
  case round =>
    obtain ⟨t, ta, tb, dk, rfl, rfl, HTT, HSZ, HW, HM, HRN, HBK⟩ := hrel
    have ht : 20 * t ≤ d.size := HTT.out.2.2
    have hta : ta = 20 * t := HTT.out.1
    have htb : tb = 20 * t + 20 := HTT.out.2.1
    obtain ⟨W1, rfl⟩ : ∃ x, x = wr := ⟨_, rfl⟩
    have hsk : dk.size = d.size := HSZ.out
    have HPL : Hid (∀ b, b ≤ d.size → PlA (20 * t) b (vw dk)) := fun b hb i j e1 e2 e3 => by
      rw [HM.out.out (.inr e1), HM.out.out (.inr (by omega))]; exact HP.out i j (Nat.zero_le _) e2 (by omega)
    by_cases hb2 : 20 * t + 20 ≤ d.size
    · have hbz : (tb : Int) ≤ (d.size : Int) := by omega
      have HT : Hid (ta = 20 * t ∧ tb = 20 * t + 20) := ⟨hta, htb⟩
      have htb60 : tb ≤ 60 := by omega
      have HNX : Hid ((tb : Int) + 20 = ((20 * (t + 1) + 20 : Nat) : Int) ∧ (tb : Int) = ((20 * (t + 1) : Nat) : Int)) := by unfold Hid; omega
      clear hta htb
      go_wp2_with fail
      rw [← hsk]
      refine (ins_sort w0 g cap d0 dk ta tb _ HR.out (HSZ.out.trans HN.out) HW.out (by have := HT.out; omega) (by omega) (by omega) (by have := HPL.out tb (by omega); rw [← HT.out.1] at this; exact this)).mono ?_
      rintro e9 w1 ⟨rfl, d2, q1, q2, q3, q4⟩
      have HD : Hid (d2.size = d.size ∧ SC w0 g d2 w1 ∧ Mv 0 (20 * (t + 1)) (vw d) (vw d2) ∧ Run 20 (20 * (t + 1)) (vw d2) ∧ Blk 20 d.size (vw d) (vw d2)) := by
        obtain ⟨t1, t2⟩ := HT.out
        refine ⟨q1.trans HSZ.out, q2, (HM.out.mono (Nat.le_refl _) (by omega)).trans (q3.mono (Nat.zero_le _) (by omega)), fun i j e1 e2 e3 => ?_, HBK.out.mv q3 (by omega) (fun i e1 e2 => by omega)⟩
        by_cases c : j < 20 * t
        · rw [q3.out (.inl (by omega)), q3.out (.inl (by omega))]; exact HRN.out i j e1 c e3
        · exact q4 i j (by omega) e1 (by omega)
      clear q1 q2 q3 q4
      go_wp2_with fail
      refine ⟨⟨t + 1, 20 * (t + 1), 20 * (t + 1) + 20, d2, ?_, ?_, ⟨rfl, rfl, by have := HT.out; omega⟩, HD.out.1, HD.out.2.1, HD.out.2.2.1, HD.out.2.2.2.1, HD.out.2.2.2.2⟩, by have := HT.out; simp [intOf]; omega⟩
      · exact val_int HNX.out.2
      · exact val_int HNX.out.1
    have hbz : ¬ (tb : Int) ≤ (d.size : Int) := by omega
    have HT : Hid (ta = 20 * t ∧ tb = 20 * t + 20) := ⟨hta, htb⟩
    have hta60 : ta ≤ 60 := by omega
    clear hta htb
    go_wp2_with fail
    rw [← hsk]
    refine (ins_sort w0 g cap d0 dk ta dk.size _ HR.out (HSZ.out.trans HN.out) HW.out (by have := HT.out; omega) (by omega) (by omega) (by have := HPL.out dk.size (by omega); rw [← HT.out.1] at this; exact this)).mono ?_
    rintro e9 w1 ⟨rfl, d2, q1, q2, q3, q4⟩
    have HD : Hid (d2.size = d.size ∧ SC w0 g d2 w1 ∧ Mv 0 d.size (vw d) (vw d2) ∧ Run 20 d.size (vw d2) ∧ Blk 20 d.size (vw d) (vw d2)) := by
      obtain ⟨t1, t2⟩ := HT.out
      refine ⟨q1.trans HSZ.out, q2, (HM.out.mono (Nat.le_refl _) ht).trans (q3.mono (Nat.zero_le _) (by omega)), fun i j e1 e2 e3 => ?_, HBK.out.mv q3 (by omega) (fun i e1 e2 => by omega)⟩
      by_cases c : j < 20 * t
      · rw [q3.out (.inl (by omega)), q3.out (.inl (by omega))]; exact HRN.out i j e1 c e3
      · exact q4 i j (by omega) e1 (by omega)
    clear q1 q2 q3 q4 HSZ HW HM HRN HBK HPL HT HTT hbz ht hb2 hta60
    rw [hsk]
    clear hsk
    go_wp2_with fail
    go_loopw [6] (fun vb wr => ∃ (bs : Nat) (dk : Array Cm), vb = .int .i64 bs ∧ (bs = 20 ∨ bs = 40 ∨ bs = 80) ∧ Hid (dk.size = d.size) ∧ Hid (SC w0 g dk wr) ∧ Hid (Mv 0 d.size (vw d) (vw dk)) ∧ Hid (Run bs d.size (vw dk)) ∧ Hid (Blk bs d.size (vw d) (vw dk))) (fun vb _ => 81 - (intOf vb).toNat)
    case atStart => exact ⟨20, d2, rfl, .inl rfl, HD.out.1, HD.out.2.1, HD.out.2.2.1, HD.out.2.2.2.1, HD.out.2.2.2.2⟩
    case round =>
      clear HD
      obtain ⟨bs, dk, rfl, hbs, HSZ, HW, HM, HRN, HBK⟩ := hrel
      obtain ⟨W1, rfl⟩ : ∃ x, x = wr := ⟨_, rfl⟩
      by_cases hlt : bs < d.size
      case neg =>
        have hltz : ¬ (bs : Int) < (d.size : Int) := by omega
        have HE : Hid (SoL 0 d.size (vw dk)) := fun i j e1 e2 e3 => HRN.out i j e2 e3 (by rcases hbs with rfl | rfl | rfl <;> omega)
        clear hbs
        go_wp2_with fail
        go_end0
        exact ⟨rfl, dk, HSZ.out, HW.out, HM.out, HE.out⟩
      rcases hbs with hbs | hbs | hbs
      · have hbn : bs = 20 := hbs
        subst hbn
        have hltz : ((20 : Nat) : Int) < (d.size : Int) := by omega
        have hltz' : (20 : Int) < (d.size : Int) := by omega
        obtain ⟨HR0, HB0⟩ : Hid (Run 20 d.size (vw dk)) ∧ Hid (Blk 20 d.size (vw d) (vw dk)) := ⟨HRN, HBK⟩
        go_wp2_with fail
        go_loopw [7, 8] (fun va vb wr2 => ∃ (t ta tb : Nat) (dj : Array Cm), va = .int .i64 ta ∧ vb = .int .i64 tb ∧ Hid (ta = 40 * t ∧ tb = 40 * t + 40 ∧ 40 * t ≤ d.size) ∧ Hid (dj.size = d.size) ∧ Hid (SC w0 g dj wr2) ∧ Hid (Mv 0 (40 * t) (vw dk) (vw dj)) ∧ Hid (Run 40 (40 * t) (vw dj)) ∧ Hid (Blk 40 d.size (vw d) (vw dj))) (fun va _ _ => 61 - (intOf va).toNat)
        case atStart => exact ⟨0, 0, 40, dk, rfl, rfl, ⟨rfl, rfl, by omega⟩, HSZ, HW, Mv.refl _ _ _, fun i j h1 h2 => by omega, HB0.out.up (fun i j h => by omega)⟩
        case round =>
          obtain ⟨t, ta, tb, dj, rfl, rfl, HTT, HSJ, HWJ, HMJ, HRJ, HBJ⟩ := hrel
          have ht : 40 * t ≤ d.size := HTT.out.2.2
          have hta : ta = 40 * t := HTT.out.1
          have htb : tb = 40 * t + 40 := HTT.out.2.1
          obtain ⟨W2, rfl⟩ : ∃ x, x = wr := ⟨_, rfl⟩
          have hsj : dj.size = d.size := HSJ.out
          have HSAME : Hid (∀ i, 40 * t ≤ i → vw dj i = vw dk i) := fun i hi => HMJ.out.out (.inr hi)
          have HPRE : Hid (∀ b, 40 * t + 20 ≤ b → b ≤ 40 * t + 40 → b ≤ d.size → Pre (40 * t) (40 * t + 20) b (vw dj)) := fun b q1 q2 q3 => by
            refine ⟨fun i j e1 e2 e3 => ?_, fun i j e1 e2 e3 => ?_, fun i j e1 e2 e3 e4 => ?_⟩
            · rw [HSAME.out i e1, HSAME.out j (by omega)]; exact HR0.out i j e2 (by omega) (by omega)
            · rw [HSAME.out i (by omega), HSAME.out j (by omega)]; exact HR0.out i j e2 (by omega) (by omega)
            · rw [HSAME.out i e1, HSAME.out j (by omega)]; exact HB0.out.place HP.out (by omega) (by omega) (by omega)
          by_cases hb2 : 40 * t + 40 ≤ d.size
          · have hbz : (tb : Int) ≤ (d.size : Int) := by omega
            obtain ⟨tm, htm⟩ : ∃ u, u = 40 * t + 20 := ⟨_, rfl⟩
            have hmz : (ta : Int) + 20 = (tm : Int) := by omega
            have HT : Hid (ta = 40 * t ∧ tb = 40 * t + 40 ∧ tm = 40 * t + 20) := ⟨hta, htb, htm⟩
            have htb60 : tb ≤ 60 := by omega
            have htm60 : tm ≤ 60 := by omega
            have HPB : Hid (Pre ta tm tb (vw dj)) := by rw [hta, htm]; exact HPRE.out tb (by omega) (by omega) (by omega)
            have HNX : Hid ((tb : Int) + 40 = ((40 * (t + 1) + 40 : Nat) : Int) ∧ (tb : Int) = ((40 * (t + 1) : Nat) : Int)) := by unfold Hid; omega
            clear hta htb htm
            go_wp2_with fail
            rw [← hsj]
            refine (sym_merge w0 g cap d0 HR.out 1000 ta tm tb dj _ (by omega) (HSJ.out.trans HN.out) HWJ.out (by have := HT.out; omega) (by have := HT.out; omega) (by omega) (by omega) HPB.out).mono ?_
            rintro e9 w1 ⟨rfl, d2, q1, q2, q3, q4⟩
            have HD : Hid (d2.size = d.size ∧ SC w0 g d2 w1 ∧ Mv 0 (40 * (t + 1)) (vw dk) (vw d2) ∧ Run 40 (40 * (t + 1)) (vw d2) ∧ Blk 40 d.size (vw d) (vw d2)) := by
              obtain ⟨t1, t2, t3⟩ := HT.out
              refine ⟨q1.trans HSJ.out, q2, (HMJ.out.mono (Nat.le_refl _) (by omega)).trans (q3.mono (by omega) (by omega)), fun i j e1 e2 e3 => ?_, HBJ.out.mv q3 (by omega) (fun i e1 e2 => by omega)⟩
              by_cases c : j < 40 * t
              · rw [q3.out (.inl (by omega)), q3.out (.inl (by omega))]; exact HRJ.out i j e1 c e3
              · exact q4 i j (by omega) e1 (by omega)
            clear q1 q2 q3 q4
            go_wp2_with fail
            refine ⟨⟨t + 1, 40 * (t + 1), 40 * (t + 1) + 40, d2, ?_, ?_, ⟨rfl, rfl, by have := HT.out; omega⟩, HD.out.1, HD.out.2.1, HD.out.2.2.1, HD.out.2.2.2.1, HD.out.2.2.2.2⟩, by have := HT.out; simp [intOf]; omega⟩
            · exact val_int HNX.out.2
            · exact val_int HNX.out.1
          · have hbz : ¬ (tb : Int) ≤ (d.size : Int) := by omega
            obtain ⟨tm, htm⟩ : ∃ u, u = 40 * t + 20 := ⟨_, rfl⟩
            have hmz : (ta : Int) + 20 = (tm : Int) := by omega
            have HT : Hid (ta = 40 * t ∧ tb = 40 * t + 40 ∧ tm = 40 * t + 20) := ⟨hta, htb, htm⟩
            have hta60 : ta ≤ 60 := by omega
            have htm60 : tm ≤ 100 := by omega
            clear hta htb htm
            by_cases hm2 : tm < d.size
            · have hm2z : (tm : Int) < (d.size : Int) := by omega
              have HPB : Hid (Pre ta tm dj.size (vw dj)) := by obtain ⟨t1, t2, t3⟩ := HT.out; rw [t1, t3]; exact HPRE.out dj.size (by omega) (by omega) (by omega)
              go_wp2_with fail
              rw [← hsj]
              refine (sym_merge w0 g cap d0 HR.out 1000 ta tm dj.size dj _ (by omega) (HSJ.out.trans HN.out) HWJ.out (by have := HT.out; omega) (by omega) (by omega) (by omega) HPB.out).mono ?_
              rintro e9 w1 ⟨rfl, d2, q1, q2, q3, q4⟩
              have HD : Hid (d2.size = d.size ∧ SC w0 g d2 w1 ∧ Mv 0 d.size (vw d) (vw d2) ∧ Run 40 d.size (vw d2) ∧ Blk 40 d.size (vw d) (vw d2)) := by
                obtain ⟨t1, t2, t3⟩ := HT.out
                refine ⟨q1.trans HSJ.out, q2, HM.out.trans ((HMJ.out.mono (Nat.le_refl _) ht).trans (q3.mono (Nat.zero_le _) (by omega))), fun i j e1 e2 e3 => ?_, HBJ.out.mv q3 (by omega) (fun i e1 e2 => by omega)⟩
                by_cases c : j < 40 * t
                · rw [q3.out (.inl (by omega)), q3.out (.inl (by omega))]; exact HRJ.out i j e1 c e3
                · exact q4 i j (by omega) e1 (by omega)
              clear q1 q2 q3 q4
              go_wp2_with fail
              exact ⟨⟨40, d2, rfl, by omega, HD.out.1, HD.out.2.1, HD.out.2.2.1, HD.out.2.2.2.1, HD.out.2.2.2.2⟩, by simp [intOf]⟩
            · have hm2z : ¬ (tm : Int) < (d.size : Int) := by omega
              have HD : Hid (Mv 0 d.size (vw d) (vw dj) ∧ Run 40 d.size (vw dj)) := by
                obtain ⟨t1, t2, t3⟩ := HT.out
                refine ⟨HM.out.trans (HMJ.out.mono (Nat.le_refl _) ht), fun i j e1 e2 e3 => ?_⟩
                by_cases c : j < 40 * t
                · exact HRJ.out i j e1 c e3
                · rw [HSAME.out i (by omega), HSAME.out j (by omega)]; exact HR0.out i j e1 e2 (by omega)
              go_wp2_with fail
              exact ⟨⟨40, dj, rfl, by omega, HSJ, HWJ, HD.out.1, HD.out.2, HBJ⟩, by simp [intOf]⟩
      · have hbn : bs = 40 := hbs
        subst hbn
        have hltz : ((40 : Nat) : Int) < (d.size : Int) := by omega
        have hltz' : (40 : Int) < (d.size : Int) := by omega
        obtain ⟨HR0, HB0⟩ : Hid (Run 40 d.size (vw dk)) ∧ Hid (Blk 40 d.size (vw d) (vw dk)) := ⟨HRN, HBK⟩
        go_wp2_with fail
        go_loopw [7, 8] (fun va vb wr2 => ∃ (t ta tb : Nat) (dj : Array Cm), va = .int .i64 ta ∧ vb = .int .i64 tb ∧ Hid (ta = 80 * t ∧ tb = 80 * t + 80 ∧ 80 * t ≤ d.size) ∧ Hid (dj.size = d.size) ∧ Hid (SC w0 g dj wr2) ∧ Hid (Mv 0 (80 * t) (vw dk) (vw dj)) ∧ Hid (Run 80 (80 * t) (vw dj)) ∧ Hid (Blk 80 d.size (vw d) (vw dj))) (fun va _ _ => 61 - (intOf va).toNat)
        case atStart => exact ⟨0, 0, 80, dk, rfl, rfl, ⟨rfl, rfl, by omega⟩, HSZ, HW, Mv.refl _ _ _, fun i j h1 h2 => by omega, HB0.out.up (fun i j h => by omega)⟩
        case round =>
          obtain ⟨t, ta, tb, dj, rfl, rfl, HTT, HSJ, HWJ, HMJ, HRJ, HBJ⟩ := hrel
          have ht : 80 * t ≤ d.size := HTT.out.2.2
          have hta : ta = 80 * t := HTT.out.1
          have htb : tb = 80 * t + 80 := HTT.out.2.1
          obtain ⟨W2, rfl⟩ : ∃ x, x = wr := ⟨_, rfl⟩
          have hsj : dj.size = d.size := HSJ.out
          have HSAME : Hid (∀ i, 80 * t ≤ i → vw dj i = vw dk i) := fun i hi => HMJ.out.out (.inr hi)
          have HPRE : Hid (∀ b, 80 * t + 40 ≤ b → b ≤ 80 * t + 80 → b ≤ d.size → Pre (80 * t) (80 * t + 40) b (vw dj)) := fun b q1 q2 q3 => by
            refine ⟨fun i j e1 e2 e3 => ?_, fun i j e1 e2 e3 => ?_, fun i j e1 e2 e3 e4 => ?_⟩
            · rw [HSAME.out i e1, HSAME.out j (by omega)]; exact HR0.out i j e2 (by omega) (by omega)
            · rw [HSAME.out i (by omega), HSAME.out j (by omega)]; exact HR0.out i j e2 (by omega) (by omega)
            · rw [HSAME.out i e1, HSAME.out j (by omega)]; exact HB0.out.place HP.out (by omega) (by omega) (by omega)
          by_cases hb2 : 80 * t + 80 ≤ d.size
          · have hbz : (tb : Int) ≤ (d.size : Int) := by omega
            obtain ⟨tm, htm⟩ : ∃ u, u = 80 * t + 40 := ⟨_, rfl⟩
            have hmz : (ta : Int) + 40 = (tm : Int) := by omega
            have HT : Hid (ta = 80 * t ∧ tb = 80 * t + 80 ∧ tm = 80 * t + 40) := ⟨hta, htb, htm⟩
            have htb60 : tb ≤ 60 := by omega
            have htm60 : tm ≤ 60 := by omega
            have HPB : Hid (Pre ta tm tb (vw dj)) := by rw [hta, htm]; exact HPRE.out tb (by omega) (by omega) (by omega)
            have HNX : Hid ((tb : Int) + 80 = ((80 * (t + 1) + 80 : Nat) : Int) ∧ (tb : Int) = ((80 * (t + 1) : Nat) : Int)) := by unfold Hid; omega
            clear hta htb htm
            go_wp2_with fail
            rw [← hsj]
            refine (sym_merge w0 g cap d0 HR.out 1000 ta tm tb dj _ (by omega) (HSJ.out.trans HN.out) HWJ.out (by have := HT.out; omega) (by have := HT.out; omega) (by omega) (by omega) HPB.out).mono ?_
            rintro e9 w1 ⟨rfl, d2, q1, q2, q3, q4⟩
            have HD : Hid (d2.size = d.size ∧ SC w0 g d2 w1 ∧ Mv 0 (80 * (t + 1)) (vw dk) (vw d2) ∧ Run 80 (80 * (t + 1)) (vw d2) ∧ Blk 80 d.size (vw d) (vw d2)) := by
              obtain ⟨t1, t2, t3⟩ := HT.out
              refine ⟨q1.trans HSJ.out, q2, (HMJ.out.mono (Nat.le_refl _) (by omega)).trans (q3.mono (by omega) (by omega)), fun i j e1 e2 e3 => ?_, HBJ.out.mv q3 (by omega) (fun i e1 e2 => by omega)⟩
              by_cases c : j < 80 * t
              · rw [q3.out (.inl (by omega)), q3.out (.inl (by omega))]; exact HRJ.out i j e1 c e3
              · exact q4 i j (by omega) e1 (by omega)
            clear q1 q2 q3 q4
            go_wp2_with fail
            refine ⟨⟨t + 1, 80 * (t + 1), 80 * (t + 1) + 80, d2, ?_, ?_, ⟨rfl, rfl, by have := HT.out; omega⟩, HD.out.1, HD.out.2.1, HD.out.2.2.1, HD.out.2.2.2.1, HD.out.2.2.2.2⟩, by have := HT.out; simp [intOf]; omega⟩
            · exact val_int HNX.out.2
            · exact val_int HNX.out.1
          · have hbz : ¬ (tb : Int) ≤ (d.size : Int) := by omega
            obtain ⟨tm, htm⟩ : ∃ u, u = 80 * t + 40 := ⟨_, rfl⟩
            have hmz : (ta : Int) + 40 = (tm : Int) := by omega
            have HT : Hid (ta = 80 * t ∧ tb = 80 * t + 80 ∧ tm = 80 * t + 40) := ⟨hta, htb, htm⟩
            have hta60 : ta ≤ 60 := by omega
            have htm60 : tm ≤ 100 := by omega
            clear hta htb htm
            by_cases hm2 : tm < d.size
            · have hm2z : (tm : Int) < (d.size : Int) := by omega
              have HPB : Hid (Pre ta tm dj.size (vw dj)) := by obtain ⟨t1, t2, t3⟩ := HT.out; rw [t1, t3]; exact HPRE.out dj.size (by omega) (by omega) (by omega)
              go_wp2_with fail
              rw [← hsj]
              refine (sym_merge w0 g cap d0 HR.out 1000 ta tm dj.size dj _ (by omega) (HSJ.out.trans HN.out) HWJ.out (by have := HT.out; omega) (by omega) (by omega) (by omega) HPB.out).mono ?_
              rintro e9 w1 ⟨rfl, d2, q1, q2, q3, q4⟩
              have HD : Hid (d2.size = d.size ∧ SC w0 g d2 w1 ∧ Mv 0 d.size (vw d) (vw d2) ∧ Run 80 d.size (vw d2) ∧ Blk 80 d.size (vw d) (vw d2)) := by
                obtain ⟨t1, t2, t3⟩ := HT.out
                refine ⟨q1.trans HSJ.out, q2, HM.out.trans ((HMJ.out.mono (Nat.le_refl _) ht).trans (q3.mono (Nat.zero_le _) (by omega))), fun i j e1 e2 e3 => ?_, HBJ.out.mv q3 (by omega) (fun i e1 e2 => by omega)⟩
                by_cases c : j < 80 * t
                · rw [q3.out (.inl (by omega)), q3.out (.inl (by omega))]; exact HRJ.out i j e1 c e3
                · exact q4 i j (by omega) e1 (by omega)
              clear q1 q2 q3 q4
              go_wp2_with fail
              exact ⟨⟨80, d2, rfl, by omega, HD.out.1, HD.out.2.1, HD.out.2.2.1, HD.out.2.2.2.1, HD.out.2.2.2.2⟩, by simp [intOf]⟩
            · have hm2z : ¬ (tm : Int) < (d.size : Int) := by omega
              have HD : Hid (Mv 0 d.size (vw d) (vw dj) ∧ Run 80 d.size (vw dj)) := by
                obtain ⟨t1, t2, t3⟩ := HT.out
                refine ⟨HM.out.trans (HMJ.out.mono (Nat.le_refl _) ht), fun i j e1 e2 e3 => ?_⟩
                by_cases c : j < 80 * t
                · exact HRJ.out i j e1 c e3
                · rw [HSAME.out i (by omega), HSAME.out j (by omega)]; exact HR0.out i j e1 e2 (by omega)
              go_wp2_with fail
              exact ⟨⟨80, dj, rfl, by omega, HSJ, HWJ, HD.out.1, HD.out.2, HBJ⟩, by simp [intOf]⟩
      · omega
end Go.Proofs.YtgnonbghgcpnoaaDoor
