/- That the Go text of NameOK, on both sides, computes what a name is. -/
import Derived.Test.YtiehcmdhfeeomaaNames
namespace Go.Proofs.Ytiehcmdhfeeomaa
open Go.ChangeShapes Go.WideShapes Go.ChangeAt Go.RowKit
set_option linter.unusedVariables false

def restB (s : ByteArray) (pos : Nat) : Bool := if pos = 0 then letB (bt s 0) && tailB s (s.size - 1) 1 else tailB s (s.size - pos) pos
theorem rest_end (s : ByteArray) (pos : Nat) (h0 : 0 < s.size) (h : ¬ pos < s.size) : restB s pos = true := by
  unfold restB; rw [if_neg (by omega)]; exact tail_end s pos h
theorem rest_let (s : ByteArray) (pos : Nat) (h : pos < s.size) (hl : letB (s[pos].toNat : Int) = true) : restB s pos = restB s (pos + 1) := by
  unfold restB
  rw [if_neg (by omega : ¬ pos + 1 = 0)]
  by_cases h0 : pos = 0
  · subst h0; rw [if_pos rfl, bt_lt h, hl]; simp
  · rw [if_neg h0, tail_step s pos h, bt_lt h, hl]; simp
theorem rest_dig (s : ByteArray) (pos : Nat) (h : pos < s.size) (h0 : pos ≠ 0) (hl : digB (s[pos].toNat : Int) = true) : restB s pos = restB s (pos + 1) := by
  unfold restB
  rw [if_neg (by omega : ¬ pos + 1 = 0), if_neg h0, tail_step s pos h, bt_lt h, hl]; simp
theorem rest_no0 (s : ByteArray) (h : 0 < s.size) (hl : letB (s[0].toNat : Int) = false) : restB s 0 = false := by
  unfold restB; rw [if_pos rfl, bt_lt h, hl]; simp
theorem rest_no (s : ByteArray) (pos : Nat) (h : pos < s.size) (hl : letB (s[pos].toNat : Int) = false) (hd : digB (s[pos].toNat : Int) = false) : restB s pos = false := by
  unfold restB
  by_cases h0 : pos = 0
  · subst h0; rw [if_pos rfl, bt_lt h, hl]; simp
  · rw [if_neg h0, tail_step s pos h, bt_lt h, hl, hd]; simp
theorem let_high (c : Int) (h : 128 ≤ c) : letB c = false := by unfold letB; simp; omega
theorem dig_high (c : Int) (h : 128 ≤ c) : digB c = false := by unfold digB; simp; omega

set_option maxHeartbeats 1000000 in
set_option maxRecDepth 100000 in
theorem nameOK_any (s : ByteArray) (w : World) (hs : s.size ≤ maxLen) :
    Calls Try.prog 61 #[.string s] w fun e w' => e = .returned (.bool (nameB s)) ∧ (w' = w ∨ ∃ pos, w' = w.iter s pos) := by
  unfold maxLen at hs
  by_cases h1 : s.size = 0
  · have h1' : s = ByteArray.empty := by
      cases s with | mk d => simp [ByteArray.size] at h1; subst h1; rfl
    subst h1'
    go_enter Try.func61, Try.ntmps61
    go_wp2
    go_ret
    exact ⟨ret_bool (by decide), .inl rfl⟩
  have hn1 : ¬ s.toList = [] := by
    rw [ByteArray.toList_eq]; intro h; apply h1
    have : s.data.toList.length = 0 := by rw [h]; rfl
    simpa using this
  have hn2 : s.toList.isEmpty = false := by cases h : s.toList with | nil => exact absurd h hn1 | cons a l => rfl
  by_cases h2 : 40 < s.size
  · go_enter Try.func61, Try.ntmps61
    go_wp2
    go_ret
    exact ⟨ret_bool (by simp [nameB]; omega), .inl rfl⟩
  have HN : Hid (nameB s = restB s 0) := by
    have e1 : decide (1 ≤ s.size) = true := by simp; omega
    have e2 : decide (s.size ≤ 40) = true := by simp; omega
    unfold Hid nameB restB; rw [e1, e2, if_pos rfl]; simp
  go_enter Try.func61, Try.ntmps61
  go_wp2
  clear hn1 hn2
  go_loopw [] (fun w' => ∃ pos : Nat, w' = w.iter s pos ∧ pos ≤ s.size ∧ Hid (nameB s = restB s pos)) (fun w' => s.size - w'.iterPos w.heap.size)
  case atStart => exact ⟨0, rfl, by omega, HN⟩
  case round =>
    obtain ⟨pos, rfl, hk, HK⟩ := hrel
    by_cases hp : pos < s.size
    · by_cases ha : s[pos].toNat < 128
      · have hnx : ∀ ty, (Instr.next (.pointer (some ⟨w.heap.size, 0, none⟩)) true ty).run Try.prog (w.iter s pos) = _ := fun ty => run_next_ascii w s pos ty hp ha
        cases hL : letB (s[pos].toNat : Int)
        · by_cases h0 : pos = 0
          · subst h0
            have HF : Hid (false = nameB s) := by rw [Hid, HK.out, rest_no0 s hp hL]
            go_wp2_with (first | (go_at_call 78; refine (isLetter_any _ _).mono ?_; rintro e w1 ⟨rfl, rfl⟩) | (go_at_call 79; refine (isDigit_any _ _).mono ?_; rintro e w1 ⟨rfl, rfl⟩))
            go_ret
            exact ⟨ret_bool HF.out, .inr ⟨_, rfl⟩⟩
          · have h0' : ((pos : Int) == 0) = false := by rw [beq_eq_false_iff_ne]; omega
            cases hD : digB (s[pos].toNat : Int)
            · have HF : Hid (false = nameB s) := by rw [Hid, HK.out, rest_no s pos hp hL hD]
              go_wp2_with (first | (go_at_call 78; refine (isLetter_any _ _).mono ?_; rintro e w1 ⟨rfl, rfl⟩) | (go_at_call 79; refine (isDigit_any _ _).mono ?_; rintro e w1 ⟨rfl, rfl⟩))
              go_ret
              exact ⟨ret_bool HF.out, .inr ⟨_, rfl⟩⟩
            · have HF : Hid (nameB s = restB s (pos + 1)) := by rw [Hid, HK.out, rest_dig s pos hp h0 hD]
              go_wp2_with (first | (go_at_call 78; refine (isLetter_any _ _).mono ?_; rintro e w1 ⟨rfl, rfl⟩) | (go_at_call 79; refine (isDigit_any _ _).mono ?_; rintro e w1 ⟨rfl, rfl⟩))
              go_roundw
              case rel => exact ⟨pos + 1, rfl, by omega, HF⟩
              case measure => simp; omega
        · have HF : Hid (nameB s = restB s (pos + 1)) := by rw [Hid, HK.out, rest_let s pos hp hL]
          go_wp2_with (first | (go_at_call 78; refine (isLetter_any _ _).mono ?_; rintro e w1 ⟨rfl, rfl⟩) | (go_at_call 79; refine (isDigit_any _ _).mono ?_; rintro e w1 ⟨rfl, rfl⟩))
          go_roundw
          case rel => exact ⟨pos + 1, rfl, by omega, HF⟩
          case measure => simp; omega
      · have hd := decode_high s pos hp (by omega)
        have hnx : ∀ ty, (Instr.next (.pointer (some ⟨w.heap.size, 0, none⟩)) true ty).run Try.prog (w.iter s pos) = _ := fun ty => run_next_any w s pos ty hp
        have HF : Hid (false = nameB s) := by
          rw [Hid, HK.out, rest_no s pos hp (let_high _ (by omega)) (dig_high _ (by omega))]
        generalize (Utf8.decode s pos).1 = r at *
        generalize (Utf8.decode s pos).2 = n at *
        have hL := let_high r (by omega)
        have hD := dig_high r (by omega)
        clear hd
        by_cases h0 : pos = 0
        · subst h0
          go_wp2_with (first | (go_at_call 78; refine (isLetter_any _ _).mono ?_; rintro e w1 ⟨rfl, rfl⟩) | (go_at_call 79; refine (isDigit_any _ _).mono ?_; rintro e w1 ⟨rfl, rfl⟩))
          go_ret
          exact ⟨ret_bool HF.out, .inr ⟨_, rfl⟩⟩
        · have h0' : ((pos : Int) == 0) = false := by rw [beq_eq_false_iff_ne]; omega
          go_wp2_with (first | (go_at_call 78; refine (isLetter_any _ _).mono ?_; rintro e w1 ⟨rfl, rfl⟩) | (go_at_call 79; refine (isDigit_any _ _).mono ?_; rintro e w1 ⟨rfl, rfl⟩))
          go_ret
          exact ⟨ret_bool HF.out, .inr ⟨_, rfl⟩⟩
    · have hnx : ∀ ty, (Instr.next (.pointer (some ⟨w.heap.size, 0, none⟩)) true ty).run Try.prog (w.iter s pos) = _ := fun ty => run_next_end w s pos ty hp
      have HF : Hid (true = nameB s) := by rw [Hid, HK.out, rest_end s pos (by omega) hp]
      go_wp2_with (first | (go_at_call 78; refine (isLetter_any _ _).mono ?_; rintro e w1 ⟨rfl, rfl⟩) | (go_at_call 79; refine (isDigit_any _ _).mono ?_; rintro e w1 ⟨rfl, rfl⟩))
      go_ret
      exact ⟨ret_bool HF.out, .inr ⟨_, rfl⟩⟩
end Go.Proofs.Ytiehcmdhfeeomaa
