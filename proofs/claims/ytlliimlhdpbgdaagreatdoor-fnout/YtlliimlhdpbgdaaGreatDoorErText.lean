/- The texts of codes, on both sides. -/
import Derived.Test.YtlliimlhdpbgdaaGreatDoorErWords
import Derived.Test.YtlliimlhdpbgdaaGreatDoorOuPieces
import Derived.Test.YtlliimlhdpbgdaaGreatDoorGNames
namespace Go.Proofs.YtlliimlhdpbgdaaGreatDoor.Er
open Go.ChangeShapes Go.WideShapes Go.ChangeAt Go.RowKit
open Go.Proofs.YtlliimlhdpbgdaaGreatDoor.G
set_option linter.unusedVariables false

def errT (c : Int) : ByteArray := ⟨#[123, 34, 101, 114, 114, 111, 114, 34, 58, 34]⟩ ++ wordS c ++ ⟨#[34, 125]⟩
def errV (c : Int) : Ending := if 1 ≤ c ∧ c ≤ 19 then .returned (.tuple #[.string (errT c), .int .i64 0]) else .returned (.tuple #[.string ⟨#[]⟩, .int .i64 4])
theorem word_size (c : Int) : (wordS c).size ≤ 20 := by
  by_cases h0 : c < 0
  · rw [word_neg c h0]; decide
  by_cases h1 : 20 ≤ c
  · rw [word_big c h1]; decide
  rcases twenty c (by omega) (by omega) with rfl | rfl | rfl | rfl | rfl | rfl | rfl | rfl | rfl | rfl | rfl | rfl | rfl | rfl | rfl | rfl | rfl | rfl | rfl | rfl
  all_goals decide
theorem word_some (c : Int) (h : 1 ≤ c ∧ c ≤ 19) : (wordS c).toList.isEmpty = false := by
  rw [ByteArray.toList_eq]
  rcases twenty c (by omega) (by omega) with rfl | rfl | rfl | rfl | rfl | rfl | rfl | rfl | rfl | rfl | rfl | rfl | rfl | rfl | rfl | rfl | rfl | rfl | rfl | rfl
  all_goals decide
theorem word_none (c : Int) (h : ¬ (1 ≤ c ∧ c ≤ 19)) (h0 : c ≠ 0) : (wordS c).toList.isEmpty = true := by
  rw [ByteArray.toList_eq]
  by_cases h1 : c < 0
  · rw [word_neg c h1]; rfl
  · rw [word_big c (by omega)]; rfl
set_option maxHeartbeats 1000000 in
theorem spec_err (c : Int) (w : World) : Calls Tryz.prog 33 #[.int .i64 c] w fun e w' => e = .returned (.string (errT c)) ∧ Below w.heap.size w w' := by
  have hw := word_size c
  have HF : Hid (⟨#[123, 34, 101, 114, 114, 111, 114, 34, 58, 34]⟩ ++ wordS c ++ ⟨#[34, 125]⟩ = errT c) := rfl
  have h1 : (⟨#[123, 34, 101, 114, 114, 111, 114, 34, 58, 34]⟩ : ByteArray).size = 10 := rfl
  have n1' : ¬ (9223372036854775807 < 10 + (wordS c).size) := by omega
  have n1 : ¬ (9223372036854775807 < (⟨#[123, 34, 101, 114, 114, 111, 114, 34, 58, 34]⟩ : ByteArray).size + (wordS c).size) := n1'
  have n2' : ¬ (9223372036854775807 < (⟨#[123, 34, 101, 114, 114, 111, 114, 34, 58, 34]⟩ ++ wordS c : ByteArray).size + 2) := by rw [ByteArray.size_append]; omega
  have n2 : ¬ (9223372036854775807 < (⟨#[123, 34, 101, 114, 114, 111, 114, 34, 58, 34]⟩ ++ wordS c : ByteArray).size + (⟨#[34, 125]⟩ : ByteArray).size) := n2'
  clear h1 hw
  go_enter Tryz.func33, Tryz.ntmps33
  go_wp2_with fail
  refine (spec_word c _).mono ?_
  rintro e w1 ⟨rfl, hb1⟩
  have HB : Hid _ := hb1
  clear hb1
  go_wp2_with fail
  go_ret
  exact ⟨by rw [← HF.out]; rfl, HB.out⟩
set_option maxHeartbeats 1000000 in
theorem spec_errorText (c : Int) (w : World) : Calls Tryz.prog 12 #[.int .i64 c] w fun e w' => e = errV c ∧ Below w.heap.size w w' := by
  by_cases hc : 1 ≤ c ∧ c ≤ 19
  · have HF : Hid (Ending.returned (.tuple #[.string (errT c), .int .i64 0]) = errV c) := by rw [Hid, errV, if_pos hc]
    have hi : inB c 1 19 = true := decide_eq_true hc
    clear hc
    go_enter Tryz.func12, Tryz.ntmps12
    go_wp2_with fail
    refine (spec_in _ _ _ _).mono ?_
    rw [hi]
    rintro e w1 ⟨rfl, hw⟩
    rw [hw]
    go_wp2_with fail
    refine (spec_err c _).mono ?_
    rintro e w2 ⟨rfl, hb2⟩
    have HB : Hid _ := hb2
    clear hb2
    go_wp2_with fail
    go_ret2
    exact ⟨HF.out, HB.out⟩
  · have HF : Hid (Ending.returned (.tuple #[.string ⟨#[]⟩, .int .i64 4]) = errV c) := by rw [Hid, errV, if_neg hc]
    have hi : inB c 1 19 = false := decide_eq_false hc
    clear hc
    go_enter Tryz.func12, Tryz.ntmps12
    go_wp2_with fail
    refine (spec_in _ _ _ _).mono ?_
    rw [hi]
    rintro e w1 ⟨rfl, hw⟩
    rw [hw]
    go_wp2_with fail
    go_ret2
    exact ⟨HF.out, Below.refl _ _⟩
theorem one_text (s : ByteArray) (w : World) : KeRow 0 (w.alloc (.cells #[.string s] 9)).heap.size (w.alloc (.cells #[.string s] 9)) (some ⟨w.heap.size, 0, none⟩) [s] := by
  refine .inr ⟨w.heap.size, 0, rfl, Nat.zero_le _, by simp, fun i x hx => ?_⟩
  cases i with
  | zero =>
    simp at hx; subst hx
    show rdOf _ _ (0 + 0 * 1) = _
    rw [row_rd (heap_alloc_new w (.cells #[.string s] 9 (0, 0)))]; rfl
  | succ i => simp at hx
theorem cj_one (x : ByteArray) : cj [x] = x := by
  rw [← cj_join]; apply bytes_same; simp [Lib.join_one]
theorem err_same (c : Int) : objT [pr ⟨#[101, 114, 114, 111, 114]⟩ (qd (wordS c))] = errT c := by
  unfold objT
  rw [cj_one]
  apply bytes_same
  unfold pr qd errT
  simp
set_option maxHeartbeats 1000000 in
theorem impl_errorText (c : Int) (w : World) (ht : TabH w) : Calls Tryz.prog 11 #[.int .i64 c] w fun e w' => e = errV c ∧ Below w.heap.size w w' := by
  have HT : Hid (Tab w) := ht.tab
  clear ht
  by_cases hc : 1 ≤ c ∧ c ≤ 19
  · have HF : Hid (Ending.returned (.tuple #[.string (objT [pr ⟨#[101, 114, 114, 111, 114]⟩ (qd (wordS c))]), .int .i64 0]) = errV c) := by rw [Hid, errV, if_pos hc, err_same]
    have he := word_some c hc
    have hz : (c == 0) = false := beq_eq_false_iff_ne.2 (by omega)
    have hs := word_size c
    clear hc
    go_enter Tryz.func11, Tryz.ntmps11
    go_wp2_with fail
    refine (impl_word c _ HT.out).mono ?_
    rintro e w1 ⟨rfl, hw⟩
    rw [hw]
    clear hw
    go_wp2_with fail
    refine (impl_quoted _ _ (by omega)).mono ?_
    rintro e w2 ⟨rfl, hw⟩
    rw [hw]
    clear hw
    go_wp2_with fail
    refine (impl_pair ⟨#[101, 114, 114, 111, 114]⟩ (qd (wordS c)) _ (by decide) (by rw [qd_size]; omega)).mono ?_
    rintro e w3 ⟨rfl, hw⟩
    rw [hw]
    clear hw
    have hp : (pr ⟨#[101, 114, 114, 111, 114]⟩ (qd (wordS c))).size ≤ 100 := by
      have h5 : (⟨#[101, 114, 114, 111, 114]⟩ : ByteArray).size = 5 := rfl
      rw [pr_size, qd_size, h5]; omega
    generalize pr ⟨#[101, 114, 114, 111, 114]⟩ (qd (wordS c)) = P at *
    go_wp2_with fail
    refine (impl_object _ 1 [P] _ (one_text P w) (by simp) (by simp [sumW]; omega)).mono ?_
    rintro e w4 ⟨rfl, hb4⟩
    have HB : Hid (Below w.heap.size w w4) := below_one hb4
    clear hb4
    go_wp2_with fail
    go_ret2
    exact ⟨HF.out, HB.out⟩
  · have HF : Hid (Ending.returned (.tuple #[.string ⟨#[]⟩, .int .i64 4]) = errV c) := by rw [Hid, errV, if_neg hc]
    by_cases h0 : c = 0
    · have hz : (c == 0) = true := by simp [h0]
      clear hc h0
      go_enter Tryz.func11, Tryz.ntmps11
      go_wp2_with fail
      refine (impl_word c _ HT.out).mono ?_
      rintro e w1 ⟨rfl, hw⟩
      rw [hw]
      clear hw
      go_wp2_with fail
      go_ret2
      exact ⟨HF.out, Below.refl _ _⟩
    · have hz : (c == 0) = false := beq_eq_false_iff_ne.2 h0
      have he := word_none c hc h0
      clear hc h0
      go_enter Tryz.func11, Tryz.ntmps11
      go_wp2_with fail
      refine (impl_word c _ HT.out).mono ?_
      rintro e w1 ⟨rfl, hw⟩
      rw [hw]
      clear hw
      go_wp2_with fail
      go_ret2
      exact ⟨HF.out, Below.refl _ _⟩
end Go.Proofs.YtlliimlhdpbgdaaGreatDoor.Er
