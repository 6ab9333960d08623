/- What is a token, and that the Go texts compute it. -/
import Derived.Test.YtjbogjoadcikhaaDoorNameOK
namespace Go.Proofs.YtjbogjoadcikhaaDoor
open Go.ChangeShapes Go.WideShapes Go.ChangeAt Go.RowKit
set_option linter.unusedVariables false

def punctB (l : List UInt8) : Bool := l == [123] || l == [125] || l == [40] || l == [41] || l == [91] || l == [93] || l == [58] || l == [33] || l == [64] || l == [46, 46, 46]

set_option maxHeartbeats 1000000 in
theorem spec_punct (s : ByteArray) (w : World) : Calls Tryd.prog 32 #[.string s] w fun e w' => e = .returned (.bool (punctB s.toList)) ∧ w' = w := by
  go_enter Tryd.func32, Tryd.ntmps32
  go_wp2
  all_goals (go_ret; exact ⟨ret_bool (by simp_all [punctB]), rfl⟩)
set_option maxHeartbeats 1000000 in
theorem impl_punct (s : ByteArray) (w : World) : Calls Tryd.prog 21 #[.string s] w fun e w' => e = .returned (.bool (punctB s.toList)) ∧ w' = w := by
  go_enter Tryd.func21, Tryd.ntmps21
  go_wp2
  all_goals (go_ret; exact ⟨ret_bool (by simp_all [punctB]), rfl⟩)

def intB (n : Int) : Bool := decide (-2147483648 ≤ n ∧ n ≤ 2147483647)
set_option maxHeartbeats 400000 in
theorem spec_isInt (n : Int) (w : World) : Calls Tryd.prog 31 #[.int .i64 n] w fun e w' => e = .returned (.bool (intB n)) ∧ w' = w := by
  go_enter Tryd.func31, Tryd.ntmps31
  go_wp2
  all_goals (go_ret; exact ⟨ret_bool (by unfold intB; rw [Bool.eq_iff_iff]; simp; omega), rfl⟩)
set_option maxHeartbeats 400000 in
theorem impl_isInt (n : Int) (w : World) : Calls Tryd.prog 11 #[.int .i64 n] w fun e w' => e = .returned (.bool (intB n)) ∧ w' = w := by
  go_enter Tryd.func11, Tryd.ntmps11
  go_wp2
  all_goals (go_ret; exact ⟨ret_bool (by unfold intB; rw [Bool.eq_iff_iff]; simp; omega), rfl⟩)
theorem spec_nameOK (s : ByteArray) (w : World) (hs : s.size ≤ maxLen) :
    Calls Tryd.prog 30 #[.string s] w fun e w' => e = .returned (.bool (nameB s)) ∧ w' = w := by
  go_enter Tryd.func30, Tryd.ntmps30
  go_wp2_with fail
  refine (word_any s _ hs).mono ?_
  rintro e w1 ⟨rfl, rfl⟩
  go_wp2_with fail
  go_ret
  exact ⟨rfl, rfl⟩
theorem impl_nameOK (s : ByteArray) (w : World) (hs : s.size ≤ maxLen) :
    Calls Tryd.prog 20 #[.string s] w fun e w' => e = .returned (.bool (nameB s)) ∧ Below w.heap.size w w' := by
  refine (nameOK_any s w hs).mono ?_
  rintro e w1 ⟨rfl, hw⟩
  refine ⟨rfl, ?_⟩
  rcases hw with rfl | ⟨pos, rfl⟩
  · exact Below.refl _ _
  · exact (Below.refl _ _).alloc (Nat.le_refl _) _

def tokB (a b : Int) (s : ByteArray) : Bool :=
  if a = 1 ∨ a = 3 then (b == 0) && nameB s
  else if a = 2 then intB b && s.toList.isEmpty
  else if a = 4 then (b == 0) && punctB s.toList
  else false

theorem bcell {W w1 : World} (hb : Below W.heap.size W w1) : (∀ b o, b < W.heap.size → w1.cell? ⟨b, o, none⟩ = W.cell? ⟨b, o, none⟩) ∧ (∀ b o, b < W.heap.size → w1.frozen? ⟨b, o, none⟩ = W.frozen? ⟨b, o, none⟩) :=
  ⟨fun b o h => hb.cell (p := ⟨b, o, none⟩) h, fun b o h => hb.frozen (p := ⟨b, o, none⟩) h⟩

def szT (n k : Int) : Int := if n - k < 0 then -1 else n - k
theorem ret_int {k : IntKind} {a b : Int} (h : a = b) : Ending.returned (.int k a) = .returned (.int k b) := by rw [h]
set_option maxHeartbeats 1000000 in
theorem spec_tokOK (a b : Int) (s : ByteArray) (w : World) (hs : s.size ≤ maxLen) :
    Calls Tryd.prog 15 #[.agg #[.int .i64 a, .int .i64 b, .string s]] w fun e w' => e = .returned (.bool (tokB a b s)) ∧ Below w.heap.size w w' := by
  have k0 : (s.toList == []) = s.toList.isEmpty := by cases s.toList <;> rfl
  by_cases hn : a = 1 ∨ a = 3
  · have H : Hid (tokB a b s = ((b == 0) && nameB s)) := by unfold Hid tokB; rw [if_pos hn]
    cases hb : (b == 0)
    · have H2 : Hid (false = tokB a b s) := by rw [Hid, H.out, hb]; rfl
      rcases hn with rfl | rfl
      all_goals
        go_enter Tryd.func15, Tryd.ntmps15
        go_wp2_with (go_at_call 30; refine (spec_nameOK _ _ hs).mono ?_; rintro e w1 ⟨rfl, rfl⟩)
        go_ret
        exact ⟨ret_bool H2.out, (Below.refl _ _).alloc (Nat.le_refl _) _⟩
    · have H2 : Hid (nameB s = tokB a b s) := by rw [Hid, H.out, hb]; rfl
      rcases hn with rfl | rfl
      all_goals
        go_enter Tryd.func15, Tryd.ntmps15
        go_wp2_with (go_at_call 30; refine (spec_nameOK _ _ hs).mono ?_; rintro e w1 ⟨rfl, rfl⟩)
        go_ret
        exact ⟨ret_bool H2.out, (Below.refl _ _).alloc (Nat.le_refl _) _⟩
  have g1 : (a == 1) = false := by rw [beq_eq_false_iff_ne]; omega
  have g3 : (a == 3) = false := by rw [beq_eq_false_iff_ne]; omega
  by_cases h2 : a = 2
  · have H : Hid (tokB a b s = (intB b && s.toList.isEmpty)) := by unfold Hid tokB; rw [if_neg hn, if_pos h2]
    subst h2
    clear hn g1 g3
    cases hb : intB b
    · have H2 : Hid (false = tokB 2 b s) := by rw [Hid, H.out, hb]; rfl
      go_enter Tryd.func15, Tryd.ntmps15
      go_wp2_with (go_at_call 31; refine (spec_isInt _ _).mono ?_; rintro e w1 ⟨rfl, rfl⟩)
      go_ret
      exact ⟨ret_bool H2.out, (Below.refl _ _).alloc (Nat.le_refl _) _⟩
    · have H2 : Hid (s.toList.isEmpty = tokB 2 b s) := by rw [Hid, H.out, hb]; simp
      go_enter Tryd.func15, Tryd.ntmps15
      go_wp2_with (go_at_call 31; refine (spec_isInt _ _).mono ?_; rintro e w1 ⟨rfl, rfl⟩)
      go_ret
      exact ⟨ret_bool H2.out, (Below.refl _ _).alloc (Nat.le_refl _) _⟩
  have g2 : (a == 2) = false := by rw [beq_eq_false_iff_ne]; omega
  by_cases h4 : a = 4
  · have H : Hid (tokB a b s = ((b == 0) && punctB s.toList)) := by unfold Hid tokB; rw [if_neg hn, if_neg h2, if_pos h4]
    subst h4
    clear hn g1 g3 g2 h2
    cases hb : (b == 0)
    · have H2 : Hid (false = tokB 4 b s) := by rw [Hid, H.out, hb]; rfl
      go_enter Tryd.func15, Tryd.ntmps15
      go_wp2_with (go_at_call 32; refine (spec_punct _ _).mono ?_; rintro e w1 ⟨rfl, rfl⟩)
      go_ret
      exact ⟨ret_bool H2.out, (Below.refl _ _).alloc (Nat.le_refl _) _⟩
    · have H2 : Hid (punctB s.toList = tokB 4 b s) := by rw [Hid, H.out, hb]; rfl
      go_enter Tryd.func15, Tryd.ntmps15
      go_wp2_with (go_at_call 32; refine (spec_punct _ _).mono ?_; rintro e w1 ⟨rfl, rfl⟩)
      go_ret
      exact ⟨ret_bool H2.out, (Below.refl _ _).alloc (Nat.le_refl _) _⟩
  have g4 : (a == 4) = false := by rw [beq_eq_false_iff_ne]; omega
  have H2 : Hid (false = tokB a b s) := by unfold Hid tokB; rw [if_neg hn, if_neg h2, if_neg h4]
  clear hn h2 h4
  go_enter Tryd.func15, Tryd.ntmps15
  go_wp2_with fail
  go_ret
  exact ⟨ret_bool H2.out, (Below.refl _ _).alloc (Nat.le_refl _) _⟩
set_option maxHeartbeats 1000000 in
theorem impl_tokOK (a b : Int) (s : ByteArray) (w : World) (hs : s.size ≤ maxLen) :
    Calls Tryd.prog 8 #[.agg #[.int .i64 a, .int .i64 b, .string s]] w fun e w' => e = .returned (.bool (tokB a b s)) ∧ Below w.heap.size w w' := by
  have k0 : (s.toList == []) = s.toList.isEmpty := by cases s.toList <;> rfl
  by_cases hn : a = 1 ∨ a = 3
  · have H : Hid (tokB a b s = ((b == 0) && nameB s)) := by unfold Hid tokB; rw [if_pos hn]
    cases hb : (b == 0)
    · have H2 : Hid (false = tokB a b s) := by rw [Hid, H.out, hb]; rfl
      rcases hn with rfl | rfl
      all_goals
        go_enter Tryd.func8, Tryd.ntmps8
        go_wp2_with (go_at_call 20; refine (impl_nameOK _ _ hs).mono ?_; rintro e w1 ⟨rfl, hb1⟩)
        go_ret
        exact ⟨ret_bool H2.out, (Below.refl _ _).alloc (Nat.le_refl _) _⟩
    · have H2 : Hid (nameB s = tokB a b s) := by rw [Hid, H.out, hb]; rfl
      rcases hn with rfl | rfl
      all_goals
        go_enter Tryd.func8, Tryd.ntmps8
        go_wp2_with (go_at_call 20; refine (impl_nameOK _ _ hs).mono ?_; rintro e w1 ⟨rfl, hb1⟩)
        go_ret
        exact ⟨ret_bool H2.out, (((Below.refl _ _).alloc (Nat.le_refl _) _).trans (hb1.mono (by simp)))⟩
  have g1 : (a == 1) = false := by rw [beq_eq_false_iff_ne]; omega
  have g3 : (a == 3) = false := by rw [beq_eq_false_iff_ne]; omega
  by_cases h2 : a = 2
  · have H : Hid (tokB a b s = (intB b && s.toList.isEmpty)) := by unfold Hid tokB; rw [if_neg hn, if_pos h2]
    subst h2
    clear hn g1 g3
    cases hb : s.toList.isEmpty
    · have hz : ¬ s.toList = [] := by intro h; rw [h] at hb; cases hb
      have H2 : Hid (false = tokB 2 b s) := by rw [Hid, H.out, hb]; simp
      go_enter Tryd.func8, Tryd.ntmps8
      go_wp2_with (go_at_call 11; refine (impl_isInt _ _).mono ?_; rintro e w1 ⟨rfl, rfl⟩)
      go_ret
      exact ⟨ret_bool H2.out, (Below.refl _ _).alloc (Nat.le_refl _) _⟩
    · have hz : s.toList = [] := by cases h : s.toList with | nil => rfl | cons a l => rw [h] at hb; cases hb
      have H2 : Hid (intB b = tokB 2 b s) := by rw [Hid, H.out, hb]; simp
      go_enter Tryd.func8, Tryd.ntmps8
      go_wp2_with (go_at_call 11; refine (impl_isInt _ _).mono ?_; rintro e w1 ⟨rfl, rfl⟩)
      go_ret
      exact ⟨ret_bool H2.out, (Below.refl _ _).alloc (Nat.le_refl _) _⟩
  have g2 : (a == 2) = false := by rw [beq_eq_false_iff_ne]; omega
  by_cases h4 : a = 4
  · have H : Hid (tokB a b s = ((b == 0) && punctB s.toList)) := by unfold Hid tokB; rw [if_neg hn, if_neg h2, if_pos h4]
    subst h4
    clear hn g1 g3 g2 h2
    cases hb : (b == 0)
    · have H2 : Hid (false = tokB 4 b s) := by rw [Hid, H.out, hb]; rfl
      go_enter Tryd.func8, Tryd.ntmps8
      go_wp2_with (go_at_call 21; refine (impl_punct _ _).mono ?_; rintro e w1 ⟨rfl, rfl⟩)
      go_ret
      exact ⟨ret_bool H2.out, (Below.refl _ _).alloc (Nat.le_refl _) _⟩
    · have H2 : Hid (punctB s.toList = tokB 4 b s) := by rw [Hid, H.out, hb]; rfl
      go_enter Tryd.func8, Tryd.ntmps8
      go_wp2_with (go_at_call 21; refine (impl_punct _ _).mono ?_; rintro e w1 ⟨rfl, rfl⟩)
      go_ret
      exact ⟨ret_bool H2.out, (Below.refl _ _).alloc (Nat.le_refl _) _⟩
  have g4 : (a == 4) = false := by rw [beq_eq_false_iff_ne]; omega
  have H2 : Hid (false = tokB a b s) := by unfold Hid tokB; rw [if_neg hn, if_neg h2, if_neg h4]
  clear hn h2 h4
  go_enter Tryd.func8, Tryd.ntmps8
  go_wp2_with fail
  go_ret
  exact ⟨ret_bool H2.out, (Below.refl _ _).alloc (Nat.le_refl _) _⟩
end Go.Proofs.YtjbogjoadcikhaaDoor
