/- What is a token, and that the Go texts compute it. -/
import Derived.Test.YtnfoinmccigdfaaGreatDoorInts
namespace Go.Proofs.YtnfoinmccigdfaaGreatDoor
open Go.ChangeShapes Go.WideShapes Go.ChangeAt Go.RowKit
set_option linter.unusedVariables false

def punctB (l : List UInt8) : Bool := l == [123] || l == [125] || l == [40] || l == [41] || l == [91] || l == [93] || l == [58] || l == [33] || l == [64] || l == [46, 46, 46]

set_option maxHeartbeats 1000000 in
theorem spec_punct (s : ByteArray) (w : World) : Calls Tryz.prog 62 #[.string s] w fun e w' => e = .returned (.bool (punctB s.toList)) ∧ w' = w := by
  go_enter Tryz.func62, Tryz.ntmps62
  go_wp2
  all_goals (go_ret; exact ⟨ret_bool (by simp_all [punctB]), rfl⟩)
set_option maxHeartbeats 1000000 in
theorem impl_punct (s : ByteArray) (w : World) : Calls Tryz.prog 86 #[.string s] w fun e w' => e = .returned (.bool (punctB s.toList)) ∧ w' = w := by
  go_enter Tryz.func86, Tryz.ntmps86
  go_wp2
  all_goals (go_ret; exact ⟨ret_bool (by simp_all [punctB]), rfl⟩)

def tokB (a b : Int) (s : ByteArray) : Bool :=
  if a = 1 ∨ a = 3 then (b == 0) && nameB s
  else if a = 2 then intB b && s.toList.isEmpty
  else if a = 4 then (b == 0) && punctB s.toList
  else false

def szT (n k : Int) : Int := if n - k < 0 then -1 else n - k
set_option maxHeartbeats 1000000 in
theorem impl_tokOK (a b : Int) (s : ByteArray) (w : World) (hs : s.size ≤ maxLen) :
    Calls Tryz.prog 70 #[.agg #[.int .i64 a, .int .i64 b, .string s]] w fun e w' => e = .returned (.bool (tokB a b s)) ∧ Below w.heap.size w w' := by
  have k0 : (s.toList == []) = s.toList.isEmpty := by cases s.toList <;> rfl
  by_cases hn : a = 1 ∨ a = 3
  · have H : Hid (tokB a b s = ((b == 0) && nameB s)) := by unfold Hid tokB; rw [if_pos hn]
    cases hb : (b == 0)
    · have H2 : Hid (false = tokB a b s) := by rw [Hid, H.out, hb]; rfl
      rcases hn with rfl | rfl
      all_goals
        go_enter Tryz.func70, Tryz.ntmps70
        go_wp2_with (go_at_call 51; refine (impl_nameOK _ _ hs).mono ?_; rintro e w1 ⟨rfl, hb1⟩)
        go_ret
        exact ⟨ret_bool H2.out, (Below.refl _ _).alloc (Nat.le_refl _) _⟩
    · have H2 : Hid (nameB s = tokB a b s) := by rw [Hid, H.out, hb]; rfl
      rcases hn with rfl | rfl
      all_goals
        go_enter Tryz.func70, Tryz.ntmps70
        go_wp2_with (go_at_call 51; refine (impl_nameOK _ _ hs).mono ?_; rintro e w1 ⟨rfl, hb1⟩)
        go_ret
        exact ⟨ret_bool H2.out, (((Below.refl _ _).alloc (Nat.le_refl _) _).trans (hb1.mono (by simp)))⟩
  have g1 : (a == 1) = false := by rw [beq_eq_false_iff_ne]; omega
  have g3 : (a == 3) = false := by rw [beq_eq_false_iff_ne]; omega
  by_cases h2 : a = 2
  · have H : Hid (tokB a b s = (intB b && s.toList.isEmpty)) := by unfold Hid tokB; rw [if_neg hn, if_pos h2]
    subst h2
    clear hn g1 g3
    cases hb : s.toList.isEmpty
    · have hz : ¬ s.toList = [] := by intro h; rw [h] at hb; cases hb
      have H2 : Hid (false = tokB 2 b s) := by rw [Hid, H.out, hb]; simp
      go_enter Tryz.func70, Tryz.ntmps70
      go_wp2_with (go_at_call 85; refine (impl_isInt _ _).mono ?_; rintro e w1 ⟨rfl, rfl⟩)
      go_ret
      exact ⟨ret_bool H2.out, (Below.refl _ _).alloc (Nat.le_refl _) _⟩
    · have hz : s.toList = [] := by cases h : s.toList with | nil => rfl | cons a l => rw [h] at hb; cases hb
      have H2 : Hid (intB b = tokB 2 b s) := by rw [Hid, H.out, hb]; simp
      go_enter Tryz.func70, Tryz.ntmps70
      go_wp2_with (go_at_call 85; refine (impl_isInt _ _).mono ?_; rintro e w1 ⟨rfl, rfl⟩)
      go_ret
      exact ⟨ret_bool H2.out, (Below.refl _ _).alloc (Nat.le_refl _) _⟩
  have g2 : (a == 2) = false := by rw [beq_eq_false_iff_ne]; omega
  by_cases h4 : a = 4
  · have H : Hid (tokB a b s = ((b == 0) && punctB s.toList)) := by unfold Hid tokB; rw [if_neg hn, if_neg h2, if_pos h4]
    subst h4
    clear hn g1 g3 g2 h2
    cases hb : (b == 0)
    · have H2 : Hid (false = tokB 4 b s) := by rw [Hid, H.out, hb]; rfl
      go_enter Tryz.func70, Tryz.ntmps70
      go_wp2_with (go_at_call 86; refine (impl_punct _ _).mono ?_; rintro e w1 ⟨rfl, rfl⟩)
      go_ret
      exact ⟨ret_bool H2.out, (Below.refl _ _).alloc (Nat.le_refl _) _⟩
    · have H2 : Hid (punctB s.toList = tokB 4 b s) := by rw [Hid, H.out, hb]; rfl
      go_enter Tryz.func70, Tryz.ntmps70
      go_wp2_with (go_at_call 86; refine (impl_punct _ _).mono ?_; rintro e w1 ⟨rfl, rfl⟩)
      go_ret
      exact ⟨ret_bool H2.out, (Below.refl _ _).alloc (Nat.le_refl _) _⟩
  have g4 : (a == 4) = false := by rw [beq_eq_false_iff_ne]; omega
  have H2 : Hid (false = tokB a b s) := by unfold Hid tokB; rw [if_neg hn, if_neg h2, if_neg h4]
  clear hn h2 h4
  go_enter Tryz.func70, Tryz.ntmps70
  go_wp2_with fail
  go_ret
  exact ⟨ret_bool H2.out, (Below.refl _ _).alloc (Nat.le_refl _) _⟩
end Go.Proofs.YtnfoinmccigdfaaGreatDoor
