/- ActOK: the specification's side; an act counted and copied. -/
import Derived.Test.YtiehcmdhfeeomaaAcBoth
namespace Go.Proofs.Ytiehcmdhfeeomaa
open Go.ChangeShapes Go.WideShapes Go.ChangeAt Go.RowKit
set_option linter.unusedVariables false

set_option maxHeartbeats 4000000 in
theorem spec_act (k n : Int) (s : ByteArray) (w : World) (hs : s.size ≤ maxLen) :
    Calls Try.prog 17 #[.agg #[.int .i64 k, .int .i64 n, .string s]] w fun e w' => e = .returned (.bool (actB k n s)) ∧ Below w.heap.size w w' := by
  by_cases c1 : 1 ≤ k ∧ k ≤ 4
  case neg =>
    have i1 : inB k 1 4 = false := by unfold inB; simp; omega
    clear hs
    have H : Hid (false = actB k n s) := by rw [Hid]; simp [actB, c1]
    go_enter Try.func17, Try.ntmps17
    go_wp2_with (go_at_call 34; refine (spec_in _ _ _ _).mono ?_; (first | rw [i1]); rintro e w1 ⟨rfl, rfl⟩)
    go_ret
    first | exact ⟨ret_bool H.out, (Below.refl _ _).alloc (Nat.le_refl _) _⟩ | exact ⟨rfl, (Below.refl _ _).alloc (Nat.le_refl _) _⟩
  have i1 : inB k 1 4 = true := by unfold inB; simp; omega
  by_cases c2 : 0 ≤ n ∧ n ≤ 1000000
  case neg =>
    have i2 : inB n 0 1000000 = false := by unfold inB; simp; omega
    clear hs
    have H : Hid (false = actB k n s) := by rw [Hid]; simp [actB, c2]
    go_enter Try.func17, Try.ntmps17
    go_wp2_with (go_at_call 34; refine (spec_in _ _ _ _).mono ?_; (first | rw [i1] | rw [i2]); rintro e w1 ⟨rfl, rfl⟩)
    go_ret
    first | exact ⟨ret_bool H.out, (Below.refl _ _).alloc (Nat.le_refl _) _⟩ | exact ⟨rfl, (Below.refl _ _).alloc (Nat.le_refl _) _⟩
  have i2 : inB n 0 1000000 = true := by unfold inB; simp; omega
  by_cases c3 : s.size ≤ 65536
  case neg =>
    have c3' : ¬ (s.size : Int) ≤ 65536 := by omega
    have H : Hid (false = actB k n s) := by rw [Hid]; simp [actB, c3]
    go_enter Try.func17, Try.ntmps17
    go_wp2_with (go_at_call 34; refine (spec_in _ _ _ _).mono ?_; (first | rw [i1] | rw [i2]); rintro e w1 ⟨rfl, rfl⟩)
    go_ret
    first | exact ⟨ret_bool H.out, (Below.refl _ _).alloc (Nat.le_refl _) _⟩ | exact ⟨rfl, (Below.refl _ _).alloc (Nat.le_refl _) _⟩
  have c3' : (s.size : Int) ≤ 65536 := by omega
  by_cases c4 : k = 1
  case pos =>
    subst c4
    have i3 : inB 1 2 3 = false := by decide
    have H : Hid ((n == 0) = actB 1 n s) := by rw [Hid]; simp [actB, c2, c3]
    go_enter Try.func17, Try.ntmps17
    go_wp2_with (go_at_call 34; refine (spec_in _ _ _ _).mono ?_; (first | rw [i1] | rw [i2] | rw [i3]); rintro e w1 ⟨rfl, rfl⟩)
    go_ret
    first | exact ⟨ret_bool H.out, (Below.refl _ _).alloc (Nat.le_refl _) _⟩ | exact ⟨rfl, (Below.refl _ _).alloc (Nat.le_refl _) _⟩
  have c4' : (k == 1) = false := by rw [beq_eq_false_iff_ne]; exact c4
  by_cases c5 : s = ⟨#[]⟩
  case neg =>
    have h4 : ¬ s.toList = [] := fun e => c5 (no_list e)
    have h5 : (s.toList == ([] : List UInt8)) = false := by rw [beq_eq_false_iff_ne]; exact h4
    have hz : noB s = false := no_not h4
    have H : Hid (false = actB k n s) := by rw [Hid]; simp [actB, c4, hz]
    go_enter Try.func17, Try.ntmps17
    go_wp2_with (go_at_call 34; refine (spec_in _ _ _ _).mono ?_; (first | rw [i1] | rw [i2]); rintro e w1 ⟨rfl, rfl⟩)
    go_ret
    first | exact ⟨ret_bool H.out, (Below.refl _ _).alloc (Nat.le_refl _) _⟩ | exact ⟨rfl, (Below.refl _ _).alloc (Nat.le_refl _) _⟩
  subst c5
  by_cases c6 : 2 ≤ k ∧ k ≤ 3
  case pos =>
    have i3 : inB k 2 3 = true := by unfold inB; simp; omega
    have c7 : k = 2 ∨ k = 3 := by omega
    have H0 : Hid (true = actB k n ⟨#[]⟩) := by
      rw [Hid]
      rcases c7 with rfl | rfl <;> simp [actB, c2, noE, szE]
    clear c7
    have H : Hid (true = actB k n ⟨#[]⟩) := by rw [Hid]; exact H0.out
    go_enter Try.func17, Try.ntmps17
    go_wp2_with (go_at_call 34; refine (spec_in _ _ _ _).mono ?_; (first | rw [i1] | rw [i2] | rw [i3]); rintro e w1 ⟨rfl, rfl⟩)
    go_ret
    first | exact ⟨ret_bool H.out, (Below.refl _ _).alloc (Nat.le_refl _) _⟩ | exact ⟨rfl, (Below.refl _ _).alloc (Nat.le_refl _) _⟩
  have i3 : inB k 2 3 = false := by unfold inB; simp; omega
  have c7 : k = 4 := by omega
  subst c7
  have H : Hid ((n == 0) = actB 4 n ⟨#[]⟩) := by rw [Hid]; simp [actB, c2, noE, szE]
  go_enter Try.func17, Try.ntmps17
  go_wp2_with (go_at_call 34; refine (spec_in _ _ _ _).mono ?_; (first | rw [i1] | rw [i2] | rw [i3]); rintro e w1 ⟨rfl, rfl⟩)
  go_ret
  first | exact ⟨ret_bool H.out, (Below.refl _ _).alloc (Nat.le_refl _) _⟩ | exact ⟨rfl, (Below.refl _ _).alloc (Nat.le_refl _) _⟩
set_option maxHeartbeats 1000000 in
theorem sz_act (a b : Int) (s : ByteArray) (n : Int) (w : World) (hs : s.size ≤ maxLen) (h0 : 0 ≤ n) (h1 : n ≤ 1048576) :
    Calls Try.prog 16 #[.agg #[.int .i64 a, .int .i64 b, .string s], .int .i64 n] w fun e w' => ∃ m, e = .returned (.int .i64 m) ∧ Sz n m (s.size ≤ 1048576) ∧ Below w.heap.size w w' := by
  unfold maxLen at hs
  by_cases h : n - s.size < 0
  · go_enter Try.func16, Try.ntmps16
    go_wp2
    go_ret
    exact ⟨-1, rfl, ⟨by omega, by omega, fun h => by omega⟩, (Below.refl _ _).alloc (Nat.le_refl _) _⟩
  · go_enter Try.func16, Try.ntmps16
    go_wp2
    go_ret
    exact ⟨n - s.size, rfl, ⟨by omega, by omega, fun _ => by omega⟩, (Below.refl _ _).alloc (Nat.le_refl _) _⟩
set_option maxHeartbeats 1000000 in
theorem to_act (a b : Int) (s : ByteArray) (w : World) :
    Calls Try.prog 18 #[.agg #[.int .i64 a, .int .i64 b, .string s]] w fun e w' => e = .returned (.agg #[.int .i64 a, .int .i64 b, .string s]) ∧ Below w.heap.size w w' := by
  go_enter Try.func18, Try.ntmps18
  go_wp2
  refine bodyPost_ret (v := .agg #[.int .i64 a, .int .i64 b, .string s]) (by simp [results, Try.results18, go_sem]) rfl ⟨rfl, ?_⟩
  repeat (first | exact Below.refl _ _ | refine Below.setCell ?_ (by simp <;> omega) _ | refine Below.alloc ?_ (by simp <;> omega) _)
end Go.Proofs.Ytiehcmdhfeeomaa
