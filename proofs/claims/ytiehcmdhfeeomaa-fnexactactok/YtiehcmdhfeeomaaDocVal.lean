/- Values: the Go texts of ValueOK on both sides, and what the law does with a value. -/
import Derived.Test.YtiehcmdhfeeomaaDocMath
import Derived.Deep.QuietTactic
import Derived.BigQuiet
namespace Go.Proofs.Ytiehcmdhfeeomaa
open Go.ChangeShapes Go.WideShapes Go.ChangeAt Go.RowKit
set_option linter.unusedVariables false

def inB (n a b : Int) : Bool := decide (a ≤ n ∧ n ≤ b)
set_option maxHeartbeats 400000 in
theorem spec_in (n a b : Int) (w : World) : Calls Try.prog 34 #[.int .i64 n, .int .i64 a, .int .i64 b] w fun e w' => e = .returned (.bool (inB n a b)) ∧ w' = w := by
  go_enter Try.func34, Try.ntmps34
  go_wp2
  all_goals (go_ret; exact ⟨ret_bool (by unfold inB; rw [Bool.eq_iff_iff]; simp; omega), rfl⟩)

theorem no_of {s : ByteArray} (h : s.toList = []) : noB s = true := by unfold noB; rw [h]; rfl
theorem no_not {s : ByteArray} (h : ¬ s.toList = []) : noB s = false := by unfold noB; cases hs : s.toList with | nil => exact absurd hs h | cons a l => rfl

set_option maxHeartbeats 1000000 in
theorem spec_val (v : Va) (w : World) (hs : v.t.size ≤ maxLen) :
    Calls Try.prog 66 #[.agg #[.int .i64 v.k, .int .i64 v.n, .string v.t]] w fun e w' => e = .returned (.bool (valB v)) ∧ Below w.heap.size w w' := by
  obtain ⟨k, n, s⟩ := v
  simp only at hs ⊢
  have k0 : (s.toList == []) = noB s := by unfold noB; cases s.toList <;> rfl
  have aB : Below w.heap.size w (w.alloc (.cells #[.int .i64 k, .int .i64 n, .string s] 91)) := (Below.refl _ _).alloc (Nat.le_refl _) _
  by_cases h1 : k = 1
  · have H : Hid (valB ⟨k, n, s⟩ = (intB n && noB s)) := by unfold Hid valB; rw [if_pos h1]
    subst h1
    cases hb : intB n
    all_goals
      go_enter Try.func66, Try.ntmps66
      go_wp2_with (go_at_call 85; refine (spec_isInt _ _).mono ?_; rintro e w1 ⟨rfl, rfl⟩)
      go_ret
      exact ⟨ret_bool (by rw [H.out, hb]; simp), aB⟩
  have g1 : (k == 1) = false := by rw [beq_eq_false_iff_ne]; omega
  by_cases h2 : k = 2
  · have H : Hid (valB ⟨k, n, s⟩ = ((n == 0 || n == 1) && noB s)) := by unfold Hid valB; rw [if_neg h1, if_pos h2]
    subst h2
    clear g1 h1
    have hin : inB n 0 1 = (n == 0 || n == 1) := by unfold inB; rw [Bool.eq_iff_iff]; simp; omega
    cases hb : (n == 0 || n == 1)
    all_goals
      rw [hb] at hin
      go_enter Try.func66, Try.ntmps66
      go_wp2_with (go_at_call 34; refine (spec_in _ _ _ _).mono ?_; rw [hin]; rintro e w1 ⟨rfl, rfl⟩)
      go_ret
      exact ⟨ret_bool (by rw [H.out, hb]; simp), aB⟩
  have g2 : (k == 2) = false := by rw [beq_eq_false_iff_ne]; omega
  by_cases h3 : k = 3
  · have H : Hid (valB ⟨k, n, s⟩ = ((n == 0) && noB s)) := by unfold Hid valB; rw [if_neg h1, if_neg h2, if_pos h3]
    subst h3
    clear g1 h1 g2 h2
    cases hb : (n == 0)
    all_goals
      go_enter Try.func66, Try.ntmps66
      go_wp2_with fail
      go_ret
      exact ⟨ret_bool (by rw [H.out, hb]; simp), aB⟩
  have g3 : (k == 3) = false := by rw [beq_eq_false_iff_ne]; omega
  by_cases h4 : k = 4
  · have H : Hid (valB ⟨k, n, s⟩ = ((n == 0) && nameB s)) := by unfold Hid valB; rw [if_neg h1, if_neg h2, if_neg h3, if_pos h4]
    subst h4
    clear g1 h1 g2 h2 g3 h3
    cases hb : (n == 0)
    all_goals
      go_enter Try.func66, Try.ntmps66
      go_wp2_with (go_at_call 38; refine (spec_nameOK _ _ hs).mono ?_; rintro e w1 ⟨rfl, rfl⟩)
      go_ret
      exact ⟨ret_bool (by rw [H.out, hb]; simp), aB⟩
  have g4 : (k == 4) = false := by rw [beq_eq_false_iff_ne]; omega
  have H2 : Hid (false = valB ⟨k, n, s⟩) := by unfold Hid valB; rw [if_neg h1, if_neg h2, if_neg h3, if_neg h4]
  clear h1 h2 h3 h4
  go_enter Try.func66, Try.ntmps66
  go_wp2_with fail
  go_ret
  exact ⟨ret_bool H2.out, aB⟩

set_option maxHeartbeats 1000000 in
theorem impl_val (v : Va) (w : World) (hs : v.t.size ≤ maxLen) :
    Calls Try.prog 69 #[.agg #[.int .i64 v.k, .int .i64 v.n, .string v.t]] w fun e w' => e = .returned (.bool (valB v)) ∧ Below w.heap.size w w' := by
  obtain ⟨k, n, s⟩ := v
  simp only at hs ⊢
  have aB : Below w.heap.size w (w.alloc (.cells #[.int .i64 k, .int .i64 n, .string s] 91)) := (Below.refl _ _).alloc (Nat.le_refl _) _
  have aN : ∀ w1, Below (w.alloc (.cells #[.int .i64 k, .int .i64 n, .string s] 91)).heap.size (w.alloc (.cells #[.int .i64 k, .int .i64 n, .string s] 91)) w1 → Below w.heap.size w w1 := fun w1 h => aB.trans (h.mono (by simp))
  have HA : Hid _ := aB
  have HN : Hid _ := aN
  clear aB aN
  by_cases h1 : k = 1
  · have H : Hid (valB ⟨k, n, s⟩ = (intB n && noB s)) := by unfold Hid valB; rw [if_pos h1]
    subst h1
    by_cases hz : s.toList = []
    · have H2 : Hid (intB n = valB ⟨1, n, s⟩) := by rw [Hid, H.out, no_of hz]; simp
      go_enter Try.func69, Try.ntmps69
      go_wp2_with (go_at_call 86; refine (impl_isInt _ _).mono ?_; rintro e w1 ⟨rfl, rfl⟩)
      go_ret
      exact ⟨ret_bool H2.out, HA.out⟩
    · have H2 : Hid (false = valB ⟨1, n, s⟩) := by rw [Hid, H.out, no_not hz]; simp
      go_enter Try.func69, Try.ntmps69
      go_wp2_with (go_at_call 86; refine (impl_isInt _ _).mono ?_; rintro e w1 ⟨rfl, rfl⟩)
      go_ret
      exact ⟨ret_bool H2.out, HA.out⟩
  have g1 : (k == 1) = false := by rw [beq_eq_false_iff_ne]; omega
  by_cases h2 : k = 2
  · have H : Hid (valB ⟨k, n, s⟩ = ((n == 0 || n == 1) && noB s)) := by unfold Hid valB; rw [if_neg h1, if_pos h2]
    subst h2
    clear g1 h1
    by_cases hz : s.toList = []
    · cases hb : (n == 0)
      · have H2 : Hid ((n == 1) = valB ⟨2, n, s⟩) := by rw [Hid, H.out, no_of hz, hb]; simp
        go_enter Try.func69, Try.ntmps69
        go_wp2_with fail
        go_ret
        exact ⟨ret_bool H2.out, HA.out⟩
      · have H2 : Hid (true = valB ⟨2, n, s⟩) := by rw [Hid, H.out, no_of hz, hb]; simp
        go_enter Try.func69, Try.ntmps69
        go_wp2_with fail
        go_ret
        exact ⟨ret_bool H2.out, HA.out⟩
    · have H2 : Hid (false = valB ⟨2, n, s⟩) := by rw [Hid, H.out, no_not hz]; simp
      go_enter Try.func69, Try.ntmps69
      go_wp2_with fail
      go_ret
      exact ⟨ret_bool H2.out, HA.out⟩
  have g2 : (k == 2) = false := by rw [beq_eq_false_iff_ne]; omega
  by_cases h3 : k = 3
  · have H : Hid (valB ⟨k, n, s⟩ = ((n == 0) && noB s)) := by unfold Hid valB; rw [if_neg h1, if_neg h2, if_pos h3]
    subst h3
    clear g1 h1 g2 h2
    by_cases hz : s.toList = []
    · have H2 : Hid ((n == 0) = valB ⟨3, n, s⟩) := by rw [Hid, H.out, no_of hz]; simp
      go_enter Try.func69, Try.ntmps69
      go_wp2_with fail
      go_ret
      exact ⟨ret_bool H2.out, HA.out⟩
    · have H2 : Hid (false = valB ⟨3, n, s⟩) := by rw [Hid, H.out, no_not hz]; simp
      go_enter Try.func69, Try.ntmps69
      go_wp2_with fail
      go_ret
      exact ⟨ret_bool H2.out, HA.out⟩
  have g3 : (k == 3) = false := by rw [beq_eq_false_iff_ne]; omega
  by_cases h4 : k = 4
  · have H : Hid (valB ⟨k, n, s⟩ = ((n == 0) && nameB s)) := by unfold Hid valB; rw [if_neg h1, if_neg h2, if_neg h3, if_pos h4]
    subst h4
    clear g1 h1 g2 h2 g3 h3
    cases hb : (n == 0)
    · have H2 : Hid (false = valB ⟨4, n, s⟩) := by rw [Hid, H.out, hb]; simp
      go_enter Try.func69, Try.ntmps69
      go_wp2_with (go_at_call 61; refine (impl_nameOK _ _ hs).mono ?_; rintro e w1 ⟨rfl, hb1⟩)
      go_ret
      exact ⟨ret_bool H2.out, HA.out⟩
    · have H2 : Hid (nameB s = valB ⟨4, n, s⟩) := by rw [Hid, H.out, hb]; simp
      go_enter Try.func69, Try.ntmps69
      go_wp2_with (go_at_call 61; refine (impl_nameOK _ _ hs).mono ?_; rintro e w1 ⟨rfl, hb1⟩)
      go_ret
      exact ⟨ret_bool H2.out, HN.out _ hb1⟩
  have g4 : (k == 4) = false := by rw [beq_eq_false_iff_ne]; omega
  have H2 : Hid (false = valB ⟨k, n, s⟩) := by unfold Hid valB; rw [if_neg h1, if_neg h2, if_neg h3, if_neg h4]
  clear h1 h2 h3 h4
  go_enter Try.func69, Try.ntmps69
  go_wp2_with fail
  go_ret
  exact ⟨ret_bool H2.out, HA.out⟩

/-- What is left of n, and what is known then. -/
def Sz (n m : Int) (p : Prop) : Prop := m ≤ n ∧ -1 ≤ m ∧ (0 ≤ m → p)
set_option maxHeartbeats 1000000 in
theorem sz_val (v : Va) (n : Int) (w : World) (hs : v.t.size ≤ maxLen) (h0 : 0 ≤ n) (h1 : n ≤ 1048576) :
    Calls Try.prog 65 #[.agg #[.int .i64 v.k, .int .i64 v.n, .string v.t], .int .i64 n] w fun e w' => ∃ m, e = .returned (.int .i64 m) ∧ Sz n m (VaBd 1048576 v) ∧ Below w.heap.size w w' := by
  obtain ⟨a, b, s⟩ := v
  simp only at hs ⊢
  unfold maxLen at hs
  by_cases h : n - s.size < 0
  · go_enter Try.func65, Try.ntmps65
    go_wp2
    go_ret
    exact ⟨-1, rfl, ⟨by omega, by omega, fun h => by omega⟩, (Below.refl _ _).alloc (Nat.le_refl _) _⟩
  · go_enter Try.func65, Try.ntmps65
    go_wp2
    go_ret
    exact ⟨n - s.size, rfl, ⟨by omega, by omega, fun _ => by unfold VaBd; simp only; omega⟩, (Below.refl _ _).alloc (Nat.le_refl _) _⟩
set_option maxHeartbeats 1000000 in
theorem to_val (a b : Int) (s : ByteArray) (w : World) :
    Calls Try.prog 68 #[.agg #[.int .i64 a, .int .i64 b, .string s]] w fun e w' => e = .returned (.agg #[.int .i64 a, .int .i64 b, .string s]) ∧ Below w.heap.size w w' := by
  go_enter Try.func68, Try.ntmps68
  go_wp2
  refine bodyPost_ret (v := .agg #[.int .i64 a, .int .i64 b, .string s]) (by simp [results, Try.results68, go_sem]) rfl ⟨rfl, ?_⟩
  repeat (first | exact Below.refl _ _ | refine Below.setCell ?_ (by simp <;> omega) _ | refine Below.alloc ?_ (by simp <;> omega) _)
end Go.Proofs.Ytiehcmdhfeeomaa
