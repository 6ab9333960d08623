/- The specification's text of a value, of a selection's head. -/
import Derived.Test.YtiehcmdhfeeomaaDocLen
import Derived.Test.YtiehcmdhfeeomaaDigitsD
import Derived.Test.YtiehcmdhfeeomaaSelFrom
namespace Go.Proofs.Ytiehcmdhfeeomaa
open Go.ChangeShapes Go.WideShapes Go.ChangeAt Go.RowKit
set_option linter.unusedVariables false

def bl (l : List UInt8) : ByteArray := ⟨l.toArray⟩
theorem nl_bl (l : List UInt8) : nl (bl l) = l := by simp [nl, bl]
theorem bl_nl (s : ByteArray) : bl (nl s) = s := by cases s; simp [nl, bl]
theorem bl_of {s : ByteArray} {l : List UInt8} (h : nl s = l) : s = bl l := by rw [← h, bl_nl]
theorem bl_size (l : List UInt8) : (bl l).size = l.length := by rw [← nl_len, nl_bl]
theorem nl_lit (a : Array UInt8) : nl ⟨a⟩ = a.toList := rfl

theorem beq_no (s : ByteArray) : (s.toList == []) = noB s := by
  unfold noB
  cases s.toList <;> rfl

set_option maxHeartbeats 1000000 in
theorem spec_value (v : Va) (w : World) (hv : valB v = true) :
    Calls Try.prog 49 #[.agg #[.int .i64 v.k, .int .i64 v.n, .string v.t]] w fun e w' => e = .returned (.string (bl (valP v))) ∧ Below w.heap.size w w' := by
  have B0 : Hid (Below w.heap.size w (w.alloc (.cells #[.int .i64 v.k, .int .i64 v.n, .string v.t] 91))) := (Below.refl _ _).alloc (Nat.le_refl _) _
  have HV := hv
  unfold valB at hv
  by_cases k1 : v.k = 1
  · have g1 : (v.k == 1) = true := by rw [beq_iff_eq]; exact k1
    rw [if_pos k1, Bool.and_eq_true] at hv
    have hi := hv.1
    unfold intB at hi
    rw [decide_eq_true_eq] at hi
    have HP : Hid ((⟨(Lib.itoa v.n).toArray⟩ : ByteArray) = bl (valP v)) := by unfold Hid valP; rw [if_pos k1]; rfl
    clear k1 hv HV
    go_enter Try.func49, Try.ntmps49
    go_wp2_with fail
    refine (digs_any v.n _ (by omega) (by omega)).mono ?_
    rintro e w1 ⟨rfl, hb1⟩
    have Q : Hid (Below w.heap.size w w1) := B0.out.trans (hb1.mono (by simp))
    clear hb1
    go_wp2_with fail
    go_ret
    exact ⟨ret_str HP.out, Q.out⟩
  · have g1 : (v.k == 1) = false := by rw [beq_eq_false_iff_ne]; exact k1
    rw [if_neg k1] at hv
    by_cases k2 : v.k = 2
    · have g2 : (v.k == 2) = true := by rw [beq_iff_eq]; exact k2
      rw [if_pos k2, Bool.and_eq_true, Bool.or_eq_true, beq_iff_eq, beq_iff_eq] at hv
      have HP : Hid (valP v = if v.n = 1 then [116, 114, 117, 101] else [102, 97, 108, 115, 101]) := by unfold Hid valP; rw [if_neg k1, if_pos k2]
      have hn := hv.1
      clear k1 k2 hv HV
      generalize v.n = n at *
      rcases hn with rfl | rfl
      · go_enter Try.func49, Try.ntmps49
        go_wp2_with fail
        go_ret
        refine ⟨ret_str (by rw [HP.out]; rfl), ?_⟩
        repeat (first | exact B0.out | refine Below.alloc ?_ (by first | omega | (simp <;> omega)) _)
      · go_enter Try.func49, Try.ntmps49
        go_wp2_with fail
        go_ret
        refine ⟨ret_str (by rw [HP.out]; rfl), ?_⟩
        repeat (first | exact B0.out | refine Below.alloc ?_ (by first | omega | (simp <;> omega)) _)
    · have g2 : (v.k == 2) = false := by rw [beq_eq_false_iff_ne]; exact k2
      rw [if_neg k2] at hv
      by_cases k4 : v.k = 4
      · have g4 : (v.k == 4) = true := by rw [beq_iff_eq]; exact k4
        rw [if_neg (by omega), if_pos k4, Bool.and_eq_true] at hv
        have hl := name_len hv.2
        have l1 : (⟨#[36]⟩ : ByteArray).size = 1 := rfl
        have hno : ¬ (9223372036854775807 < (⟨#[36]⟩ : ByteArray).size + v.t.size) := by omega
        have HP : Hid ((⟨#[36]⟩ : ByteArray) ++ v.t = bl (valP v)) := by
          refine bl_of ?_
          rw [nl_app]
          unfold valP; rw [if_neg k1, if_neg k2, if_pos k4]; rfl
        clear k1 k2 k4 hv HV l1
        go_enter Try.func49, Try.ntmps49
        go_wp2_with fail
        go_ret
        exact ⟨ret_str HP.out, B0.out⟩
      · have g4 : (v.k == 4) = false := by rw [beq_eq_false_iff_ne]; exact k4
        have HP : Hid ((⟨#[110, 117, 108, 108]⟩ : ByteArray) = bl (valP v)) := by unfold Hid valP; rw [if_neg k1, if_neg k2, if_neg k4]; rfl
        clear k1 k2 k4 hv HV
        go_enter Try.func49, Try.ntmps49
        go_wp2_with fail
        go_ret
        exact ⟨ret_str HP.out, B0.out⟩
theorem spec_bit (b : Bool) (w : World) : Calls Try.prog 76 #[.bool b] w fun e w' => e = .returned (.int .i64 (if b then 1 else 0)) ∧ w' = w := by
  cases b
  · go_enter Try.func76, Try.ntmps76
    go_wp2_with fail
    go_ret
    exact ⟨rfl, rfl⟩
  · go_enter Try.func76, Try.ntmps76
    go_wp2_with fail
    go_ret
    exact ⟨rfl, rfl⟩
end Go.Proofs.Ytiehcmdhfeeomaa
