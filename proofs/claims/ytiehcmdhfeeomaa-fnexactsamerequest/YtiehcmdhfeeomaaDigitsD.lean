/- The decimal digits of a number, and that the specification's text of them computes them. -/
import Derived.Test.YtiehcmdhfeeomaaInts
import Derived.Deep.RegionWith
import Derived.Lib.ItoaNum
import Derived.Lib.ItoaLen
namespace Go.Proofs.Ytiehcmdhfeeomaa
open Go.ChangeShapes Go.WideShapes Go.ChangeAt Go.RowKit
set_option linter.unusedVariables false

theorem conv1 (n : Int) (W : World) (b : Nat) (hc : W.cell? ⟨b, 0, none⟩ = some (.int .u8 n)) :
    (convert 140 9 (.slice (some ⟨b, 0, none⟩) 1 1)).run Try.prog W = .ok (.string ⟨#[UInt8.ofNat n.toNat]⟩) W := by
  rw [run_convert_bytes_string W 140 9 5 _ 1 1 Try.underlying140 Try.underlying5 Try.underlying9]
  rw [run_bytesToString W ⟨b, 0, none⟩ 1 1 [n] (run_loadCells_list W ⟨b, 0, none⟩ [.int .u8 n] (fun j v hv => by
    cases j with
    | zero => simp at hv; subst hv; simpa [Addr.add] using hc
    | succ j => simp at hv))]
  rfl
theorem ret_str {a b : ByteArray} (h : a = b) : Ending.returned (.string a) = .returned (.string b) := by rw [h]

set_option maxHeartbeats 1000000 in
theorem digs_small (n : Int) (w : World) (h0 : 0 ≤ n) (h1 : n < 10) :
    Calls Try.prog 67 #[.int .i64 n] w fun e w' => e = .returned (.string ⟨(Lib.decDigits n.toNat).toArray⟩) ∧ Below w.heap.size w w' := by
  have g0 : (n == -9223372036854775808) = false := by rw [beq_eq_false_iff_ne]; omega
  have HF : Hid ((⟨#[UInt8.ofNat (48 + n).toNat]⟩ : ByteArray) = ⟨(Lib.decDigits n.toNat).toArray⟩) := by
    unfold Hid; rw [Lib.decDigits_one (by omega), show (48 + n).toNat = 48 + n.toNat by omega]
  have hcv := conv1 (48 + n)
  go_enter Try.func67, Try.ntmps67
  go_wp2_with fail
  go_ret
  exact ⟨ret_str HF.out, (Below.refl _ _).alloc (Nat.le_refl _) _⟩

theorem quo10 (n : Int) (h0 : 0 ≤ n) (h1 : n ≤ 9223372036854775807) : IntKind.i64.wrap (n.tdiv 10) = n / 10 := by
  rw [Int.tdiv_eq_ediv_of_nonneg h0, wrap_small _ (by omega) (by omega)]
theorem rem10 (n : Int) (h0 : 0 ≤ n) : IntKind.u8.wrap (IntKind.i64.wrap (48 + n.tmod 10)) = 48 + n % 10 := by
  rw [Int.tmod_eq_emod_of_nonneg h0, wrap_small _ (by omega) (by omega), IntKind.wrap_u8]; omega
theorem digs_step (n : Int) (h0 : 0 ≤ n) (hn : ¬ n < 10) : (⟨(Lib.decDigits (n / 10).toNat).toArray⟩ : ByteArray) ++ (⟨#[UInt8.ofNat (48 + n % 10).toNat]⟩ : ByteArray) = ⟨(Lib.decDigits n.toNat).toArray⟩ := by
  rw [Lib.decDigits.eq_def n.toNat, dif_neg (by omega), show n.toNat / 10 = (n / 10).toNat by omega, show (48 + n % 10).toNat = 48 + n.toNat % 10 by omega]
  generalize Lib.decDigits (n / 10).toNat = D
  apply ByteArray.ext
  simp
theorem digs_len (n : Int) (h1 : n ≤ 9223372036854775807) : (⟨(Lib.decDigits n.toNat).toArray⟩ : ByteArray).size ≤ 20 := by
  have := Lib.nDigits_le20 n.toNat (by omega)
  rw [← Lib.decDigits_length] at this
  exact this

set_option maxHeartbeats 400000 in
theorem digs_nat (k : Nat) : ∀ (n : Int) (w : World), n ≤ k → 0 ≤ n → n ≤ 9223372036854775807 →
    Calls Try.prog 67 #[.int .i64 n] w fun e w' => e = .returned (.string ⟨(Lib.decDigits n.toNat).toArray⟩) ∧ Below w.heap.size w w' := by
  induction k with
  | zero =>
    intro n w hk h0 h1
    exact digs_small n w h0 (by omega)
  | succ k ih =>
    intro n w hk h0 h1
    by_cases hn : n < 10
    · exact digs_small n w h0 hn
    have g0 : (n == -9223372036854775808) = false := by rw [beq_eq_false_iff_ne]; omega
    have HS : Hid _ := digs_step n h0 hn
    have hln := digs_len (n / 10) (by omega)
    have hcv := conv1 (48 + n % 10)
    have e1 := quo10 n h0 h1
    have e2 := rem10 n h0
    have HI : Hid (∀ W : World, Calls Try.prog 67 #[.int .i64 (n / 10)] W fun e w' => e = .returned (.string ⟨(Lib.decDigits (n / 10).toNat).toArray⟩) ∧ Below W.heap.size W w') := fun W => ih (n / 10) W (by omega) (by omega) (by omega)
    clear ih hk
    have hS1 : (⟨#[UInt8.ofNat (48 + n % 10).toNat]⟩ : ByteArray).size = 1 := rfl
    generalize (⟨(Lib.decDigits (n / 10).toNat).toArray⟩ : ByteArray) = S at *
    generalize (⟨#[UInt8.ofNat (48 + n % 10).toNat]⟩ : ByteArray) = T at *
    have hno : ¬ (9223372036854775807 < S.size + T.size) := by omega
    clear hS1 hln
    go_enter Try.func67, Try.ntmps67
    go_wp2_with fail
    go_region_with (go_at_call 67; refine (HI.out _).mono ?_; rintro e w1 ⟨rfl, hb1⟩; obtain ⟨hc1, hf1⟩ := bcell hb1)
    all_goals
      have q : Below w.heap.size w w1 := by
        have q1 := hb1.size
        first
          | exact ((Below.refl _ _).drew).trans (hb1.mono (Nat.le_refl _))
          | exact (((Below.refl _ _).alloc (Nat.le_refl _) _).drew).trans (hb1.mono (by simp))
      go_wp2_with fail
      go_ret
      refine ⟨ret_str HS.out, ?_⟩
      first
        | exact q
        | exact q.alloc q.size _

set_option maxHeartbeats 1000000 in
theorem digs_any (n : Int) (w : World) (h0 : -9223372036854775807 ≤ n) (h1 : n ≤ 9223372036854775807) :
    Calls Try.prog 67 #[.int .i64 n] w fun e w' => e = .returned (.string ⟨(Lib.itoa n).toArray⟩) ∧ Below w.heap.size w w' := by
  by_cases hn : n < 0
  · have g0 : (n == -9223372036854775808) = false := by rw [beq_eq_false_iff_ne]; omega
    have HF : Hid ((⟨#[45]⟩ : ByteArray) ++ ⟨(Lib.decDigits (-n).toNat).toArray⟩ = ⟨(Lib.itoa n).toArray⟩) := by
      unfold Hid Lib.itoa; rw [if_pos hn, show n.natAbs = (-n).toNat by omega]
      apply ByteArray.ext
      simp
    have hln := digs_len (-n) (by omega)
    have HI : Hid (∀ W : World, Calls Try.prog 67 #[.int .i64 (-n)] W fun e w' => e = .returned (.string ⟨(Lib.decDigits (-n).toNat).toArray⟩) ∧ Below W.heap.size W w') := fun W => digs_nat (-n).toNat (-n) W (by omega) (by omega) (by omega)
    generalize (⟨(Lib.decDigits (-n).toNat).toArray⟩ : ByteArray) = S at *
    have hno : ¬ (9223372036854775807 < (⟨#[45]⟩ : ByteArray).size + S.size) := by have : (⟨#[45]⟩ : ByteArray).size = 1 := rfl; omega
    go_enter Try.func67, Try.ntmps67
    go_wp2_with (go_at_call 67; refine (HI.out _).mono ?_; rintro e w1 ⟨rfl, hb1⟩)
    go_ret
    exact ⟨ret_str HF.out, hb1⟩
  · refine (digs_nat n.toNat n w (by omega) (by omega) h1).mono ?_
    rintro e w1 ⟨rfl, hb⟩
    exact ⟨ret_str (by unfold Lib.itoa; rw [if_neg hn]), hb⟩
end Go.Proofs.Ytiehcmdhfeeomaa
