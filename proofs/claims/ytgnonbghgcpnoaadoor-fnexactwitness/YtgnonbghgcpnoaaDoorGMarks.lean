/- The law's marks: their texts. -/
import Derived.Test.YtgnonbghgcpnoaaDoorGBase
import Derived.Lib.ItoaNum
import Derived.Lib.ItoaLen
namespace Go.Proofs.YtgnonbghgcpnoaaDoor.G
open Go.ChangeShapes Go.WideShapes Go.ChangeAt Go.RowKit
set_option linter.unusedVariables false

theorem conv1 (n : Int) (W : World) (b : Nat) (hc : W.cell? ⟨b, 0, none⟩ = some (.int .u8 n)) :
    (convert 82 9 (.slice (some ⟨b, 0, none⟩) 1 1)).run Tryd.prog W = .ok (.string ⟨#[UInt8.ofNat n.toNat]⟩) W := by
  rw [run_convert_bytes_string W 82 9 5 _ 1 1 Tryd.underlying82 Tryd.underlying5 Tryd.underlying9]
  rw [run_bytesToString W ⟨b, 0, none⟩ 1 1 [n] (run_loadCells_list W ⟨b, 0, none⟩ [.int .u8 n] (fun j v hv => by
    cases j with
    | zero => simp at hv; subst hv; simpa [Addr.add] using hc
    | succ j => simp at hv))]
  rfl
theorem ret_str {a b : ByteArray} (h : a = b) : Ending.returned (.string a) = .returned (.string b) := by rw [h]
theorem quo10 (n : Int) (h0 : 0 ≤ n) (h1 : n ≤ 9223372036854775807) : IntKind.i64.wrap (n.tdiv 10) = n / 10 := by
  rw [Int.tdiv_eq_ediv_of_nonneg h0, wrap_small _ (by omega) (by omega)]
theorem rem10 (n : Int) (h0 : 0 ≤ n) : IntKind.u8.wrap (IntKind.i64.wrap (48 + n.tmod 10)) = 48 + n % 10 := by
  rw [Int.tmod_eq_emod_of_nonneg h0, wrap_small _ (by omega) (by omega), IntKind.wrap_u8]; omega
/-- A mark's text. -/
def mkT (k : Nat) : ByteArray := ⟨(109 :: Lib.decDigits k).toArray⟩
theorem digits_len20 (k : Nat) (h : (k : Int) ≤ 4611686018427387904) : (Lib.decDigits k).length ≤ 20 := by
  rw [Lib.decDigits_length]; exact Lib.nDigits_le20 k (by omega)
theorem rem10' (n : Nat) : IntKind.u8.wrap (IntKind.i64.wrap (48 + (n : Int).tmod 10)) = 48 + (n : Int) % 10 := rem10 n (by omega)

set_option maxHeartbeats 1000000 in
theorem mark_text (K : Nat) (w : World) (h0 : 0 < K) (h1 : (K : Int) ≤ 4611686018427387904) :
    Calls Tryd.prog 29 #[.int .i64 K] w fun e w' => e = .returned (.string (mkT K)) ∧ Below w.heap.size w w' := by
  have hK := digits_len20 K h1
  go_enter Tryd.func29, Tryd.ntmps29
  go_wp2_with fail
  go_loopw [0, 3] (fun k o wr => ∃ (m : Nat) (l : List UInt8), m ≤ K ∧ k = .int .i64 m ∧ o = .string ⟨l.toArray⟩ ∧ l.length ≤ 20 ∧ Below w.heap.size w wr ∧ Hid ((m = 0 ∧ l = Lib.decDigits K) ∨ (0 < m ∧ Lib.decDigits m ++ l = Lib.decDigits K))) (fun k _ _ => (intOf k).toNat)
  case atStart => exact ⟨K, [], Nat.le_refl _, rfl, rfl, by simp, Below.refl _ _, .inr ⟨h0, by simp⟩⟩
  case round =>
    rename_i wr
    obtain ⟨m, l, hm, rfl, rfl, hl, hb, HD⟩ := hrel
    by_cases hp : 0 < m
    · have HE : Lib.decDigits m ++ l = Lib.decDigits K := by
        rcases HD.out with ⟨h, _⟩ | ⟨_, h⟩
        · omega
        · exact h
      have HF : Hid ((m / 10 = 0 ∧ (UInt8.ofNat (48 + m % 10) :: l) = Lib.decDigits K) ∨ (0 < m / 10 ∧ Lib.decDigits (m / 10) ++ (UInt8.ofNat (48 + m % 10) :: l) = Lib.decDigits K)) := by
        unfold Hid
        rw [Lib.decDigits.eq_def m] at HE
        split at HE
        · rename_i hs
          left
          refine ⟨by omega, ?_⟩
          rw [← HE, show m % 10 = m by omega]; rfl
        · right
          refine ⟨by omega, ?_⟩
          rw [← HE]; simp
      have hl2 : (UInt8.ofNat (48 + m % 10) :: l).length ≤ 20 := by
        rcases HF.out with ⟨_, h⟩ | ⟨_, h⟩
        · rw [h]; exact hK
        · have := congrArg List.length h
          rw [List.length_append] at this
          omega
      have hcv := conv1 (48 + (m : Int) % 10)
      have HS : Hid ((⟨#[UInt8.ofNat (48 + (m : Int) % 10).toNat]⟩ : ByteArray) ++ ⟨l.toArray⟩ = ⟨(UInt8.ofNat (48 + m % 10) :: l).toArray⟩) := by
        unfold Hid
        rw [show (48 + (m : Int) % 10).toNat = 48 + m % 10 by omega]
        apply ByteArray.ext
        simp
      have hs1 : (⟨#[UInt8.ofNat (48 + (m : Int) % 10).toNat]⟩ : ByteArray).size = 1 := rfl
      have hs2 : (⟨l.toArray⟩ : ByteArray).size = l.length := by simp [ByteArray.size]
      have hno : ¬ (9223372036854775807 < (⟨#[UInt8.ofNat (48 + (m : Int) % 10).toNat]⟩ : ByteArray).size + (⟨l.toArray⟩ : ByteArray).size) := by omega
      clear HE HD hs1 hs2 hK
      generalize (⟨#[UInt8.ofNat (48 + (m : Int) % 10).toNat]⟩ : ByteArray) = D at *
      generalize (⟨l.toArray⟩ : ByteArray) = O at *
      go_wp2_with fail
      exact ⟨⟨m / 10, _, by omega, by go_num, by rw [HS.out], hl2, hb.alloc hb.size _, HF⟩, by simp [intOf]; omega⟩
    · have HE : Hid ((⟨#[109]⟩ : ByteArray) ++ ⟨l.toArray⟩ = mkT K) := by
        unfold Hid mkT
        rcases HD.out with ⟨_, h⟩ | ⟨h, _⟩
        · rw [h]; apply ByteArray.ext; simp
        · omega
      have hs2 : (⟨l.toArray⟩ : ByteArray).size = l.length := by simp [ByteArray.size]
      have hs1 : (⟨#[109]⟩ : ByteArray).size = 1 := rfl
      have hno : ¬ (9223372036854775807 < (⟨#[109]⟩ : ByteArray).size + (⟨l.toArray⟩ : ByteArray).size) := by omega
      clear hs1 hs2 HD
      generalize (⟨l.toArray⟩ : ByteArray) = O at *
      go_wp2_with fail
      go_ret
      exact ⟨ret_str HE.out, hb⟩
theorem mark_text_int (K : Int) (w : World) (h0 : 0 < K) (h1 : K ≤ 4611686018427387904) :
    Calls Tryd.prog 29 #[.int .i64 K] w fun e w' => e = .returned (.string (mkT K.toNat)) ∧ Below w.heap.size w w' := by
  obtain ⟨n, rfl⟩ : ∃ n : Nat, K = n := ⟨K.toNat, by omega⟩
  exact mark_text n w (by omega) (by omega)
end Go.Proofs.YtgnonbghgcpnoaaDoor.G
