/- The specification's joining of words. -/
import Derived.Test.YtoaeggfnlenjkaaGreatDoorOuText
import Derived.Test.YtoaeggfnlenjkaaGreatDoorOuSpec
import Derived.Test.YtoaeggfnlenjkaaGreatDoorOuTo
namespace Go.Proofs.YtoaeggfnlenjkaaGreatDoor.G
open Go.ChangeShapes Go.WideShapes Go.ChangeAt Go.RowKit
set_option linter.unusedVariables false

set_option maxHeartbeats 1000000 in
theorem spec_cj (a : Option Addr) (c : Nat) (ss : List ByteArray) (w : World) (hr : KeRow 0 w.heap.size w a ss) (hz : sumW ss ≤ 1073741824) :
    Calls Tryz.prog 80 #[.slice a ss.length c, .string ⟨#[44]⟩] w fun e w' => e = .returned (.string (cj ss)) ∧ w' = w := by
  have HR : Hid _ := hr
  have hn := len_sumW ss
  have HZ : Hid _ := hz
  clear hr
  go_enter Tryz.func80, Tryz.ntmps80
  go_wp2_with fail
  go_loop [5, 6] (fun s i => ∃ k : Nat, k ≤ ss.length ∧ i = .int .i64 k ∧ s = .string (cjTo ss k)) (fun _ i => ss.length - (intOf i).toNat)
  case atStart => exact ⟨0, by omega, rfl, rfl⟩
  case round =>
    obtain ⟨k, hk, rfl, rfl⟩ := hrel
    by_cases hlt : k < ss.length
    · obtain ⟨b, o, ha, _, hbl, c0⟩ := KeRow.cells HR.out k hlt
      subst ha
      have hj : (cjTo ss k).size ≤ 1073741824 := by
        have h1 := cjTo_size (ss := ss) k hk
        have h2 : sumW ss = sumW (ss.take k) + sumW (ss.drop k) := by rw [← sumW_app, List.take_append_drop]
        omega
      have hg : ss[k].size + 1 ≤ sumW ss := mem_sumW (List.getElem_mem hlt)
      have hgd : ss.getD k ⟨#[]⟩ = ss[k] := by rw [List.getD_eq_getElem?_getD, List.getElem?_eq_getElem hlt]; rfl
      have h1 : (⟨#[44]⟩ : ByteArray).size = 1 := rfl
      by_cases h0 : 0 < k
      · have HF : Hid (cjTo ss (k + 1) = (cjTo ss k ++ ⟨#[44]⟩) ++ ss[k]) := by rw [Hid, cjTo, if_pos h0, hgd]
        have n1 : ¬ (9223372036854775807 < (cjTo ss k).size + (⟨#[44]⟩ : ByteArray).size) := by omega
        have n2 : ¬ (9223372036854775807 < (cjTo ss k ++ ⟨#[44]⟩).size + ss[k].size) := by rw [ByteArray.size_append]; omega
        have h0' : (0 : Int) < k := by omega
        clear hgd h1 hj hg
        go_wp2_with fail
        go_round
        case rel => exact ⟨k + 1, by omega, by go_num, by rw [HF.out]⟩
        case measure => simp [intOf]; omega
      · obtain rfl : k = 0 := by omega
        have HF : Hid (cjTo ss (0 + 1) = cjTo ss 0 ++ ss[0]) := by
          rw [Hid, show cjTo ss (0 + 1) = (if 0 < 0 then cjTo ss 0 ++ ⟨#[44]⟩ else cjTo ss 0) ++ ss.getD 0 ⟨#[]⟩ from rfl, if_neg (by omega), hgd]
        rw [Nat.add_zero] at c0
        have n2 : ¬ (9223372036854775807 < (cjTo ss 0).size + ss[0].size) := by omega
        clear hgd h1 hj hg
        go_wp2_with fail
        go_round
        case rel => exact ⟨0 + 1, by omega, by go_num, by rw [HF.out]⟩
        case measure => simp [intOf]; omega
    · obtain rfl : k = ss.length := by omega
      go_wp2_with fail
      go_ret
      exact ⟨rfl, rfl⟩
end Go.Proofs.YtoaeggfnlenjkaaGreatDoor.G
