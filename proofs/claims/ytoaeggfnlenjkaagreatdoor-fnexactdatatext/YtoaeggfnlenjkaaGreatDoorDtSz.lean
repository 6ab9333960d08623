/- What the law counts of a list of texts: all bytes together. -/
import Derived.Test.YtoaeggfnlenjkaaGreatDoorOuSz
import Derived.Test.YtoaeggfnlenjkaaGreatDoorOuText
namespace Go.Proofs.YtoaeggfnlenjkaaGreatDoor.G
open Go.ChangeShapes Go.WideShapes Go.ChangeAt Go.RowKit
set_option linter.unusedVariables false

theorem sumW_take {l : List ByteArray} {k : Nat} (h : k < l.length) : sumW (l.take (k + 1)) = sumW (l.take k) + l[k].size + 1 := by
  rw [List.take_succ_eq_append_getElem h, sumW_app, sumW_cons, sumW_nil]; omega
set_option maxHeartbeats 1000000 in
theorem sz_texts (a : Option Addr) (c : Nat) (l : List ByteArray) (n : Int) (w : World) (hr : KeRow 0 w.heap.size w a l) (hl : l.length ≤ maxLen) (ht : ∀ x ∈ l, x.size ≤ maxLen) (h0 : 0 ≤ n) (h1 : n ≤ 1048576) :
    Calls Tryz.prog 19 #[.slice a l.length c, .int .i64 n] w fun e w' => ∃ m, e = .returned (.int .i64 m) ∧ Sz n m (sumW l ≤ 1048576) ∧ w' = w := by
  unfold maxLen at hl
  by_cases hz : n - l.length < 0
  · go_enter Tryz.func19, Tryz.ntmps19
    go_wp2_with fail
    go_ret
    exact ⟨-1, rfl, Sz.neg h0, rfl⟩
  · have HR : Hid (KeRow 0 w.heap.size w a l) := hr
    have HT : Hid (∀ x ∈ l, x.size ≤ maxLen) := ht
    clear hr ht
    go_enter Tryz.func19, Tryz.ntmps19
    go_wp2_with fail
    go_loop [1, 5] (fun r i => ∃ (k : Nat) (m : Int), k ≤ l.length ∧ i = .int .i64 k ∧ r = .int .i64 m ∧ 0 ≤ m ∧ m ≤ n ∧ Hid (m + sumW (l.take k) + l.length = n + k)) (fun _ i => l.length - (intOf i).toNat)
    case atStart => exact ⟨0, _, by omega, rfl, rfl, by omega, by omega, by rw [Hid, List.take_zero, sumW_nil]; omega⟩
    case round =>
      obtain ⟨k, m, hk, rfl, rfl, hm0, hm1, HK⟩ := hrel
      by_cases hlt : k < l.length
      · obtain ⟨b, o, ha, _, hbl, c0⟩ := KeRow.cells HR.out k hlt
        subst ha
        have hx : l[k].size ≤ maxLen := HT.out l[k] (List.getElem_mem hlt)
        unfold maxLen at hx
        by_cases hneg : m - l[k].size < 0
        · go_wp2_with fail
          go_ret
          exact ⟨-1, rfl, Sz.neg h0, rfl⟩
        · go_wp2_with fail
          go_round
          case rel => exact ⟨k + 1, m - l[k].size, by omega, by go_num, by go_num, by omega, by omega, by have := HK.out; rw [Hid, sumW_take hlt]; omega⟩
          case measure => simp [intOf]; omega
      · go_wp2_with fail
        go_ret
        rw [List.take_of_length_le (by omega)] at HK
        exact ⟨m, rfl, ⟨hm1, by omega, fun _ => by have := HK.out; omega⟩, rfl⟩
end Go.Proofs.YtoaeggfnlenjkaaGreatDoor.G
