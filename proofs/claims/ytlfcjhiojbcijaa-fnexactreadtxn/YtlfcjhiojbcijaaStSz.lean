/- What the law counts of stores. -/
import Derived.Test.YtlfcjhiojbcijaaStRows
namespace Go.Proofs.Ytlfcjhiojbcijaa.G
open Go.ChangeShapes Go.WideShapes Go.ChangeAt Go.RowKit
set_option linter.unusedVariables false

set_option maxHeartbeats 1000000 in
theorem sz_Ves (a : Option Addr) (c len : Nat) (n : Int) (w : World) (hl : len ≤ maxLen) (h0 : 0 ≤ n) (h1 : n ≤ 1048576) :
    Calls Try.prog 44 #[.slice a len c, .int .i64 n] w fun e w' => ∃ m, e = .returned (.int .i64 m) ∧ Sz n m (len ≤ 1048576) ∧ w' = w := by
  unfold maxLen at hl
  by_cases hz : n - len < 0
  · go_enter Try.func44, Try.ntmps44
    go_wp2_with fail
    go_ret
    exact ⟨-1, rfl, Sz.neg h0, rfl⟩
  · go_enter Try.func44, Try.ntmps44
    go_wp2_with fail
    go_ret
    exact ⟨_, rfl, ⟨by omega, by omega, fun _ => by omega⟩, rfl⟩
set_option maxHeartbeats 1000000 in
theorem sz_Chs (a : Option Addr) (c : Nat) (l : Chs) (n : Int) (w : World) (hr : ChRow 0 w.heap.size w a l) (hbd : ChsBd maxLen l) (h0 : 0 ≤ n) (h1 : n ≤ 1048576) :
    Calls Try.prog 18 #[.slice a l.length c, .int .i64 n] w fun e w' => ∃ m, e = .returned (.int .i64 m) ∧ Sz n m (ChsBd 1048576 l) ∧ w' = w := by
  obtain ⟨hl, ht⟩ := hbd
  unfold maxLen at hl
  by_cases hz : n - l.length < 0
  · go_enter Try.func18, Try.ntmps18
    go_wp2_with fail
    go_ret
    exact ⟨-1, rfl, Sz.neg h0, rfl⟩
  · have HR : Hid (ChRow 0 w.heap.size w a l) := hr
    have HT : Hid (∀ x ∈ l, x.length ≤ maxLen) := ht
    clear hr ht
    go_enter Try.func18, Try.ntmps18
    go_wp2_with fail
    go_loop [1, 5] (fun r i => ∃ (k : Nat) (m : Int), k ≤ l.length ∧ i = .int .i64 k ∧ r = .int .i64 m ∧ 0 ≤ m ∧ m ≤ n ∧ Hid (∀ x ∈ l.take k, x.length ≤ 1048576)) (fun _ i => l.length - (intOf i).toNat)
    case atStart => exact ⟨0, _, by omega, rfl, rfl, by omega, by omega, by simp [Hid]⟩
    case round =>
      obtain ⟨k, m, hk, rfl, rfl, hm0, hm1, HK⟩ := hrel
      by_cases hlt : k < l.length
      · obtain ⟨b, o, a3, c3, ha, _, hbl, d0, d1, r3⟩ := ChRow.cells HR.out k hlt
        subst ha
        have HX : Hid (l[k].length ≤ maxLen) := HT.out l[k] (List.getElem_mem hlt)
        clear r3
        go_wp2_with fail
        refine (sz_Ves a3 c3 l[k].length m _ HX.out hm0 (by omega)).mono ?_
        rintro e w1 ⟨m1, rfl, hm, rfl⟩
        have HM : Hid (Sz m m1 (l[k].length ≤ 1048576)) := hm
        clear hm d0 d1
        by_cases hneg : m1 < 0
        · go_wp2_with fail
          go_ret
          exact ⟨-1, rfl, Sz.neg h0, rfl⟩
        · go_wp2_with fail
          go_round
          case rel => exact ⟨k + 1, m1, by omega, by go_num, rfl, by omega, by have := HM.out.1; omega, all_take hlt HK.out (HM.out.2.2 (by omega))⟩
          case measure => simp [intOf]; omega
      · go_wp2_with fail
        go_ret
        rw [List.take_of_length_le (by omega)] at HK
        exact ⟨m, rfl, ⟨hm1, by omega, fun _ => ⟨by omega, HK.out⟩⟩, rfl⟩
set_option maxHeartbeats 1000000 in
theorem sz_store (a : Option Addr) (c : Nat) (l : Chs) (now n : Int) (w : World) (hr : ChRow 0 w.heap.size w a l) (hbd : ChsBd maxLen l) (h0 : 0 ≤ n) (h1 : n ≤ 1048576) :
    Calls Try.prog 5 #[.agg #[.slice a l.length c, .int .i64 now], .int .i64 n] w fun e w' => ∃ m, e = .returned (.int .i64 m) ∧ Sz n m (ChsBd 1048576 l) ∧ Below w.heap.size w w' := by
  have B0 : Below w.heap.size w (w.alloc (.cells #[.slice a l.length c, .int .i64 now] 24)) := (Below.refl _ _).alloc (Nat.le_refl _) _
  have R3 : Hid (ChRow 0 _ _ a l) := ChRow.up hr B0
  have HB : Hid _ := B0
  have HD : Hid _ := hbd
  clear hr B0 hbd
  go_enter Try.func5, Try.ntmps5
  go_wp2_with fail
  refine (sz_Chs a c l _ _ R3.out HD.out (by omega) (by omega)).mono ?_
  rintro e w3 ⟨m3, rfl, hm, rfl⟩
  have M3 : Hid _ := hm
  clear hm
  by_cases n3 : m3 < 0
  · go_wp2_with fail
    go_ret
    exact ⟨-1, rfl, Sz.neg h0, HB.out⟩
  go_wp2_with fail
  go_ret
  exact ⟨m3, rfl, M3.out, HB.out⟩
end Go.Proofs.Ytlfcjhiojbcijaa.G
