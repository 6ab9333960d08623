/- ReadAt, ChangedSince, SizeOf: what the specification computes. -/
import Derived.Test.YtlfcjhiojbcijaaStRead
namespace Go.Proofs.Ytlfcjhiojbcijaa.G
open Go.ChangeShapes Go.WideShapes Go.ChangeAt Go.RowKit
set_option linter.unusedVariables false

theorem keyB_in (key : Int) : inS key 0 15 = keyS key := by unfold inS keyS; rw [Bool.eq_iff_iff]; simp; omega
set_option maxHeartbeats 1000000 in
theorem spec_read (a : Option Addr) (c : Nat) (l : Chs) (now ts : Int) (k : Nat) (w : World) (hr : ChRow 0 w.heap.size w a l) (hbd : ChsBd 1048576 l) (hlt : k < l.length) :
    Calls Try.prog 49 #[.agg #[.slice a l.length c, .int .i64 now], .int .i64 k, .int .i64 ts] w fun e w' => e = .returned (.int .i64 (readV l[k] ts)) ∧ Below w.heap.size w w' := by
  have B0 : Hid (Below w.heap.size w (w.alloc (.cells #[.slice a l.length c, .int .i64 now] 38))) := (Below.refl _ _).alloc (Nat.le_refl _) _
  have hX : l[k].length ≤ 1048576 := hbd.2 l[k] (List.getElem_mem hlt)
  have hl := hbd.1
  obtain ⟨b, o, a3, c3, ha, _, hbl, d0, _, r3⟩ := ChRow.cells (ChRow.up hr B0.out) k hlt
  subst ha
  have R3 : Hid _ := r3
  clear hr hbd r3
  have hlt' : (k : Int) < l.length := by omega
  go_enter Try.func49, Try.ntmps49
  go_wp2_with fail
  go_loop [7, 8] (fun v i => ∃ (m : Nat) (z : Int), m ≤ l[k].length ∧ i = .int .i64 m ∧ v = .int .i64 z ∧ Hid (z = readV (l[k].take m) ts)) (fun _ i => l[k].length - (intOf i).toNat)
  case atStart => exact ⟨0, 0, by omega, rfl, rfl, rfl⟩
  case round =>
    obtain ⟨m, z, hm, rfl, rfl, HZ⟩ := hrel
    by_cases hmt : m < l[k].length
    · obtain ⟨b2, o2, ha2, _, hbl2, f0, f1⟩ := VeRow.cells R3.out m hmt
      subst ha2
      have hmt' : (m : Int) < l[k].length := by omega
      have HT : Hid _ := readV_take (ts := ts) hmt
      by_cases hc : l[k][m].ts ≤ ts
      · have HZ2 : Hid (l[k][m].v = readV (l[k].take (m + 1)) ts) := by rw [Hid, HT.out, if_pos hc]
        clear HT
        go_wp2_with fail
        go_round
        case rel => exact ⟨m + 1, _, by omega, by go_num, rfl, HZ2⟩
        case measure => simp [intOf]; omega
      · have HZ2 : Hid (z = readV (l[k].take (m + 1)) ts) := by rw [Hid, HT.out, if_neg hc]; exact HZ.out
        clear HT
        go_wp2_with fail
        go_round
        case rel => exact ⟨m + 1, _, by omega, by go_num, rfl, HZ2⟩
        case measure => simp [intOf]; omega
    · have HZ2 : Hid (z = readV l[k] ts) := by have := HZ.out; rw [List.take_of_length_le (by omega)] at this; exact this
      go_wp2_with fail
      go_ret
      exact ⟨ret_i HZ2.out, B0.out⟩
set_option maxHeartbeats 1000000 in
theorem spec_changed (a : Option Addr) (c : Nat) (l : Chs) (now ts : Int) (k : Nat) (w : World) (hr : ChRow 0 w.heap.size w a l) (hbd : ChsBd 1048576 l) (hlt : k < l.length) :
    Calls Try.prog 60 #[.agg #[.slice a l.length c, .int .i64 now], .int .i64 k, .int .i64 ts] w fun e w' => e = .returned (.bool (chgB l[k] ts)) ∧ Below w.heap.size w w' := by
  have B0 : Hid (Below w.heap.size w (w.alloc (.cells #[.slice a l.length c, .int .i64 now] 38))) := (Below.refl _ _).alloc (Nat.le_refl _) _
  have hX : l[k].length ≤ 1048576 := hbd.2 l[k] (List.getElem_mem hlt)
  have hl := hbd.1
  obtain ⟨b, o, a3, c3, ha, _, hbl, d0, _, r3⟩ := ChRow.cells (ChRow.up hr B0.out) k hlt
  subst ha
  have R3 : Hid _ := r3
  clear hr hbd r3
  have hlt' : (k : Int) < l.length := by omega
  by_cases h0 : l[k].length = 0
  · have HN : Hid (false = chgB l[k] ts) := by simp [Hid, chgB, h0]
    have h0' : ¬ (0 : Int) < l[k].length := by omega
    clear h0
    go_enter Try.func60, Try.ntmps60
    go_wp2_with fail
    go_ret
    exact ⟨ret_b HN.out, B0.out⟩
  · obtain ⟨n, hn⟩ : ∃ n, l[k].length = n + 1 := ⟨l[k].length - 1, by omega⟩
    have hnl : n < l[k].length := by omega
    obtain ⟨b2, o2, ha2, _, hbl2, f0, f1⟩ := VeRow.cells R3.out n hnl
    subst ha2
    have HN : Hid (decide (ts < (l[k][n]'hnl).ts) = chgB l[k] ts) := by
      unfold Hid chgB
      rw [show l[k].length - 1 = n by omega, tsAt_eq (by omega), show decide (0 < l[k].length) = true by simpa using (by omega)]
      simp
    have h0' : (0 : Int) < l[k].length := by omega
    have e1 : (l[k].length : Int) - 1 = n := by omega
    have e2 : (n : Int) < l[k].length := by omega
    clear h0 hn
    go_enter Try.func60, Try.ntmps60
    go_wp2_with fail
    go_ret
    exact ⟨ret_b HN.out, B0.out⟩
end Go.Proofs.Ytlfcjhiojbcijaa.G
