/- That the Go text of NameOK, on both sides, computes what a name is. -/
import Derived.Test.YtgnonbghgcpnoaaDoorNames
namespace Go.Proofs.YtgnonbghgcpnoaaDoor
open Go.ChangeShapes Go.WideShapes Go.ChangeAt Go.RowKit
set_option linter.unusedVariables false

def restB (s : ByteArray) (pos : Nat) : Bool := if pos = 0 then letB (bt s 0) && tailB s (s.size - 1) 1 else tailB s (s.size - pos) pos
theorem rest_end (s : ByteArray) (pos : Nat) (h0 : 0 < s.size) (h : ¬ pos < s.size) : restB s pos = true := by
  unfold restB; rw [if_neg (by omega)]; exact tail_end s pos h
theorem rest_let (s : ByteArray) (pos : Nat) (h : pos < s.size) (hl : letB (s[pos].toNat : Int) = true) : restB s pos = restB s (pos + 1) := by
  unfold restB
  rw [if_neg (by omega : ¬ pos + 1 = 0)]
  by_cases h0 : pos = 0
  · subst h0; rw [if_pos rfl, bt_lt h, hl]; simp
  · rw [if_neg h0, tail_step s pos h, bt_lt h, hl]; simp
theorem rest_dig (s : ByteArray) (pos : Nat) (h : pos < s.size) (h0 : pos ≠ 0) (hl : digB (s[pos].toNat : Int) = true) : restB s pos = restB s (pos + 1) := by
  unfold restB
  rw [if_neg (by omega : ¬ pos + 1 = 0), if_neg h0, tail_step s pos h, bt_lt h, hl]; simp
theorem rest_no0 (s : ByteArray) (h : 0 < s.size) (hl : letB (s[0].toNat : Int) = false) : restB s 0 = false := by
  unfold restB; rw [if_pos rfl, bt_lt h, hl]; simp
theorem rest_no (s : ByteArray) (pos : Nat) (h : pos < s.size) (hl : letB (s[pos].toNat : Int) = false) (hd : digB (s[pos].toNat : Int) = false) : restB s pos = false := by
  unfold restB
  by_cases h0 : pos = 0
  · subst h0; rw [if_pos rfl, bt_lt h, hl]; simp
  · rw [if_neg h0, tail_step s pos h, bt_lt h, hl, hd]; simp
theorem let_high (c : Int) (h : 128 ≤ c) : letB c = false := by unfold letB; simp; omega
theorem dig_high (c : Int) (h : 128 ≤ c) : digB c = false := by unfold digB; simp; omega

end Go.Proofs.YtgnonbghgcpnoaaDoor
