/- The code of a word, and that the Go texts of CodeOf, on both sides, compute it. -/
import Derived.Test.YtjbogjoadcikhagDoorWords
namespace Go.Proofs.YtjbogjoadcikhagDoor
open Go.ChangeShapes Go.WideShapes Go.ChangeAt Go.RowKit
set_option linter.unusedVariables false

def codeFrom (l : List UInt8) : Nat → Nat → Int
  | 0, _ => -1
  | f + 1, i => if (wordS i).toList = l then i else codeFrom l f (i + 1)
theorem codeFrom_hit (l : List UInt8) (k : Nat) (hk : k < 20) (h : (wordS k).toList = l) : codeFrom l (20 - k) k = k := by
  obtain ⟨n, hn⟩ : ∃ n, 20 - k = n + 1 := ⟨20 - k - 1, by omega⟩
  rw [hn]; unfold codeFrom; rw [if_pos h]
theorem codeFrom_miss (l : List UInt8) (k : Nat) (hk : k < 20) (h : ¬ (wordS k).toList = l) : codeFrom l (20 - k) k = codeFrom l (20 - (k + 1)) (k + 1) := by
  obtain ⟨n, hn⟩ : ∃ n, 20 - k = n + 1 := ⟨20 - k - 1, by omega⟩
  rw [hn, show 20 - (k + 1) = n by omega]; rw [codeFrom, if_neg h]
theorem codeFrom_end (l : List UInt8) (k : Nat) (hk : ¬ k < 20) : codeFrom l (20 - k) k = -1 := by
  rw [show 20 - k = 0 by omega]; rfl
def codeN (s : ByteArray) : Int := codeFrom s.toList 20 0
theorem ret_int {k : IntKind} {a b : Int} (h : a = b) : Ending.returned (.int k a) = .returned (.int k b) := by rw [h]

set_option maxHeartbeats 1000000 in
theorem spec_code (s : ByteArray) (w : World) : Calls Tryd.prog 8 #[.string s] w fun e w' => e = .returned (.int .i64 (codeN s)) ∧ Below w.heap.size w w' := by
  go_enter Tryd.func8, Tryd.ntmps8
  go_wp2
  go_loopw [3] (fun i w' => ∃ k : Nat, k ≤ 20 ∧ i = .int .i64 k ∧ Below w.heap.size w w' ∧ Hid (codeN s = codeFrom s.toList (20 - k) k)) (fun i _ => 20 - (intOf i).toNat)
  case atStart => exact ⟨0, by omega, rfl, Below.refl _ _, rfl⟩
  case round =>
    obtain ⟨k, hk, rfl, hb, HK⟩ := hrel
    by_cases hlt : k < 20
    · by_cases hw : (wordS k).toList = s.toList
      · have hw' : ((wordS k).toList == s.toList) = true := by rw [hw]; simp
        have HF : Hid ((k : Int) = codeN s) := by rw [Hid, HK.out, codeFrom_hit _ k hlt hw]
        clear hw
        go_wp2_with (go_at_call 6; refine (spec_word _ _).mono ?_; rintro e w1 ⟨rfl, hb1⟩)
        go_ret
        exact ⟨ret_int HF.out, hb.trans (hb1.mono hb.size)⟩
      · have hw' : ((wordS k).toList == s.toList) = false := by simpa using hw
        have HF : Hid (codeN s = codeFrom s.toList (20 - (k + 1)) (k + 1)) := by rw [Hid, HK.out, codeFrom_miss _ k hlt hw]
        clear hw
        go_wp2_with (go_at_call 6; refine (spec_word _ _).mono ?_; rintro e w1 ⟨rfl, hb1⟩)
        go_roundw
        case rel => exact ⟨k + 1, by omega, by go_num, hb.trans (hb1.mono hb.size), HF⟩
        case measure => simp [intOf]; omega
    · have HF : Hid (-1 = codeN s) := by rw [Hid, HK.out, codeFrom_end _ k hlt]
      go_wp2_with fail
      go_ret
      exact ⟨ret_int HF.out, hb⟩
end Go.Proofs.YtjbogjoadcikhagDoor
