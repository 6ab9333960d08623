/- The Go text of the program's own CodeOf computes the code of a word. -/
import Derived.Test.YtjbogjoadcikhagDoorCodes
namespace Go.Proofs.YtjbogjoadcikhagDoor
open Go.ChangeShapes Go.WideShapes Go.ChangeAt Go.RowKit
set_option linter.unusedVariables false

def wordsV : Array Value := (wordsL.map fun l => Value.string ⟨l.toArray⟩).toArray
/-- The table's own block holds the words. -/
def TabH (w : World) : Prop := ∃ t fr, w.heap[0]? = some (.cells wordsV t fr)
theorem TabH.tab {w : World} (h : TabH w) : Tab w := by
  obtain ⟨t, fr, h⟩ := h
  intro i
  rw [cell_of_row w 0 i _ t fr h]
  simp [wordsV]
theorem wordsV_at (k : Nat) (h : k < 20) : wordsV[k]? = some (.string (wordS k)) := by
  unfold wordS wordsV
  rw [if_neg (by omega), List.getD_eq_getElem?_getD, Int.toNat_natCast]
  rw [List.getElem?_toArray, List.getElem?_map, List.getElem?_eq_getElem (by simpa [wordsL] using h)]
  rfl
theorem run_index_words (k : Nat) (h : k < 20) (w : World) : (Instr.index 32 (.agg wordsV) (.int .i64 k)).run Tryd.prog w = .ok (.string (wordS k)) w := by
  have e : k = 0 ∨ k = 1 ∨ k = 2 ∨ k = 3 ∨ k = 4 ∨ k = 5 ∨ k = 6 ∨ k = 7 ∨ k = 8 ∨ k = 9 ∨ k = 10 ∨ k = 11 ∨ k = 12 ∨ k = 13 ∨ k = 14 ∨ k = 15 ∨ k = 16 ∨ k = 17 ∨ k = 18 ∨ k = 19 := by omega
  rcases e with rfl | rfl | rfl | rfl | rfl | rfl | rfl | rfl | rfl | rfl | rfl | rfl | rfl | rfl | rfl | rfl | rfl | rfl | rfl | rfl
  all_goals (clear h; show Sem.run _ _ _ = _; kernel_rfl)
set_option maxHeartbeats 1000000 in
theorem impl_code (s : ByteArray) (w : World) (ht : TabH w) : Calls Tryd.prog 9 #[.string s] w fun e w' => e = .returned (.int .i64 (codeN s)) ∧ w' = w := by
  obtain ⟨t, fr, hg⟩ := ht
  go_enter Tryd.func9, Tryd.ntmps9
  go_wp2_with (refine wpList_load_row rfl 32 _ rfl 0 rfl t wordsV fr _ hg Tryd.underlying32 rfl (by kernel_rfl) ?_)
  clear hg
  go_loop [6] (fun i => ∃ k : Nat, k ≤ 20 ∧ i = .int .i64 k ∧ Hid (codeN s = codeFrom s.toList (20 - k) k)) (fun i => 20 - (intOf i).toNat)
  case atStart => exact ⟨0, by omega, rfl, rfl⟩
  case round =>
    obtain ⟨k, hk, rfl, HK⟩ := hrel
    by_cases hlt : k < 20
    · have hix := run_index_words k hlt
      by_cases hw : (wordS k).toList = s.toList
      · have hw' : ((wordS k).toList == s.toList) = true := by rw [hw]; simp
        have HF : Hid ((k : Int) = codeN s) := by rw [Hid, HK.out, codeFrom_hit _ k hlt hw]
        clear hw
        go_wp2_with fail
        go_ret
        exact ⟨ret_int HF.out, rfl⟩
      · have hw' : ((wordS k).toList == s.toList) = false := by simpa using hw
        have HF : Hid (codeN s = codeFrom s.toList (20 - (k + 1)) (k + 1)) := by rw [Hid, HK.out, codeFrom_miss _ k hlt hw]
        clear hw
        go_wp2_with fail
        go_round
        case rel => exact ⟨k + 1, by omega, by go_num, HF⟩
        case measure => simp [intOf]; omega
    · have HF : Hid (-1 = codeN s) := by rw [Hid, HK.out, codeFrom_end _ k hlt]
      go_wp2_with fail
      go_ret
      exact ⟨ret_int HF.out, rfl⟩
end Go.Proofs.YtjbogjoadcikhagDoor
