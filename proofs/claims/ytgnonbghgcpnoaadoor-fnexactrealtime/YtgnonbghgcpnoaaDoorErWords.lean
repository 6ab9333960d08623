/- The words of the codes, and that the Go texts of CodeWord, on both sides, hand them out. -/
import Derived.Test.YtgnonbghgcpnoaaDoorGBase
import Derived.WalkKit
import Derived.ProofKit
import Derived.OpenShut
import Derived.ShutString
namespace Go.Proofs.YtgnonbghgcpnoaaDoor.Er
open Go.ChangeShapes Go.WideShapes Go.ChangeAt Go.RowKit
set_option linter.unusedVariables false

def wordsL : List (List UInt8) := [[111, 107], [98, 97, 100], [108, 111, 110, 103], [102, 111, 114, 109], [114, 97, 110, 103, 101], [110, 111, 110, 101], [109, 97, 110, 121], [102, 117, 108, 108], [100, 101, 101, 112], [102, 105, 101, 108, 100], [97, 114, 103], [108, 101, 97, 102], [102, 114, 97, 103, 109, 101, 110, 116], [99, 121, 99, 108, 101], [118, 97, 114, 105, 97, 98, 108, 101], [109, 101, 114, 103, 101], [99, 111, 110, 102, 108, 105, 99, 116], [99, 97, 110, 99, 101, 108, 108, 101, 100], [115, 112, 101, 110, 116], [116, 119, 105, 99, 101]]
def wordS (c : Int) : ByteArray := if c < 0 then ⟨#[]⟩ else ⟨(wordsL.getD c.toNat []).toArray⟩
def Tab (w : World) : Prop := ∀ i : Nat, w.cell? ⟨0, i, none⟩ = (wordsL.map fun l => Value.string ⟨l.toArray⟩)[i]?

theorem ret_str {a b : ByteArray} (h : a = b) : Ending.returned (.string a) = .returned (.string b) := by rw [h]
theorem twenty (c : Int) (h0 : 0 ≤ c) (h : c < 20) : c = 0 ∨ c = 1 ∨ c = 2 ∨ c = 3 ∨ c = 4 ∨ c = 5 ∨ c = 6 ∨ c = 7 ∨ c = 8 ∨ c = 9 ∨ c = 10 ∨ c = 11 ∨ c = 12 ∨ c = 13 ∨ c = 14 ∨ c = 15 ∨ c = 16 ∨ c = 17 ∨ c = 18 ∨ c = 19 := by omega
theorem word_neg (c : Int) (h : c < 0) : wordS c = ⟨#[]⟩ := by unfold wordS; rw [if_pos h]
theorem word_big (c : Int) (h : 20 ≤ c) : wordS c = ⟨#[]⟩ := by
  have e : wordsL.getD c.toNat [] = [] := by
    rw [List.getD_eq_getElem?_getD, List.getElem?_eq_none (by simp [wordsL]; omega)]; rfl
  unfold wordS; rw [if_neg (by omega), e]

set_option maxHeartbeats 2000000 in
theorem impl_word (c : Int) (w : World) (ht : Tab w) : Calls Tryd.prog 38 #[.int .i64 c] w fun e w' => e = .returned (.string (wordS c)) ∧ w' = w := by
  by_cases h0 : c < 0
  · have H : Hid (⟨#[]⟩ = wordS c) := (word_neg c h0).symm
    go_enter Tryd.func38, Tryd.ntmps38
    go_wp2
    go_ret
    exact ⟨ret_str H.out, rfl⟩
  by_cases h1 : 20 ≤ c
  · have H : Hid (⟨#[]⟩ = wordS c) := (word_big c h1).symm
    go_enter Tryd.func38, Tryd.ntmps38
    go_wp2
    go_ret
    exact ⟨ret_str H.out, rfl⟩
  rcases twenty c (by omega) (by omega) with rfl | rfl | rfl | rfl | rfl | rfl | rfl | rfl | rfl | rfl | rfl | rfl | rfl | rfl | rfl | rfl | rfl | rfl | rfl | rfl
  · clear h0 h1
    have hc := ht 0
    simp only [wordsL, List.map_cons, List.getElem?_cons_zero] at hc
    go_enter Tryd.func38, Tryd.ntmps38
    go_wp2
    go_ret
    exact ⟨ret_str rfl, rfl⟩
  · clear h0 h1
    have hc := ht 1
    simp only [wordsL, List.map_cons, List.getElem?_cons_zero, List.getElem?_cons_succ] at hc
    go_enter Tryd.func38, Tryd.ntmps38
    go_wp2
    go_ret
    exact ⟨ret_str rfl, rfl⟩
  · clear h0 h1
    have hc := ht 2
    simp only [wordsL, List.map_cons, List.getElem?_cons_zero, List.getElem?_cons_succ] at hc
    go_enter Tryd.func38, Tryd.ntmps38
    go_wp2
    go_ret
    exact ⟨ret_str rfl, rfl⟩
  · clear h0 h1
    have hc := ht 3
    simp only [wordsL, List.map_cons, List.getElem?_cons_zero, List.getElem?_cons_succ] at hc
    go_enter Tryd.func38, Tryd.ntmps38
    go_wp2
    go_ret
    exact ⟨ret_str rfl, rfl⟩
  · clear h0 h1
    have hc := ht 4
    simp only [wordsL, List.map_cons, List.getElem?_cons_zero, List.getElem?_cons_succ] at hc
    go_enter Tryd.func38, Tryd.ntmps38
    go_wp2
    go_ret
    exact ⟨ret_str rfl, rfl⟩
  · clear h0 h1
    have hc := ht 5
    simp only [wordsL, List.map_cons, List.getElem?_cons_zero, List.getElem?_cons_succ] at hc
    go_enter Tryd.func38, Tryd.ntmps38
    go_wp2
    go_ret
    exact ⟨ret_str rfl, rfl⟩
  · clear h0 h1
    have hc := ht 6
    simp only [wordsL, List.map_cons, List.getElem?_cons_zero, List.getElem?_cons_succ] at hc
    go_enter Tryd.func38, Tryd.ntmps38
    go_wp2
    go_ret
    exact ⟨ret_str rfl, rfl⟩
  · clear h0 h1
    have hc := ht 7
    simp only [wordsL, List.map_cons, List.getElem?_cons_zero, List.getElem?_cons_succ] at hc
    go_enter Tryd.func38, Tryd.ntmps38
    go_wp2
    go_ret
    exact ⟨ret_str rfl, rfl⟩
  · clear h0 h1
    have hc := ht 8
    simp only [wordsL, List.map_cons, List.getElem?_cons_zero, List.getElem?_cons_succ] at hc
    go_enter Tryd.func38, Tryd.ntmps38
    go_wp2
    go_ret
    exact ⟨ret_str rfl, rfl⟩
  · clear h0 h1
    have hc := ht 9
    simp only [wordsL, List.map_cons, List.getElem?_cons_zero, List.getElem?_cons_succ] at hc
    go_enter Tryd.func38, Tryd.ntmps38
    go_wp2
    go_ret
    exact ⟨ret_str rfl, rfl⟩
  · clear h0 h1
    have hc := ht 10
    simp only [wordsL, List.map_cons, List.getElem?_cons_zero, List.getElem?_cons_succ] at hc
    go_enter Tryd.func38, Tryd.ntmps38
    go_wp2
    go_ret
    exact ⟨ret_str rfl, rfl⟩
  · clear h0 h1
    have hc := ht 11
    simp only [wordsL, List.map_cons, List.getElem?_cons_zero, List.getElem?_cons_succ] at hc
    go_enter Tryd.func38, Tryd.ntmps38
    go_wp2
    go_ret
    exact ⟨ret_str rfl, rfl⟩
  · clear h0 h1
    have hc := ht 12
    simp only [wordsL, List.map_cons, List.getElem?_cons_zero, List.getElem?_cons_succ] at hc
    go_enter Tryd.func38, Tryd.ntmps38
    go_wp2
    go_ret
    exact ⟨ret_str rfl, rfl⟩
  · clear h0 h1
    have hc := ht 13
    simp only [wordsL, List.map_cons, List.getElem?_cons_zero, List.getElem?_cons_succ] at hc
    go_enter Tryd.func38, Tryd.ntmps38
    go_wp2
    go_ret
    exact ⟨ret_str rfl, rfl⟩
  · clear h0 h1
    have hc := ht 14
    simp only [wordsL, List.map_cons, List.getElem?_cons_zero, List.getElem?_cons_succ] at hc
    go_enter Tryd.func38, Tryd.ntmps38
    go_wp2
    go_ret
    exact ⟨ret_str rfl, rfl⟩
  · clear h0 h1
    have hc := ht 15
    simp only [wordsL, List.map_cons, List.getElem?_cons_zero, List.getElem?_cons_succ] at hc
    go_enter Tryd.func38, Tryd.ntmps38
    go_wp2
    go_ret
    exact ⟨ret_str rfl, rfl⟩
  · clear h0 h1
    have hc := ht 16
    simp only [wordsL, List.map_cons, List.getElem?_cons_zero, List.getElem?_cons_succ] at hc
    go_enter Tryd.func38, Tryd.ntmps38
    go_wp2
    go_ret
    exact ⟨ret_str rfl, rfl⟩
  · clear h0 h1
    have hc := ht 17
    simp only [wordsL, List.map_cons, List.getElem?_cons_zero, List.getElem?_cons_succ] at hc
    go_enter Tryd.func38, Tryd.ntmps38
    go_wp2
    go_ret
    exact ⟨ret_str rfl, rfl⟩
  · clear h0 h1
    have hc := ht 18
    simp only [wordsL, List.map_cons, List.getElem?_cons_zero, List.getElem?_cons_succ] at hc
    go_enter Tryd.func38, Tryd.ntmps38
    go_wp2
    go_ret
    exact ⟨ret_str rfl, rfl⟩
  · clear h0 h1
    have hc := ht 19
    simp only [wordsL, List.map_cons, List.getElem?_cons_zero, List.getElem?_cons_succ] at hc
    go_enter Tryd.func38, Tryd.ntmps38
    go_wp2
    go_ret
    exact ⟨ret_str rfl, rfl⟩

def wordsV : Array Value := (wordsL.map fun l => Value.string ⟨l.toArray⟩).toArray
/-- The table's own block holds the words. -/
def TabH (w : World) : Prop := ∃ t fr, w.heap[0]? = some (.cells wordsV t fr)
theorem TabH.tab {w : World} (h : TabH w) : Tab w := by
  obtain ⟨t, fr, h⟩ := h
  intro i
  rw [cell_of_row w 0 i _ t fr h]
  simp [wordsV]
theorem TabH.keep {w w' : World} (h : TabH w) (hb : Below w.heap.size w w') : TabH w' := by
  obtain ⟨t, fr, hg⟩ := h
  exact ⟨t, fr, (hb.block _ (Array.getElem?_eq_some_iff.1 hg).1).trans hg⟩
end Go.Proofs.YtgnonbghgcpnoaaDoor.Er
