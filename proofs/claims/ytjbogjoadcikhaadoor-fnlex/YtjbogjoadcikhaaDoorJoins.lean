/- Texts put together, and that the specification's text of it does it. -/
import Derived.Test.YtjbogjoadcikhaaDoorRowsOf
import Derived.Lib.Join
namespace Go.Proofs.YtjbogjoadcikhaaDoor
open Go.ChangeShapes Go.WideShapes Go.ChangeAt Go.RowKit
set_option linter.unusedVariables false

/-- A slice of texts in memory. -/
def StrRow (w : World) (a : Option Addr) (ss : List ByteArray) : Prop :=
  (a = none ∧ ss = []) ∨ ∃ b o, a = some ⟨b, o, none⟩ ∧ b < w.heap.size ∧ ∀ i x, ss[i]? = some x → w.cell? ⟨b, o + i, none⟩ = some (.string x)
theorem StrRow.at_ {w : World} {a : Option Addr} {ss : List ByteArray} (h : StrRow w a ss) (k : Nat) (hk : k < ss.length) :
    ∃ b o, a = some ⟨b, o, none⟩ ∧ b < w.heap.size ∧ w.cell? ⟨b, o + k, none⟩ = some (.string ss[k]) := by
  rcases h with ⟨_, rfl⟩ | ⟨b, o, rfl, h1, h3⟩
  · simp at hk
  · exact ⟨b, o, rfl, h1, h3 k ss[k] (List.getElem?_eq_getElem hk)⟩

/-- The first k texts, a blank between each two. -/
def joinTo (ss : List ByteArray) : Nat → ByteArray
  | 0 => ⟨#[]⟩
  | k + 1 => (if 0 < k then joinTo ss k ++ ⟨#[32]⟩ else joinTo ss k) ++ ss.getD k ⟨#[]⟩
def joinS (ss : List ByteArray) : ByteArray := joinTo ss ss.length
theorem getD_size {ss : List ByteArray} (hs : ∀ s ∈ ss, s.size ≤ 1048600) (k : Nat) : (ss.getD k ⟨#[]⟩).size ≤ 1048600 := by
  rw [List.getD_eq_getElem?_getD]
  by_cases h : k < ss.length
  · rw [List.getElem?_eq_getElem h]; exact hs _ (List.getElem_mem h)
  · rw [List.getElem?_eq_none (by omega)]; exact Nat.zero_le _
theorem joinTo_size (ss : List ByteArray) (hs : ∀ s ∈ ss, s.size ≤ 1048600) : ∀ k, (joinTo ss k).size ≤ k * 1048601
  | 0 => Nat.le_refl _
  | k + 1 => by
    have ih := joinTo_size ss hs k
    have hg := getD_size hs k
    have h1 : (⟨#[32]⟩ : ByteArray).size = 1 := rfl
    rw [joinTo]
    split
    · rw [ByteArray.size_append, ByteArray.size_append]; omega
    · rw [ByteArray.size_append]; omega

theorem joinTail_snoc (sep : List UInt8) (r : List (List UInt8)) (x : List UInt8) : Lib.joinTail sep (r ++ [x]) = Lib.joinTail sep r ++ (sep ++ x) := by
  simp [Lib.joinTail]
theorem joinTo_list (ss : List ByteArray) : ∀ k, k ≤ ss.length → (joinTo ss k).data.toList = Lib.join ((ss.take k).map (·.data.toList)) [32]
  | 0, _ => by simp [joinTo, Lib.join_nil]
  | 1, h => by
    match ss, h with
    | s :: r, _ => simp [joinTo, Lib.join_one]
  | k + 2, h => by
    have ih := joinTo_list ss (k + 1) (by omega)
    rw [joinTo, if_pos (by omega)]
    match ss, h, ih with
    | s :: r, h, ih =>
      simp only [List.take_succ_cons, List.map_cons] at ih ⊢
      rw [Lib.join_cons] at ih ⊢
      simp only [ByteArray.data_append, Array.toList_append, ih]
      have hk : k < r.length := by simp at h; omega
      rw [List.getD_eq_getElem?_getD, List.getElem?_cons_succ, List.getElem?_eq_getElem hk]
      rw [List.take_succ_eq_append_getElem hk, List.map_append, List.map_cons, List.map_nil, joinTail_snoc]
      simp only [Option.getD_some, List.append_assoc]
theorem joinS_list (ss : List ByteArray) : joinS ss = ⟨(Lib.join (ss.map (·.data.toList)) [32]).toArray⟩ := by
  apply ByteArray.ext
  have := joinTo_list ss ss.length (Nat.le_refl _)
  rw [List.take_length] at this
  rw [joinS, ← this]

set_option maxHeartbeats 1000000 in
theorem spec_join (a : Option Addr) (c : Nat) (ss : List ByteArray) (w : World) (hr : StrRow w a ss) (hn : ss.length ≤ 4000) (hs : ∀ s ∈ ss, s.size ≤ 1048600) :
    Calls Tryd.prog 17 #[.slice a ss.length c, .string ⟨#[32]⟩] w fun e w' => e = .returned (.string (joinS ss)) ∧ w' = w := by
  have HR : Hid (StrRow w a ss) := hr
  have HS : Hid (∀ s ∈ ss, s.size ≤ 1048600) := hs
  clear hr hs
  go_enter Tryd.func17, Tryd.ntmps17
  go_wp2_with fail
  go_loop [5, 6] (fun s i => ∃ k : Nat, k ≤ ss.length ∧ i = .int .i64 k ∧ s = .string (joinTo ss k)) (fun _ i => ss.length - (intOf i).toNat)
  case atStart => exact ⟨0, by omega, rfl, rfl⟩
  case round =>
    obtain ⟨k, hk, rfl, rfl⟩ := hrel
    by_cases hlt : k < ss.length
    · obtain ⟨b, o, ha, hbl, c0⟩ := HR.out.at_ k hlt
      subst ha
      have hj := joinTo_size ss HS.out k
      have hg := HS.out ss[k] (List.getElem_mem hlt)
      have hgd : ss.getD k ⟨#[]⟩ = ss[k] := by rw [List.getD_eq_getElem?_getD, List.getElem?_eq_getElem hlt]; rfl
      have h1 : (⟨#[32]⟩ : ByteArray).size = 1 := rfl
      by_cases h0 : 0 < k
      · have HF : Hid (joinTo ss (k + 1) = (joinTo ss k ++ ⟨#[32]⟩) ++ ss[k]) := by rw [Hid, joinTo, if_pos h0, hgd]
        have n1 : ¬ (9223372036854775807 < (joinTo ss k).size + (⟨#[32]⟩ : ByteArray).size) := by omega
        have n2 : ¬ (9223372036854775807 < (joinTo ss k ++ ⟨#[32]⟩).size + ss[k].size) := by rw [ByteArray.size_append]; omega
        clear hgd h1 hj hg
        go_wp2_with fail
        go_round
        case rel => exact ⟨k + 1, by omega, by go_num, by rw [HF.out]⟩
        case measure => simp [intOf]; omega
      · have HF : Hid (joinTo ss (k + 1) = joinTo ss k ++ ss[k]) := by rw [Hid, joinTo, if_neg h0, hgd]
        have n2 : ¬ (9223372036854775807 < (joinTo ss k).size + ss[k].size) := by omega
        clear hgd h1 hj hg
        go_wp2_with fail
        go_round
        case rel => exact ⟨k + 1, by omega, by go_num, by rw [HF.out]⟩
        case measure => simp [intOf]; omega
    · go_wp2_with fail
      go_ret
      obtain rfl : k = ss.length := by omega
      exact ⟨rfl, rfl⟩
end Go.Proofs.YtjbogjoadcikhaaDoor
