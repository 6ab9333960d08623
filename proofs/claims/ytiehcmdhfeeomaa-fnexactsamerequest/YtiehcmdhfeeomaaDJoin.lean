/- Rows of texts, and texts put together, as the specification does it. -/
import Derived.Test.YtiehcmdhfeeomaaDocTextThree
import Derived.Maps.AppendAt
namespace Go.Proofs.Ytiehcmdhfeeomaa
open Go.ChangeShapes Go.WideShapes Go.ChangeAt Go.RowKit
set_option linter.unusedVariables false

/-- A slice of texts in memory. -/
def StrRow (w : World) (a : Option Addr) (ss : List ByteArray) : Prop :=
  (a = none ∧ ss = []) ∨ ∃ b o, a = some ⟨b, o, none⟩ ∧ b < w.heap.size ∧ ∀ i x, ss[i]? = some x → w.cell? ⟨b, o + i, none⟩ = some (.string x)
theorem StrRow.at_ {w : World} {a : Option Addr} {ss : List ByteArray} (h : StrRow w a ss) (k : Nat) (hk : k < ss.length) :
    ∃ b o, a = some ⟨b, o, none⟩ ∧ b < w.heap.size ∧ w.cell? ⟨b, o + k, none⟩ = some (.string ss[k]) := by
  rcases h with ⟨_, rfl⟩ | ⟨b, o, rfl, h1, h3⟩
  · simp at hk
  · exact ⟨b, o, rfl, h1, h3 k ss[k] (List.getElem?_eq_getElem hk)⟩

/-- The first k texts, a blank between each two. -/
def joinTo (ss : List ByteArray) : Nat → ByteArray
  | 0 => ⟨#[]⟩
  | k + 1 => (if 0 < k then joinTo ss k ++ ⟨#[32]⟩ else joinTo ss k) ++ ss.getD k ⟨#[]⟩
def joinS (ss : List ByteArray) : ByteArray := joinTo ss ss.length
theorem getD_size {ss : List ByteArray} (hs : ∀ s ∈ ss, s.size ≤ 1048600) (k : Nat) : (ss.getD k ⟨#[]⟩).size ≤ 1048600 := by
  rw [List.getD_eq_getElem?_getD]
  by_cases h : k < ss.length
  · rw [List.getElem?_eq_getElem h]; exact hs _ (List.getElem_mem h)
  · rw [List.getElem?_eq_none (by omega)]; exact Nat.zero_le _
theorem joinTo_size (ss : List ByteArray) (hs : ∀ s ∈ ss, s.size ≤ 1048600) : ∀ k, (joinTo ss k).size ≤ k * 1048601
  | 0 => Nat.le_refl _
  | k + 1 => by
    have ih := joinTo_size ss hs k
    have hg := getD_size hs k
    have h1 : (⟨#[32]⟩ : ByteArray).size = 1 := rfl
    rw [joinTo]
    split
    · rw [ByteArray.size_append, ByteArray.size_append]; omega
    · rw [ByteArray.size_append]; omega

set_option maxHeartbeats 1000000 in
theorem spec_join (a : Option Addr) (c : Nat) (ss : List ByteArray) (w : World) (hr : StrRow w a ss) (hn : ss.length ≤ 4000) (hs : ∀ s ∈ ss, s.size ≤ 1048600) :
    Calls Try.prog 40 #[.slice a ss.length c, .string ⟨#[32]⟩] w fun e w' => e = .returned (.string (joinS ss)) ∧ w' = w := by
  have HR : Hid (StrRow w a ss) := hr
  have HS : Hid (∀ s ∈ ss, s.size ≤ 1048600) := hs
  clear hr hs
  go_enter Try.func40, Try.ntmps40
  go_wp2_with fail
  go_loop [5, 6] (fun s i => ∃ k : Nat, k ≤ ss.length ∧ i = .int .i64 k ∧ s = .string (joinTo ss k)) (fun _ i => ss.length - (intOf i).toNat)
  case atStart => exact ⟨0, by omega, rfl, rfl⟩
  case round =>
    obtain ⟨k, hk, rfl, rfl⟩ := hrel
    by_cases hlt : k < ss.length
    · obtain ⟨b, o, ha, hbl, c0⟩ := HR.out.at_ k hlt
      subst ha
      have hj := joinTo_size ss HS.out k
      have hg := HS.out ss[k] (List.getElem_mem hlt)
      have hgd : ss.getD k ⟨#[]⟩ = ss[k] := by rw [List.getD_eq_getElem?_getD, List.getElem?_eq_getElem hlt]; rfl
      have h1 : (⟨#[32]⟩ : ByteArray).size = 1 := rfl
      by_cases h0 : 0 < k
      · have HF : Hid (joinTo ss (k + 1) = (joinTo ss k ++ ⟨#[32]⟩) ++ ss[k]) := by rw [Hid, joinTo, if_pos h0, hgd]
        have n1 : ¬ (9223372036854775807 < (joinTo ss k).size + (⟨#[32]⟩ : ByteArray).size) := by omega
        have n2 : ¬ (9223372036854775807 < (joinTo ss k ++ ⟨#[32]⟩).size + ss[k].size) := by rw [ByteArray.size_append]; omega
        clear hgd h1 hj hg
        go_wp2_with fail
        go_round
        case rel => exact ⟨k + 1, by omega, by go_num, by rw [HF.out]⟩
        case measure => simp [intOf]; omega
      · have HF : Hid (joinTo ss (k + 1) = joinTo ss k ++ ss[k]) := by rw [Hid, joinTo, if_neg h0, hgd]
        have n2 : ¬ (9223372036854775807 < (joinTo ss k).size + ss[k].size) := by omega
        clear hgd h1 hj hg
        go_wp2_with fail
        go_round
        case rel => exact ⟨k + 1, by omega, by go_num, by rw [HF.out]⟩
        case measure => simp [intOf]; omega
    · go_wp2_with fail
      go_ret
      obtain rfl : k = ss.length := by omega
      exact ⟨rfl, rfl⟩
theorem own_below {w w' : World} {base : Nat} {e : TypeId} {size n : Nat} {v : Value} {xs : List Value} (h : w.ownsRow base e size v n xs) (hb : Below w.heap.size w w') : w'.ownsRow base e size v n xs := by
  refine ⟨h.1, ?_⟩
  rcases h.2 with h | ⟨g, cap, cur, h1, h2, h3, h4⟩
  · exact .inl h
  · exact .inr ⟨g, cap, cur, h1, h2, (hb.block g (Array.getElem?_eq_some_iff.1 h3).1).trans h3, h4⟩
theorem own_strs {w : World} {base n : Nat} {v : Value} {ss : List ByteArray} (h : w.ownsRow base 9 1 v n (ss.map Value.string)) : ∃ a c, v = .slice a ss.length c ∧ StrRow w a ss := by
  have hn : n = ss.length := by have := h.1; simp at this; omega
  subst hn
  rcases h.2 with ⟨rfl, h0⟩ | ⟨g, cap, cur, rfl, h2, h3, h4, h5, h6, h7⟩
  · exact ⟨none, 0, by rw [h0], .inl ⟨rfl, List.length_eq_zero_iff.1 h0⟩⟩
  · refine ⟨_, _, rfl, .inr ⟨g, 0, rfl, (Array.getElem?_eq_some_iff.1 h3).1, fun i x hx => ?_⟩⟩
    have hi : i < ss.length := (List.getElem?_eq_some_iff.1 hx).1
    rw [row_cell h3, Nat.zero_add]
    have e1 : (ss.map Value.string)[i]? = some (.string x) := by rw [List.getElem?_map, hx]; rfl
    rw [← h7, List.getElem?_take, if_pos (by omega)] at e1
    simpa using e1
theorem info9 : (Try.prog.info? 9).map (fun i => (i.zero, i.size, i.bytes)) = some (some (.string ⟨#[]⟩), 1, 16) := by kernel_rfl

end Go.Proofs.Ytiehcmdhfeeomaa
