/- The token at a place: marks. -/
import Derived.Test.YtnfoinmccigdfaaGreatDoorLexNextTwo
namespace Go.Proofs.YtnfoinmccigdfaaGreatDoor
open Go.ChangeShapes Go.WideShapes Go.ChangeAt Go.RowKit
set_option linter.unusedVariables false

set_option maxHeartbeats 1000000 in
theorem next_dots (s : ByteArray) (p : Nat) (w : World) (hs : s.size ≤ 65536) (hp : p < s.size) (hc : (s[p].toNat : Int) = 46) :
    Calls Tryz.prog 38 #[.string s, .int .i64 p] w (NextIs s p w) := by
  have HT : Hid (tokAt s p = if p + 3 ≤ s.size ∧ (s.extract p (p + 3)).toList = [46, 46, 46] then some (⟨4, 0, ⟨#[46, 46, 46]⟩⟩, p + 3) else none) := by
    unfold Hid tokAt; rw [bt_lt hp, hc, if_neg (by decide), if_neg (by decide), if_neg (by decide), if_pos rfl]
  have hl : letB 46 = false := by decide
  have hd : digB 46 = false := by decide
  by_cases h3 : p + 3 ≤ s.size
  · have h3' : (3 : Int) ≤ s.size - p := by omega
    have b1 : (p : Int) ≤ p + 3 := by omega
    have b2 : (p : Int) + 3 ≤ s.size := by omega
    go_enter Tryz.func38, Tryz.ntmps38
    go_wp2_with (first | (go_at_call 59; refine (letter_any _ _).mono ?_; rintro e w1 ⟨rfl, rfl⟩) | (go_at_call 60; refine (digit_any _ _).mono ?_; rintro e w1 ⟨rfl, rfl⟩))
    go_region
    go_wp2_with fail
    refine bodyPost_ret (v := .tuple #[.agg #[.int .i64 4, .int .i64 0, .string ⟨#[46, 46, 46]⟩], .int .i64 ((p + 3 : Nat) : Int), .bool ((s.extract p (p + 3)).toList == [46, 46, 46])]) (by simp [results, Tryz.results38, go_sem]) rfl ⟨⟨4, 0, ⟨#[46, 46, 46]⟩⟩, p + 3, _, rfl, fun hb => by rw [HT.out, if_pos ⟨h3, by simpa using hb⟩], fun hb => by rw [HT.out, if_neg (by rintro ⟨_, h⟩; rw [h] at hb; cases hb)], ?_⟩
    repeat (first | exact Below.refl _ _ | refine Below.drew ?_ | refine Below.setCell ?_ (by simp <;> omega) _ | refine Below.alloc ?_ (by simp <;> omega) _)
  · have h3' : decide ((3 : Int) ≤ s.size - p) = false := by simp; omega
    go_enter Tryz.func38, Tryz.ntmps38
    go_wp2_with (first | (go_at_call 59; refine (letter_any _ _).mono ?_; rintro e w1 ⟨rfl, rfl⟩) | (go_at_call 60; refine (digit_any _ _).mono ?_; rintro e w1 ⟨rfl, rfl⟩))
    go_region
    go_wp2_with fail
    refine bodyPost_ret (v := .tuple #[.agg #[.int .i64 4, .int .i64 0, .string ⟨#[46, 46, 46]⟩], .int .i64 ((p + 3 : Nat) : Int), .bool false]) (by simp [results, Tryz.results38, go_sem]) rfl ⟨⟨4, 0, ⟨#[46, 46, 46]⟩⟩, p + 3, _, rfl, (fun hb => by cases hb), (fun hb => by rw [HT.out, if_neg (by rintro ⟨h, _⟩; exact h3 h)]), ?_⟩
    repeat (first | exact Below.refl _ _ | refine Below.drew ?_ | refine Below.setCell ?_ (by simp <;> omega) _ | refine Below.alloc ?_ (by simp <;> omega) _)

set_option maxHeartbeats 1000000 in
theorem next_punct (s : ByteArray) (p : Nat) (w : World) (hs : s.size ≤ 65536) (hp : p < s.size) (h1 : ¬ (s[p].toNat : Int) = 36) (hl : letB (s[p].toNat : Int) = false) (h2 : ¬ (s[p].toNat : Int) = 45) (hd : digB (s[p].toNat : Int) = false) (h3 : ¬ (s[p].toNat : Int) = 46) :
    Calls Tryz.prog 38 #[.string s, .int .i64 p] w (NextIs s p w) := by
  have HT : Hid (tokAt s p = if punctB (s.extract p (p + 1)).toList = true then some (⟨4, 0, s.extract p (p + 1)⟩, p + 1) else none) := by
    unfold Hid tokAt; rw [bt_lt hp, if_neg h1, if_neg (by rw [hl]; decide), if_neg (by rw [hd]; rintro (h | h); exact h2 h; cases h), if_neg h3]
  have h1' : ((s[p].toNat : Int) == 36) = false := by rw [beq_eq_false_iff_ne]; exact h1
  have h2' : ((s[p].toNat : Int) == 45) = false := by rw [beq_eq_false_iff_ne]; exact h2
  have h3' : ((s[p].toNat : Int) == 46) = false := by rw [beq_eq_false_iff_ne]; exact h3
  clear h1 h2 h3
  have b1 : (p : Int) ≤ p + 1 := by omega
  have b2 : (p : Int) + 1 ≤ s.size := by omega
  go_enter Tryz.func38, Tryz.ntmps38
  go_wp2_with (first | (go_at_call 59; refine (letter_any _ _).mono ?_; rintro e w1 ⟨rfl, rfl⟩) | (go_at_call 60; refine (digit_any _ _).mono ?_; rintro e w1 ⟨rfl, rfl⟩))
  have hwr : IntKind.i64.wrap ((p : Int) + 1) = p + 1 := wrap_small _ (by omega) (by omega)
  generalize s.extract p (p + 1) = T at *
  clear h1' h2' h3' hl hd b1
  go_region_with (go_at_call 62; refine (spec_punct T _).mono ?_; rintro e w2 ⟨rfl, rfl⟩)
  all_goals
    go_wp2_with fail
    refine bodyPost_ret (v := .tuple #[.agg #[.int .i64 4, .int .i64 0, .string T], .int .i64 ((p + 1 : Nat) : Int), .bool (punctB T.toList)]) (by simp [results, Tryz.results38, go_sem]) rfl ⟨⟨4, 0, T⟩, p + 1, _, rfl, fun hb => by rw [HT.out, if_pos hb], fun hb => by rw [HT.out, if_neg (by rw [hb]; decide)], ?_⟩
    repeat (first | exact Below.refl _ _ | refine Below.drew ?_ | refine Below.setCell ?_ (by simp <;> omega) _ | refine Below.alloc ?_ (by simp <;> omega) _)

theorem next_any (s : ByteArray) (p : Nat) (w : World) (hs : s.size ≤ 65536) (hp : p < s.size) :
    Calls Tryz.prog 38 #[.string s, .int .i64 p] w (NextIs s p w) := by
  by_cases h1 : (s[p].toNat : Int) = 36
  · exact next_var s p w hs hp h1
  cases hl : letB (s[p].toNat : Int)
  · by_cases hd : (s[p].toNat : Int) = 45 ∨ digB (s[p].toNat : Int) = true
    · exact next_int s p w hs hp h1 hl hd
    · by_cases h3 : (s[p].toNat : Int) = 46
      · exact next_dots s p w hs hp h3
      · exact next_punct s p w hs hp h1 hl (fun h => hd (.inl h)) (by cases h : digB (s[p].toNat : Int); rfl; exact absurd (.inr h) hd) h3
  · exact next_name s p w hs hp h1 hl
end Go.Proofs.YtnfoinmccigdfaaGreatDoor
