/- Numbers: that the specification's texts of them compute what they should. -/
import Derived.Test.YtjbogjoadcikhaaDoorLexSpec
import Derived.Deep.Cut
namespace Go.Proofs.YtjbogjoadcikhaaDoor.L
open Go.ChangeShapes Go.WideShapes Go.ChangeAt Go.RowKit
set_option linter.unusedVariables false

theorem toList_len (T : ByteArray) : T.toList.length = T.size := by rw [ByteArray.toList_eq]; simp
theorem toList_at (T : ByteArray) (k : Nat) (h : k < T.size) : T.toList[k]? = some T[k] := by
  rw [ByteArray.toList_eq, List.getElem?_eq_getElem (by simpa using h)]; rfl
theorem toList_ne (T : ByteArray) (h : 0 < T.size) : T.toList ≠ [] := by
  intro e; have := toList_len T; rw [e] at this; simp at this; omega
theorem toList_head (T : ByteArray) (h : 0 < T.size) : T.toList.head? = some T[0] := by
  rw [List.head?_eq_getElem?]; exact toList_at T 0 h
theorem u8_of {c : UInt8} {n : Nat} (hn : n < 256) (h : (c.toNat : Int) = n) : c = UInt8.ofNat n := by
  have : c.toNat = n := by omega
  rw [← this]; simp
theorem digit_of (c : UInt8) (h : 48 ≤ (c.toNat : Int) ∧ (c.toNat : Int) ≤ 57) : Lib.digitVal c = some (c.toNat - 48) := by
  unfold Lib.digitVal; rw [if_pos (by omega)]
theorem decFrom_bad (T : ByteArray) (k : Nat) (h : k < T.size) (hd : ¬ (48 ≤ (T[k].toNat : Int) ∧ (T[k].toNat : Int) ≤ 57)) : Lib.decFrom 0 T.toList = none := by
  cases e : Lib.decFrom 0 T.toList with
  | none => rfl
  | some n =>
    obtain ⟨d, hv⟩ := Lib.digit_of_decFrom _ _ _ e k T[k] (toList_at T k h)
    have := Lib.digitVal_eq hv
    omega
theorem numN_empty {neg : Bool} (T : ByteArray) (h : T.size = 0) : numN neg T.toList = none := by
  unfold numN; rw [if_pos]; left
  exact List.length_eq_zero_iff.1 (by rw [toList_len]; exact h)
theorem numN_long {neg : Bool} (T : ByteArray) (h : 18 < T.size) : numN neg T.toList = none := by
  unfold numN; rw [if_pos]; right; left; rw [toList_len]; exact h
theorem numN_zero_neg (T : ByteArray) (h : 0 < T.size) (z : (T[0].toNat : Int) = 48) : numN true T.toList = none := by
  unfold numN; rw [if_pos]; right; right
  exact ⟨by rw [toList_head T h, u8_of (n := 48) (by decide) z]; rfl, .inr rfl⟩
theorem numN_zero_pos (T : ByteArray) (h : 0 < T.size) (z : (T[0].toNat : Int) = 48) (one : 1 < T.size) : numN false T.toList = none := by
  unfold numN; rw [if_pos]; right; right
  exact ⟨by rw [toList_head T h, u8_of (n := 48) (by decide) z]; rfl, .inl (by rw [toList_len]; exact one)⟩
theorem numN_neg (T : ByteArray) (h : 0 < T.size) (h18 : T.size ≤ 18) (z : ¬ (T[0].toNat : Int) = 48) : numN true T.toList = (Lib.decFrom 0 T.toList).map fun (m : Nat) => -(m : Int) := by
  unfold numN; rw [if_neg]
  · rfl
  rintro (h1 | h1 | ⟨h1, _⟩)
  · exact toList_ne T h h1
  · rw [toList_len] at h1; omega
  · rw [toList_head T h] at h1
    simp only [Option.some.injEq] at h1
    rw [h1] at z; exact z rfl
theorem numN_pos (T : ByteArray) (h : 0 < T.size) (h18 : T.size ≤ 18) (z : (T[0].toNat : Int) = 48 → ¬ 1 < T.size) : numN false T.toList = (Lib.decFrom 0 T.toList).map fun (m : Nat) => (m : Int) := by
  unfold numN; rw [if_neg]
  · rfl
  rintro (h1 | h1 | ⟨h1, h2⟩)
  · exact toList_ne T h h1
  · rw [toList_len] at h1; omega
  · rw [toList_head T h] at h1
    simp only [Option.some.injEq] at h1
    rcases h2 with h2 | h2
    · rw [toList_len] at h2
      exact z (by rw [h1]; rfl) h2
    · cases h2
theorem numF_neg (s : ByteArray) (h : 0 < s.size) (h0 : (s[0].toNat : Int) = 45) : numF s.toList = numN true (s.extract 1 s.size).toList := by
  have hh := toList_head s h
  have e : (s.extract 1 s.size).toList = s.toList.tail := by
    rw [ByteArray.toList_eq, ByteArray.toList_eq, ByteArray.data_extract, Array.toList_extract]
    have hl : s.data.toList.length = s.size := by simp
    rw [List.extract_eq_take_drop, ← List.drop_one, List.take_of_length_le (by rw [List.length_drop, hl]; exact Nat.le_refl _)]
  cases hc : s.toList with
  | nil => exact absurd hc (toList_ne s h)
  | cons c r =>
    rw [hc] at hh e
    simp only [List.head?_cons, Option.some.injEq] at hh
    rw [numF, if_pos (by rw [hh, u8_of (n := 45) (by decide) h0]; rfl), e, List.tail_cons]
theorem numF_pos (s : ByteArray) (h : 0 < s.size) (h0 : ¬ (s[0].toNat : Int) = 45) : numF s.toList = numN false s.toList := by
  have hh := toList_head s h
  cases hc : s.toList with
  | nil => exact absurd hc (toList_ne s h)
  | cons c r =>
    rw [hc] at hh
    simp only [List.head?_cons, Option.some.injEq] at hh
    rw [numF, if_neg (by rw [hh]; intro e; rw [e] at h0; exact h0 rfl)]

end Go.Proofs.YtjbogjoadcikhaaDoor.L
