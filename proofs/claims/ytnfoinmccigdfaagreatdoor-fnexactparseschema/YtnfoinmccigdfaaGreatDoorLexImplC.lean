/- The program's reader: blanks and remarks, marks. -/
import Derived.Test.YtnfoinmccigdfaaGreatDoorLexImplB
namespace Go.Proofs.YtnfoinmccigdfaaGreatDoor
open Go.ChangeShapes Go.WideShapes Go.ChangeAt Go.RowKit
set_option linter.unusedVariables false

/-- All bytes of a rune from 128 on are from 128 on. -/
theorem dec_bytes (s : ByteArray) (i : Nat) (h : i < s.size) (ha : 128 ≤ s[i].toNat) : ∀ j, j < (Utf8.decode s i).2 → ∃ h2 : i + j < s.size, 128 ≤ (s[i + j]'h2).toNat := by
  have h0 : ∃ h2 : i + 0 < s.size, 128 ≤ (s[i + 0]'h2).toNat := ⟨h, ha⟩
  have hc : ∀ k, (decide (i + k < s.size) && (s.get! (i + k)).toNat / 64 == 2) = true → ∃ h2 : i + k < s.size, 128 ≤ (s[i + k]'h2).toNat := by
    intro k hk
    simp only [Bool.and_eq_true, decide_eq_true_eq, beq_iff_eq] at hk
    refine ⟨hk.1, ?_⟩
    have e : s.get! (i + k) = s[i + k]'hk.1 := get_at s (i + k) hk.1
    rw [e] at hk
    omega
  intro j hj
  unfold Utf8.decode at hj
  simp only at hj
  split at hj
  · have : j = 0 := by simp at hj; omega
    subst this; exact h0
  · split at hj
    · rename_i h1
      simp only [Bool.and_eq_true] at h1
      have c1 := hc 1 (by simpa using h1.2)
      have : j < 2 := by split at hj <;> simp at hj <;> omega
      match j, this with
      | 0, _ => exact h0
      | 1, _ => exact c1
    · split at hj
      · rename_i h1
        simp only [Bool.and_eq_true] at h1
        have c1 := hc 1 (by simpa using h1.1.2)
        have c2 := hc 2 (by simpa using h1.2)
        have : j < 3 := by split at hj <;> simp at hj <;> omega
        match j, this with
        | 0, _ => exact h0
        | 1, _ => exact c1
        | 2, _ => exact c2
      · split at hj
        · rename_i h1
          simp only [Bool.and_eq_true] at h1
          have c1 := hc 1 (by simpa using h1.1.1.2)
          have c2 := hc 2 (by simpa using h1.1.2)
          have c3 := hc 3 (by simpa using h1.2)
          have : j < 4 := by split at hj <;> simp at hj <;> omega
          match j, this with
          | 0, _ => exact h0
          | 1, _ => exact c1
          | 2, _ => exact c2
          | 3, _ => exact c3
        · have : j = 0 := by simp at hj; omega
          subst this; exact h0

theorem pb_wide {s : ByteArray} : ∀ (n i : Nat), (∀ j, j < n → i + j < s.size ∧ 128 ≤ bt s (i + j)) → pb s i true = pb s (i + n) true
  | 0, i, _ => rfl
  | n + 1, i, h => by
    have h0 := h 0 (by omega)
    rw [Nat.add_zero] at h0
    rw [pb_rem h0.1, show decide (bt s i ≠ 10) = true by simp; omega, pb_wide n (i + 1) (fun j hj => by have := h (j + 1) (by omega); rwa [show i + 1 + j = i + (j + 1) by omega]), show i + 1 + n = i + (n + 1) by omega]

set_option maxHeartbeats 400000 in
theorem isBlank_any (c : Int) (w : World) : Calls Tryz.prog 64 #[.int .i32 c] w fun e w' => e = .returned (.bool (blB c)) ∧ w' = w := by
  go_enter Tryz.func64, Tryz.ntmps64
  go_wp2
  all_goals (go_ret; exact ⟨ret_bool (by unfold blB; rw [Bool.eq_iff_iff]; simp <;> omega), rfl⟩)

def dotsB (s : ByteArray) (i : Nat) : Bool := decide (i + 3 ≤ s.size) && ((s.extract i (i + 3)).toList == [46, 46, 46])
theorem dots_prefix (s : ByteArray) (i : Nat) (hi : i ≤ s.size) : Lib.hasPrefix (s.extract i s.size).data.toList [46, 46, 46] = dotsB s i := by
  have hl : s.data.toList.length = s.size := by simp
  have e1 : (s.extract i s.size).data.toList = s.data.toList.drop i := by
    rw [ByteArray.data_extract, Array.toList_extract, List.extract_eq_take_drop, List.take_of_length_le (by rw [List.length_drop, hl]; exact Nat.le_refl _)]
  have e2 : (s.extract i (i + 3)).toList = (s.data.toList.drop i).take 3 := by
    rw [ByteArray.toList_eq, ByteArray.data_extract, Array.toList_extract, List.extract_eq_take_drop, show i + 3 - i = 3 by omega]
  unfold dotsB
  rw [e1, e2]
  have hd : (s.data.toList.drop i).length = s.size - i := by rw [List.length_drop, hl]
  generalize s.data.toList.drop i = l at *
  unfold Lib.hasPrefix
  rw [Bool.eq_iff_iff, List.isPrefixOf_iff_prefix]
  simp only [Bool.and_eq_true, decide_eq_true_eq, beq_iff_eq]
  constructor
  · rintro ⟨r, rfl⟩
    refine ⟨?_, rfl⟩
    simp at hd; omega
  · rintro ⟨_, h⟩
    rw [← h]; exact List.take_prefix _ _

set_option maxHeartbeats 1000000 in
theorem punct_any (s : ByteArray) (L i : Nat) (w : World) (hs : s.size ≤ 65536) (h : LexSt w L s i) (hi : i < s.size) :
    Calls Tryz.prog 69 #[.pointer (some ⟨L, 0, none⟩)] w fun e w' => e = .returned (.string (s.extract i (i + (if dotsB s i = true then 3 else 1)))) ∧ LexSt w' L s (i + (if dotsB s i = true then 3 else 1)) ∧ w.grownBy w' (some L) := by
  have c0 := h.c0
  have c1 := h.c1
  have HS : Hid (LexSt w L s i) := h
  clear h
  have b2 : (i : Int) ≤ s.size := by omega
  have HP : Hid (∀ W : World, Calls Tryz.prog 84 #[.string (s.extract i s.size), .string ⟨#[46, 46, 46]⟩] W fun e w' => e = .returned (.bool (dotsB s i)) ∧ w' = W) := fun W => by
    rw [← dots_prefix s i (by omega)]; exact Tryz.strings_HasPrefix _ _ W
  cases hd : dotsB s i
  · rw [hd] at HP
    rw [if_neg (by decide)]
    go_enter Tryz.func69, Tryz.ntmps69
    go_wp2_with fail
    go_quiet ((go_at_call 84; exact Calls.quiet_of_same (HP.out _)))
    go_wp2_with fail
    refine (take_any s L i _ _ hs (show LexSt (w.drewN nq) L s i from HS.out) (by omega) (by omega)).mono ?_
    rintro e w2 ⟨rfl, hst, hg⟩
    have HG := grown_trans (grown_drewN w nq (some L)) hg
    go_wp2_with fail
    go_ret
    exact ⟨rfl, hst, HG⟩
  · rw [hd] at HP
    rw [if_pos rfl]
    have h3 : i + 3 ≤ s.size := by unfold dotsB at hd; simp at hd; exact hd.1
    go_enter Tryz.func69, Tryz.ntmps69
    go_wp2_with fail
    go_quiet ((go_at_call 84; exact Calls.quiet_of_same (HP.out _)))
    go_wp2_with fail
    refine (take_any s L i _ _ hs (show LexSt (w.drewN nq) L s i from HS.out) (by omega) (by omega)).mono ?_
    rintro e w2 ⟨rfl, hst, hg⟩
    have HG := grown_trans (grown_drewN w nq (some L)) hg
    go_wp2_with fail
    go_ret
    exact ⟨rfl, hst, HG⟩
end Go.Proofs.YtnfoinmccigdfaaGreatDoor
