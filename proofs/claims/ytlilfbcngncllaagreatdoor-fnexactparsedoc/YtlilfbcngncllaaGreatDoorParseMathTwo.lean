/- Reading sets and definitions: what is left grows less; the equations without fuel. -/
import Derived.Test.YtlilfbcngncllaaGreatDoorParseMath
namespace Go.Proofs.YtlilfbcngncllaaGreatDoor
set_option linter.unusedVariables false

theorem pLoop_len : ∀ {f d : Nat} {l r : List Tk} {s : Sels}, pLoop f d l = .ok s r → r.length < l.length
  | 0, _, _, _, _, h => by cases h
  | f + 1, d, l, r, s, h => by
    unfold pLoop at h
    split at h
    · rename_i hm
      cases h
      have := atM_len hm
      simp only [List.length_drop]; omega
    · split at h
      · cases h
      · rename_i hd q hh
        have h1 := pHead_len hh
        split at h
        · rename_i rest r2 hl
          cases h
          have := pLoop_len hl; omega
        · cases h
        · cases h
      · rename_i hd q hh
        have h1 := pHead_len hh
        split at h
        · split at h
          · cases h
          · split at h
            · cases h
            · rename_i sub r1 hn hl
              have h2 := pLoop_len hl
              split at h
              · rename_i rest r2 hl2
                cases h
                have h3 := pLoop_len hl2
                simp only [List.length_drop] at h2; omega
              · cases h
              · cases h
            · cases h
            · cases h
        · cases h
theorem pLoop_fuel : ∀ (f g d : Nat) (l : List Tk), l.length < f → l.length < g → pLoop f d l = pLoop g d l
  | 0, _, _, _, h, _ => by omega
  | _ + 1, 0, _, _, _, h => by omega
  | f + 1, g + 1, d, l, h1, h2 => by
    unfold pLoop
    split
    · rfl
    · cases hh : pHead l with
      | none => rfl
      | some x =>
        obtain ⟨hd, b, r⟩ := x
        have hl := pHead_len hh
        cases b
        · simp only
          rw [pLoop_fuel f g d r (by omega) (by omega)]
        · simp only
          rw [pLoop_fuel f g (d - 1) (r.drop 1) (by simp only [List.length_drop]; omega) (by simp only [List.length_drop]; omega)]
          cases hs : pLoop g (d - 1) (r.drop 1) with
          | form => rfl
          | deep => rfl
          | ok sub r1 =>
            have h3 := pLoop_len hs
            simp only [List.length_drop] at h3
            cases sub with
            | nil => rfl
            | cons a b c =>
              simp only
              rw [pLoop_fuel f g d r1 (by omega) (by omega)]
/-- One selection: its head, its set if one comes. -/
def pSel (d : Nat) (l : List Tk) : PR (Hd × Sels) :=
  match pHead l with
  | none => .form
  | some (h, false, r) => .ok (h, .nil) r
  | some (h, true, r) => (match pSet (d - 1) r with | .ok s r1 => .ok (h, s) r1 | .form => .form | .deep => .deep)
theorem pSet_ok {d : Nat} {l r : List Tk} {s : Sels} (h : pSet d l = .ok s r) : r.length < l.length ∧ s ≠ .nil := by
  unfold pSet at h
  split at h
  · rename_i hm
    have h0 := atM_len hm
    split at h
    · cases h
    · split at h
      · cases h
      · rename_i x hn
        have := pLoop_len h
        simp only [List.length_drop] at this
        refine ⟨by omega, ?_⟩
        rintro rfl
        exact hn r h
  · cases h
theorem pSel_len {d : Nat} {l r : List Tk} {x : Hd × Sels} (h : pSel d l = .ok x r) : r.length < l.length := by
  unfold pSel at h
  split at h
  · cases h
  · rename_i hd q hh
    cases h
    exact pHead_len hh
  · rename_i hd q hh
    have h1 := pHead_len hh
    split at h
    · rename_i s r1 hs
      cases h
      have := (pSet_ok hs).1; omega
    · cases h
    · cases h
/-- A set's selections, one after the other. -/
theorem pL_eq (d : Nat) (l : List Tk) : pL d l = if atM [125] l then .ok .nil (l.drop 1) else
    (match pSel d l with
    | .ok (h, s) r => (match pL d r with | .ok rest r2 => .ok (.cons h s rest) r2 | .form => .form | .deep => .deep)
    | .form => .form
    | .deep => .deep) := by
  unfold pL
  rw [pLoop]
  split
  · rfl
  · unfold pSel
    cases hh : pHead l with
    | none => rfl
    | some x =>
      obtain ⟨hd, b, r⟩ := x
      have hl := pHead_len hh
      cases b
      · simp only
        rw [pLoop_fuel l.length (r.length + 1) d r (by omega) (by omega)]
        cases pLoop (r.length + 1) d r <;> rfl
      · simp only
        unfold pSet
        by_cases hm : atM [123] r = true
        · rw [if_pos hm, if_pos hm]
          by_cases hd : d ≤ 1
          · rw [if_pos hd, if_pos (by omega)]
          · rw [if_neg hd, if_neg (by omega)]
            unfold pL
            rw [pLoop_fuel l.length ((r.drop 1).length + 1) (d - 1) (r.drop 1) (by simp only [List.length_drop]; omega) (by omega)]
            cases hs : pLoop ((r.drop 1).length + 1) (d - 1) (r.drop 1) with
            | form => rfl
            | deep => rfl
            | ok sub r1 =>
              have h3 := pLoop_len hs
              simp only [List.length_drop] at h3
              cases sub with
              | nil => rfl
              | cons a b c =>
                simp only
                rw [pLoop_fuel l.length (r1.length + 1) d r1 (by omega) (by omega)]
                cases pLoop (r1.length + 1) d r1 <;> rfl
        · rw [if_neg hm, if_neg hm]
theorem pDef_len {l r : List Tk} {x : De} (h : pDef l = .ok x r) : r.length < l.length := by
  unfold pDef at h
  split at h
  · cases h
  · rename_i k nm on q hh
    split at h
    · rename_i s r1 hs
      cases h
      have h1 := (pSet_ok hs).1
      have h2 : q.length ≤ l.length := by
        unfold pDefHead at hh
        split at hh
        · cases hh; exact Nat.le_refl _
        · split at hh
          · cases hh
          · split at hh
            · split at hh <;> (cases hh; simp only [List.length_drop]; omega)
            · split at hh
              · split at hh
                · split at hh
                  · cases hh; simp only [List.length_drop]; omega
                  · cases hh
                · cases hh
              · cases hh
      omega
    · cases h
    · cases h
theorem pDefsF_fuel : ∀ (f g : Nat) (l : List Tk), l.length < f → l.length < g → pDefsF f l = pDefsF g l
  | 0, _, _, h, _ => by omega
  | _ + 1, 0, _, _, h => by omega
  | f + 1, g + 1, l, h1, h2 => by
    unfold pDefsF
    cases hd : pDef l with
    | form => rfl
    | deep => rfl
    | ok x r =>
      have := pDef_len hd
      cases r with
      | nil => rfl
      | cons t q =>
        simp only
        rw [pDefsF_fuel f g (t :: q) (by omega) (by omega)]
theorem pDoc_eq (l : List Tk) : pDoc l = match pDef l with
    | .ok x [] => .ok [x] []
    | .ok x r => (match pDoc r with | .ok xs r2 => .ok (x :: xs) r2 | .form => .form | .deep => .deep)
    | .form => .form
    | .deep => .deep := by
  unfold pDoc
  rw [pDefsF]
  cases hd : pDef l with
  | form => rfl
  | deep => rfl
  | ok x r =>
    have := pDef_len hd
    cases r with
    | nil => rfl
    | cons t q =>
      simp only
      rw [pDefsF_fuel l.length ((t :: q).length + 1) (t :: q) (by omega) (by omega)]
      cases pDefsF ((t :: q).length + 1) (t :: q) <;> rfl
end Go.Proofs.YtlilfbcngncllaaGreatDoor
