/- What a chain tells at an hour, in plain terms; codes of the questions. -/
import Derived.Test.YtepdgcbbnoiajaaStSpec
namespace Go.Proofs.Ytepdgcbbnoiajaa.G
set_option linter.unusedVariables false

/-- How many versions are not behind an hour. -/
def UpTo (l : List Ve) (ts : Int) (n : Nat) : Prop := n ≤ l.length ∧ (∀ i, i < n → tsAt l i ≤ ts) ∧ (∀ i, n ≤ i → i < l.length → ts < tsAt l i)
def Rise (l : List Ve) : Prop := ∀ i j, i < j → j < l.length → tsAt l i < tsAt l j
def readV (l : List Ve) (ts : Int) : Int := l.foldl (fun v x => if x.ts ≤ ts then x.v else v) 0
def chgB (l : List Ve) (ts : Int) : Bool := decide (0 < l.length) && decide (ts < tsAt l (l.length - 1))
def hourN (l : Chs) (now ts : Int) : Int := if storeB l now = true then (if inS ts 0 now = true then 0 else 4) else 1
def askN (l : Chs) (now key ts : Int) : Int := if hourN l now ts = 0 then (if keyS key = true then 0 else 4) else hourN l now ts
theorem UpTo.one {l : List Ve} {ts : Int} {n m : Nat} (h : UpTo l ts n) (k : UpTo l ts m) : n = m := by
  by_cases h1 : n < m
  · have a := k.2.1 n h1; have b := h.2.2 n (Nat.le_refl _) (by have := k.1; omega); omega
  · by_cases h2 : m < n
    · have a := h.2.1 m h2; have b := k.2.2 m (Nat.le_refl _) (by have := h.1; omega); omega
    · omega
theorem readV_take {l : List Ve} {ts : Int} {k : Nat} (hk : k < l.length) : readV (l.take (k + 1)) ts = if l[k].ts ≤ ts then l[k].v else readV (l.take k) ts := by
  unfold readV; rw [List.take_succ_eq_append_getElem hk, List.foldl_append]; rfl
theorem readV_upto {l : List Ve} {ts : Int} {n : Nat} (h : UpTo l ts n) : readV l ts = if n = 0 then 0 else vAt l (n - 1) := by
  have key : ∀ k, n ≤ k → k ≤ l.length → readV (l.take k) ts = readV (l.take n) ts := by
    intro k hk hkl
    induction k with
    | zero => rw [show n = 0 by omega]
    | succ k ih =>
      by_cases e : n = k + 1
      · rw [e]
      · rw [readV_take (by omega), if_neg, ih (by omega) (by omega)]
        have := h.2.2 k (by omega) (by omega)
        rw [tsAt_eq (by omega)] at this
        omega
  have hl := key l.length h.1 (Nat.le_refl _)
  rw [List.take_length] at hl
  rw [hl]
  by_cases e : n = 0
  · subst e; rw [if_pos rfl]; rfl
  · obtain ⟨m, rfl⟩ : ∃ m, n = m + 1 := ⟨n - 1, by omega⟩
    have h1 := h.1
    rw [if_neg (by omega), readV_take (by omega), if_pos, Nat.add_sub_cancel, vAt_eq (by omega)]
    have := h.2.1 m (by omega)
    rw [tsAt_eq (by omega)] at this
    exact this
theorem chgB_upto {l : List Ve} {ts : Int} {n : Nat} (h : UpTo l ts n) : chgB l ts = decide ((n : Int) < l.length) := by
  obtain ⟨h1, h2, h3⟩ := h
  unfold chgB
  rw [Bool.eq_iff_iff]
  simp only [Bool.and_eq_true, decide_eq_true_eq]
  constructor
  · rintro ⟨a, b⟩
    by_cases e : n < l.length
    · omega
    · have := h2 (l.length - 1) (by omega); omega
  · intro a
    exact ⟨by omega, h3 (l.length - 1) (by omega) (by omega)⟩
theorem hourN_zero {l : Chs} {now ts : Int} (h : hourN l now ts = 0) : storeB l now = true ∧ 0 ≤ ts ∧ ts ≤ now := by
  unfold hourN at h
  by_cases h1 : storeB l now = true
  · rw [if_pos h1] at h
    by_cases h2 : inS ts 0 now = true
    · exact ⟨h1, (inS_iff _ _ _).1 h2⟩
    · rw [if_neg h2] at h; omega
  · rw [if_neg h1] at h; omega
theorem askN_zero {l : Chs} {now key ts : Int} (h : askN l now key ts = 0) : storeB l now = true ∧ 0 ≤ ts ∧ ts ≤ now ∧ 0 ≤ key ∧ key < 16 := by
  unfold askN at h
  by_cases h1 : hourN l now ts = 0
  · rw [if_pos h1] at h
    by_cases h2 : keyS key = true
    · have := (keyB_iff key).1 h2
      have h3 := hourN_zero h1
      exact ⟨h3.1, h3.2.1, h3.2.2, this.1, this.2⟩
    · rw [if_neg h2] at h; omega
  · rw [if_neg h1] at h; omega
theorem store_rise {l : Chs} {now : Int} (h : storeB l now = true) {k : Nat} (hk : k < l.length) : Rise l[k] := chain_rise (chainsB_at (storeB_all h).2.2.2 hk)
end Go.Proofs.Ytepdgcbbnoiajaa.G
