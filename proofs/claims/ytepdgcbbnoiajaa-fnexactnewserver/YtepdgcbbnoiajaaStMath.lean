/- What a right store is, in plain terms. -/
import Derived.Test.YtepdgcbbnoiajaaStRows
namespace Go.Proofs.Ytepdgcbbnoiajaa.G
set_option linter.unusedVariables false

def intB (v : Int) : Bool := decide (-2147483648 ≤ v ∧ v ≤ 2147483647)
def nodeB (v : Int) : Bool := decide (0 ≤ v ∧ v ≤ 8)
/-- A value of a key. -/
def valB (key v : Int) : Bool := if key % 2 = 1 then nodeB v else intB v
def keyS (key : Int) : Bool := decide (0 ≤ key ∧ key < 16)
def putB (key v : Int) : Bool := keyS key && valB key v
def tsAt (l : List Ve) (i : Nat) : Int := (l[i]?.map Ve.ts).getD 0
def vAt (l : List Ve) (i : Nat) : Int := (l[i]?.map Ve.v).getD 0
/-- The hour of the version ahead of one; 0 ahead of the first. -/
def prevTs (l : List Ve) : Nat → Int
  | 0 => 0
  | i + 1 => tsAt l i
def okB (key : Int) (now : Int) (l : List Ve) (i : Nat) : Bool := decide (prevTs l i < tsAt l i) && decide (tsAt l i ≤ now) && valB key (vAt l i)
def chainB (key : Int) (now : Int) (l : List Ve) : Bool := (List.range l.length).all (okB key now l)
def chAt (l : Chs) (i : Nat) : List Ve := l[i]?.getD []
def chainsB (l : Chs) (now : Int) : Bool := (List.range l.length).all (fun i => chainB i now (chAt l i))
def storeB (l : Chs) (now : Int) : Bool := decide (l.length = 16) && decide (0 ≤ now ∧ now ≤ 100000) && chainsB l now

theorem tsAt_eq {l : List Ve} {i : Nat} (h : i < l.length) : tsAt l i = l[i].ts := by simp [tsAt, h]
theorem vAt_eq {l : List Ve} {i : Nat} (h : i < l.length) : vAt l i = l[i].v := by simp [vAt, h]
theorem chAt_eq {l : Chs} {i : Nat} (h : i < l.length) : chAt l i = l[i] := by simp [chAt, h]
theorem chainB_true {key now : Int} {l : List Ve} (h : ∀ i, i < l.length → okB key now l i = true) : chainB key now l = true := by
  unfold chainB; rw [List.all_eq_true]; intro i hi; exact h i (List.mem_range.1 hi)
theorem chainB_false {key now : Int} {l : List Ve} {i : Nat} (hi : i < l.length) (h : okB key now l i = false) : chainB key now l = false := by
  unfold chainB; rw [List.all_eq_false]; exact ⟨i, List.mem_range.2 hi, by simp [h]⟩
theorem chainB_at {key now : Int} {l : List Ve} (h : chainB key now l = true) {i : Nat} (hi : i < l.length) : okB key now l i = true := by
  unfold chainB at h; rw [List.all_eq_true] at h; exact h i (List.mem_range.2 hi)
theorem chainsB_true {l : Chs} {now : Int} (h : ∀ i (hi : i < l.length), chainB i now l[i] = true) : chainsB l now = true := by
  unfold chainsB; rw [List.all_eq_true]; intro i hi; have hi := List.mem_range.1 hi; rw [chAt_eq hi]; exact h i hi
theorem chainsB_false {l : Chs} {now : Int} {i : Nat} (hi : i < l.length) (h : chainB i now l[i] = false) : chainsB l now = false := by
  unfold chainsB; rw [List.all_eq_false]; exact ⟨i, List.mem_range.2 hi, by simp [chAt_eq hi, h]⟩
theorem chainsB_at {l : Chs} {now : Int} (h : chainsB l now = true) {i : Nat} (hi : i < l.length) : chainB i now l[i] = true := by
  unfold chainsB at h; rw [List.all_eq_true] at h; have := h i (List.mem_range.2 hi); rwa [chAt_eq hi] at this
theorem storeB_len {l : Chs} {now : Int} (h : l.length ≠ 16) : storeB l now = false := by simp [storeB, h]
theorem storeB_now {l : Chs} {now : Int} (h : ¬ (0 ≤ now ∧ now ≤ 100000)) : storeB l now = false := by
  have : decide (0 ≤ now ∧ now ≤ 100000) = false := by simpa using h
  simp only [storeB, this]; simp
theorem storeB_chains {l : Chs} {now : Int} (h : l.length = 16) (h2 : 0 ≤ now ∧ now ≤ 100000) : storeB l now = chainsB l now := by simp [storeB, h, h2]
theorem storeB_all {l : Chs} {now : Int} (h : storeB l now = true) : l.length = 16 ∧ 0 ≤ now ∧ now ≤ 100000 ∧ chainsB l now = true := by
  simp only [storeB, Bool.and_eq_true, decide_eq_true_eq] at h
  exact ⟨h.1.1, h.1.2.1, h.1.2.2, h.2⟩
theorem okB_parts {key now : Int} {l : List Ve} {i : Nat} (h : okB key now l i = true) : prevTs l i < tsAt l i ∧ tsAt l i ≤ now ∧ valB key (vAt l i) = true := by
  simp only [okB, Bool.and_eq_true, decide_eq_true_eq] at h
  exact ⟨h.1.1, h.1.2, h.2⟩
theorem okB_mk {key now : Int} {l : List Ve} {i : Nat} (h1 : prevTs l i < tsAt l i) (h2 : tsAt l i ≤ now) (h3 : valB key (vAt l i) = true) : okB key now l i = true := by
  simp [okB, h1, h2, h3]
theorem okB_no1 {key now : Int} {l : List Ve} {i : Nat} (h1 : ¬ prevTs l i < tsAt l i) : okB key now l i = false := by simp [okB, h1]
theorem okB_no2 {key now : Int} {l : List Ve} {i : Nat} (h1 : ¬ tsAt l i ≤ now) : okB key now l i = false := by simp [okB, h1]
theorem okB_no3 {key now : Int} {l : List Ve} {i : Nat} (h1 : valB key (vAt l i) = false) : okB key now l i = false := by simp [okB, h1]
/-- The hours of a right chain rise. -/
theorem chain_rise {key now : Int} {l : List Ve} (h : chainB key now l = true) : ∀ i j, i < j → j < l.length → tsAt l i < tsAt l j := by
  intro i j hij hj
  induction j with
  | zero => omega
  | succ j ih =>
    have h1 := (okB_parts (chainB_at h hj)).1
    simp only [prevTs] at h1
    by_cases e : i = j
    · subst e; exact h1
    · have := ih (by omega) (by omega); omega
theorem chain_pos {key now : Int} {l : List Ve} (h : chainB key now l = true) : ∀ i, i < l.length → 1 ≤ tsAt l i ∧ tsAt l i ≤ now := by
  intro i hi
  have h0 := okB_parts (chainB_at h (show 0 < l.length by omega))
  simp only [prevTs] at h0
  have h1 := okB_parts (chainB_at h hi)
  by_cases e : i = 0
  · subst e; omega
  · have := chain_rise h 0 i (by omega) hi; omega
end Go.Proofs.Ytepdgcbbnoiajaa.G
