/- What the specification's text of StoreOK computes. -/
import Derived.Test.YtepdgcbbnoiajaaStImpl
namespace Go.Proofs.Ytepdgcbbnoiajaa.G
open Go.ChangeShapes Go.WideShapes Go.ChangeAt Go.RowKit
set_option linter.unusedVariables false

def inS (v lo hi : Int) : Bool := decide (lo ≤ v ∧ v ≤ hi)
theorem inS_iff (v lo hi : Int) : inS v lo hi = true ↔ lo ≤ v ∧ v ≤ hi := by simp [inS]
theorem inB_not {v lo hi : Int} : inS v lo hi = false ↔ ¬ (lo ≤ v ∧ v ≤ hi) := by rw [← Bool.not_eq_true, inS_iff]
/-- One version as the specification looks at it. -/
theorem okB_spec {key now : Int} {l : List Ve} {k : Nat} (hlt : k < l.length) (hp : ∀ i, i < k → okB key now l i = true) (h1 : 1 ≤ l[k].ts) (h2 : l[k].ts ≤ now) (h3 : valB key l[k].v = true) (h4 : ∀ (h : 0 < k), (l[k - 1]'(by omega)).ts < l[k].ts) : okB key now l k = true := by
  refine okB_mk ?_ (by rw [tsAt_eq hlt]; exact h2) (by rw [vAt_eq hlt]; exact h3)
  rw [tsAt_eq hlt]
  cases k with
  | zero => simp only [prevTs]; omega
  | succ k => simp only [prevTs]; rw [tsAt_eq (by omega)]; exact h4 (by omega)
theorem okB_spec1 {key now : Int} {l : List Ve} {k : Nat} (hlt : k < l.length) (hp : ∀ i, i < k → okB key now l i = true) (h1 : ¬ (1 ≤ l[k].ts ∧ l[k].ts ≤ now)) : okB key now l k = false := by
  by_cases h2 : l[k].ts ≤ now
  · refine okB_no1 ?_
    rw [tsAt_eq hlt]
    cases k with
    | zero => simp only [prevTs]; omega
    | succ k =>
      simp only [prevTs]
      have hc : chainB key now (l.take (k + 1)) = true := chainB_true (fun i hi => by
        have hi' : i < k + 1 := by simp at hi; omega
        have := hp i hi'
        unfold okB at this ⊢
        rw [show tsAt (l.take (k + 1)) i = tsAt l i by simp [tsAt, hi'], show vAt (l.take (k + 1)) i = vAt l i by simp [vAt, hi'], show prevTs (l.take (k + 1)) i = prevTs l i by
          cases i with
          | zero => rfl
          | succ i => simp only [prevTs]; simp [tsAt, show i < k + 1 by omega]]
        exact this)
      have := (chain_pos hc k (by simp; omega)).1
      rw [show tsAt (l.take (k + 1)) k = tsAt l k by simp [tsAt]] at this
      omega
  · exact okB_no2 (by rw [tsAt_eq hlt]; exact h2)
theorem okB_spec4 {key now : Int} {l : List Ve} {k : Nat} (hlt : k < l.length) (h0 : 0 < k) (h1 : (l[k - 1]'(by omega)).ts ≥ l[k].ts) : okB key now l k = false := by
  refine okB_no1 ?_
  rw [tsAt_eq hlt]
  obtain ⟨j, rfl⟩ : ∃ j, k = j + 1 := ⟨k - 1, by omega⟩
  simp only [prevTs]
  rw [tsAt_eq (by omega)]
  simp only [Nat.add_sub_cancel] at h1
  omega
end Go.Proofs.Ytepdgcbbnoiajaa.G
