/- What the specification's text of StoreOK computes. -/
import Derived.Test.YtlfcjhiojbcijaaStImpl
namespace Go.Proofs.Ytlfcjhiojbcijaa.G
open Go.ChangeShapes Go.WideShapes Go.ChangeAt Go.RowKit
set_option linter.unusedVariables false

def inS (v lo hi : Int) : Bool := decide (lo ≤ v ∧ v ≤ hi)
theorem inS_iff (v lo hi : Int) : inS v lo hi = true ↔ lo ≤ v ∧ v ≤ hi := by simp [inS]
theorem inB_not {v lo hi : Int} : inS v lo hi = false ↔ ¬ (lo ≤ v ∧ v ≤ hi) := by rw [← Bool.not_eq_true, inS_iff]
set_option maxHeartbeats 400000 in
theorem spec_inS (v lo hi : Int) (w : World) {b : Bool} (h : inS v lo hi = b) : Calls Try.prog 22 #[.int .i64 v, .int .i64 lo, .int .i64 hi] w fun e w' => e = .returned (.bool b) ∧ w' = w := by
  have H : Hid (inS v lo hi = b) := h
  clear h
  go_enter Try.func22, Try.ntmps22
  go_wp2
  all_goals (go_ret; exact ⟨ret_b (by rw [← H.out]; unfold inS; rw [Bool.eq_iff_iff]; simp; try omega), rfl⟩)
set_option maxHeartbeats 400000 in
theorem spec_isInt (v : Int) (w : World) : Calls Try.prog 73 #[.int .i64 v] w fun e w' => e = .returned (.bool (intB v)) ∧ w' = w := by
  go_enter Try.func73, Try.ntmps73
  go_wp2_with (first | (go_at_call 22; refine (spec_inS _ _ _ _ rfl).mono ?_; rintro e w' ⟨rfl, rfl⟩))
  all_goals (go_ret; exact ⟨ret_b (by unfold intB; first | rfl | (rw [Bool.eq_iff_iff]; simp; try omega)), rfl⟩)
set_option maxHeartbeats 400000 in
theorem spec_value (key v : Int) (w : World) (h0 : 0 ≤ key) {b : Bool} (h : valB key v = b) : Calls Try.prog 63 #[.int .i64 key, .int .i64 v] w fun e w' => e = .returned (.bool b) ∧ w' = w := by
  have H : Hid (valB key v = b) := h
  clear h
  by_cases h2 : key % 2 = 1
  · have h2' : (key % 2 == 1) = true := by simpa using h2
    have HV : Hid (inS v 0 8 = b) := by rw [Hid, ← H.out, valB, if_pos h2]; rfl
    go_enter Try.func63, Try.ntmps63
    go_wp2_with (first | (go_at_call 22; refine (spec_inS _ _ _ _ HV.out).mono ?_; rintro e w' ⟨rfl, rfl⟩) | (go_at_call 73; refine (spec_isInt _ _).mono ?_; rintro e w' ⟨rfl, rfl⟩))
    go_ret
    exact ⟨rfl, rfl⟩
  · have h2' : (key % 2 == 1) = false := by simpa using h2
    have HV : Hid (intB v = b) := by rw [Hid, ← H.out, valB, if_neg h2]
    go_enter Try.func63, Try.ntmps63
    go_wp2_with (first | (go_at_call 22; refine (spec_inS _ _ _ _ HV.out).mono ?_; rintro e w' ⟨rfl, rfl⟩) | (go_at_call 73; refine (spec_isInt _ _).mono ?_; rintro e w' ⟨rfl, rfl⟩))
    go_ret
    exact ⟨ret_b HV.out, rfl⟩
/-- One version as the specification looks at it. -/
theorem okB_spec {key now : Int} {l : List Ve} {k : Nat} (hlt : k < l.length) (hp : ∀ i, i < k → okB key now l i = true) (h1 : 1 ≤ l[k].ts) (h2 : l[k].ts ≤ now) (h3 : valB key l[k].v = true) (h4 : ∀ (h : 0 < k), (l[k - 1]'(by omega)).ts < l[k].ts) : okB key now l k = true := by
  refine okB_mk ?_ (by rw [tsAt_eq hlt]; exact h2) (by rw [vAt_eq hlt]; exact h3)
  rw [tsAt_eq hlt]
  cases k with
  | zero => simp only [prevTs]; omega
  | succ k => simp only [prevTs]; rw [tsAt_eq (by omega)]; exact h4 (by omega)
theorem okB_spec1 {key now : Int} {l : List Ve} {k : Nat} (hlt : k < l.length) (hp : ∀ i, i < k → okB key now l i = true) (h1 : ¬ (1 ≤ l[k].ts ∧ l[k].ts ≤ now)) : okB key now l k = false := by
  by_cases h2 : l[k].ts ≤ now
  · refine okB_no1 ?_
    rw [tsAt_eq hlt]
    cases k with
    | zero => simp only [prevTs]; omega
    | succ k =>
      simp only [prevTs]
      have hc : chainB key now (l.take (k + 1)) = true := chainB_true (fun i hi => by
        have hi' : i < k + 1 := by simp at hi; omega
        have := hp i hi'
        unfold okB at this ⊢
        rw [show tsAt (l.take (k + 1)) i = tsAt l i by simp [tsAt, hi'], show vAt (l.take (k + 1)) i = vAt l i by simp [vAt, hi'], show prevTs (l.take (k + 1)) i = prevTs l i by
          cases i with
          | zero => rfl
          | succ i => simp only [prevTs]; simp [tsAt, show i < k + 1 by omega]]
        exact this)
      have := (chain_pos hc k (by simp; omega)).1
      rw [show tsAt (l.take (k + 1)) k = tsAt l k by simp [tsAt]] at this
      omega
  · exact okB_no2 (by rw [tsAt_eq hlt]; exact h2)
theorem okB_spec4 {key now : Int} {l : List Ve} {k : Nat} (hlt : k < l.length) (h0 : 0 < k) (h1 : (l[k - 1]'(by omega)).ts ≥ l[k].ts) : okB key now l k = false := by
  refine okB_no1 ?_
  rw [tsAt_eq hlt]
  obtain ⟨j, rfl⟩ : ∃ j, k = j + 1 := ⟨k - 1, by omega⟩
  simp only [prevTs]
  rw [tsAt_eq (by omega)]
  simp only [Nat.add_sub_cancel] at h1
  omega
end Go.Proofs.Ytlfcjhiojbcijaa.G
