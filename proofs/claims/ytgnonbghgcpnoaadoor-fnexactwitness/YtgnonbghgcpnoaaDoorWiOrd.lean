/- The witness's order in plain terms: one list alone is in that order. -/
import Derived.Test.YtgnonbghgcpnoaaDoorWiMath
namespace Go.Proofs.YtgnonbghgcpnoaaDoor
open Go.ChangeShapes Go.WideShapes Go.ChangeAt Go.RowKit
set_option linter.unusedVariables false

def gD (l : List Dn) (z : Int) : Dn := (l[z.toNat]?).getD default
/-- By the hour; who wrote first; then as they stand. -/
def LtZ (l : List Dn) (x y : Int) : Prop := (gD l x).ts < (gD l y).ts ∨ ((gD l x).ts = (gD l y).ts ∧ (rk (gD l x) < rk (gD l y) ∨ (rk (gD l x) = rk (gD l y) ∧ x < y)))
def ltZ (l : List Dn) (x y : Int) : Bool := decide ((gD l x).ts < (gD l y).ts ∨ ((gD l x).ts = (gD l y).ts ∧ (rk (gD l x) < rk (gD l y) ∨ (rk (gD l x) = rk (gD l y) ∧ x < y))))
theorem ltZ_iff {l : List Dn} {x y : Int} : ltZ l x y = true ↔ LtZ l x y := by unfold ltZ LtZ; exact decide_eq_true_iff
theorem LtZ.trans {l : List Dn} {x y z : Int} (h : LtZ l x y) (k : LtZ l y z) : LtZ l x z := by unfold LtZ at *; omega
theorem LtZ.irrefl {l : List Dn} {x : Int} (h : LtZ l x x) : False := by unfold LtZ at *; omega
theorem LtZ.total {l : List Dn} {x y : Int} (h : x ≠ y) (k : ¬ LtZ l x y) : LtZ l y x := by unfold LtZ at *; omega
theorem uniqZ {l : List Dn} : ∀ {a b : List Int}, a.Pairwise (LtZ l) → b.Pairwise (LtZ l) → (∀ z, z ∈ a ↔ z ∈ b) → a = b
  | [], [], _, _, _ => rfl
  | [], y :: b, _, _, h => by have := (h y).2 (by simp); simp at this
  | x :: a, [], _, _, h => by have := (h x).1 (by simp); simp at this
  | x :: a, y :: b, ha, hb, h => by
    rw [List.pairwise_cons] at ha hb
    have e : x = y := by
      have h1 := (h x).1 (by simp)
      have h2 := (h y).2 (by simp)
      simp only [List.mem_cons] at h1 h2
      rcases h1 with h1 | h1
      · exact h1
      · rcases h2 with h2 | h2
        · exact h2.symm
        · exact (LtZ.irrefl ((ha.1 y h2).trans (hb.1 x h1))).elim
    subst e
    congr 1
    refine uniqZ ha.2 hb.2 fun z => ⟨fun hz => ?_, fun hz => ?_⟩
    · have h1 := (h z).1 (by simp [hz])
      simp only [List.mem_cons] at h1
      rcases h1 with h1 | h1
      · subst h1; exact (LtZ.irrefl (ha.1 z hz)).elim
      · exact h1
    · have h1 := (h z).2 (by simp [hz])
      simp only [List.mem_cons] at h1
      rcases h1 with h1 | h1
      · subst h1; exact (LtZ.irrefl (hb.1 z hz)).elim
      · exact h1
def insZ (l : List Dn) (z : Int) : List Int → List Int
  | [] => [z]
  | y :: r => if ltZ l z y = true then z :: y :: r else y :: insZ l z r
theorem insZ_mem {l : List Dn} {z : Int} : ∀ {a : List Int} {u : Int}, u ∈ insZ l z a ↔ u = z ∨ u ∈ a
  | [], u => by simp [insZ]
  | y :: r, u => by
    unfold insZ
    split
    · simp
    · simp only [List.mem_cons, insZ_mem (a := r)]
      constructor
      · rintro (h | h | h)
        · exact .inr (.inl h)
        · exact .inl h
        · exact .inr (.inr h)
      · rintro (h | h | h)
        · exact .inr (.inl h)
        · exact .inl h
        · exact .inr (.inr h)
theorem insZ_pw {l : List Dn} {z : Int} : ∀ {a : List Int}, a.Pairwise (LtZ l) → z ∉ a → (insZ l z a).Pairwise (LtZ l)
  | [], _, _ => by simp [insZ]
  | y :: r, h, hz => by
    have h' := List.pairwise_cons.1 h
    unfold insZ
    split
    · rename_i hlt
      have hlt := ltZ_iff.1 hlt
      rw [List.pairwise_cons]
      refine ⟨fun u hu => ?_, h⟩
      simp only [List.mem_cons] at hu
      rcases hu with rfl | hu
      · exact hlt
      · exact hlt.trans (h'.1 u hu)
    · rename_i hlt
      rw [List.pairwise_cons]
      refine ⟨fun u hu => ?_, insZ_pw h'.2 fun q => hz (by simp [q])⟩
      rcases insZ_mem.1 hu with rfl | hu
      · exact LtZ.total (fun e => hz (by simp [e])) fun q => hlt (ltZ_iff.2 q)
      · exact h'.1 u hu
def witL (l : List Dn) : List Int → List Int
  | [] => []
  | z :: r => insZ l z (witL l r)
theorem witL_mem {l : List Dn} : ∀ {a : List Int} {u : Int}, u ∈ witL l a ↔ u ∈ a
  | [], u => by simp [witL]
  | z :: r, u => by simp only [witL, insZ_mem, witL_mem (a := r), List.mem_cons]
theorem witL_pw {l : List Dn} : ∀ {a : List Int}, a.Pairwise (· < ·) → (witL l a).Pairwise (LtZ l)
  | [], _ => by simp [witL]
  | z :: r, h => by
    have h' := List.pairwise_cons.1 h
    refine insZ_pw (witL_pw h'.2) fun q => ?_
    have := h'.1 z (witL_mem.1 q)
    omega
theorem insZ_len {l : List Dn} {z : Int} : ∀ {a : List Int}, (insZ l z a).length = a.length + 1
  | [] => rfl
  | y :: r => by
    unfold insZ
    split
    · rfl
    · simp [insZ_len (a := r)]
theorem witL_len {l : List Dn} : ∀ {a : List Int}, (witL l a).length = a.length
  | [] => rfl
  | z :: r => by simp [witL, insZ_len, witL_len (a := r)]
theorem comP_mem {l : List Dn} {z : Int} : ∀ {k : Nat}, z ∈ comP l k → ∃ p : Nat, z = p ∧ p < k ∧ comA l p = true
  | 0, h => by simp [comP] at h
  | k + 1, h => by
    unfold comP at h
    split at h
    · rename_i hc
      simp only [List.mem_append, List.mem_singleton] at h
      rcases h with h | h
      · obtain ⟨p, e, e1, e2⟩ := comP_mem h; exact ⟨p, e, by omega, e2⟩
      · exact ⟨k, h, by omega, hc⟩
    · obtain ⟨p, e, e1, e2⟩ := comP_mem h; exact ⟨p, e, by omega, e2⟩
theorem comP_pw {l : List Dn} : ∀ {k : Nat}, (comP l k).Pairwise (· < ·)
  | 0 => by simp [comP]
  | k + 1 => by
    unfold comP
    split
    · rw [List.pairwise_append]
      refine ⟨comP_pw, by simp, fun a ha b hb => ?_⟩
      obtain ⟨p, e, e1, _⟩ := comP_mem ha
      simp only [List.mem_singleton] at hb
      omega
    · exact comP_pw
def witP (l : List Dn) : List Int := witL l (comP l l.length)
def witR (l : List Dn) : List Int := if hisC l = 0 then witP l else []
theorem wit_of {l : List Dn} {a : List Int} (h : a.Pairwise (LtZ l)) (hm : ∀ z, z ∈ a ↔ z ∈ comP l l.length) : a = witP l :=
  uniqZ h (witL_pw comP_pw) fun z => by rw [hm z]; exact witL_mem.symm
theorem witP_len {l : List Dn} : (witP l).length = (comP l l.length).length := witL_len
theorem witR_len (l : List Dn) : (witR l).length ≤ 60 := by
  unfold witR
  split
  · rename_i h; have := his_len (hisC_zero h); have := comP_len l l.length; rw [witP_len]; omega
  · simp
theorem witR_not {l : List Dn} (h : hisC l ≠ 0) : witR l = [] := by unfold witR; rw [if_neg h]
theorem witR_ok {l : List Dn} (h : hisC l = 0) : witR l = witP l := by unfold witR; rw [if_pos h]
theorem witP_at {l : List Dn} {k : Nat} (h : k < (witP l).length) : ∃ p : Nat, (witP l)[k] = (p : Int) ∧ p < l.length ∧ comA l p = true := by
  have : (witP l)[k] ∈ comP l l.length := witL_mem.1 (List.getElem_mem h)
  exact comP_mem this
/-- Nobody stands in the order ahead of one that was done when it came. -/
def reaP (l : List Dn) (ws : List Int) : Bool := decide (∀ k, k < ws.length → ∀ i, i < k → (gD l (ws.getD i 0)).since ≤ ws.getD k 0)
def reaB (l : List Dn) : Bool := if hisC l = 0 then reaP l (witP l) else false
end Go.Proofs.YtgnonbghgcpnoaaDoor
