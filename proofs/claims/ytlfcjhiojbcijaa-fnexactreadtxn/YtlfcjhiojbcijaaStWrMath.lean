/- What is written, in plain terms. -/
import Derived.Test.YtlfcjhiojbcijaaStUpMath
namespace Go.Proofs.Ytlfcjhiojbcijaa.G
set_option linter.unusedVariables false

/-- A chain without a last version of that hour. -/
def cutC (t : Int) (x : List Ve) : List Ve := if 0 < x.length ∧ tsAt x (x.length - 1) = t then x.take (x.length - 1) else x
def wrC (t : Int) (x : List Ve) (v : Int) : List Ve := cutC t x ++ [⟨t, v⟩]
def wrS (t : Int) (l : Chs) (p : Ve) : Chs := l.set p.ts.toNat (wrC t (chAt l p.ts.toNat) p.v)
def wrAll (t : Int) (l : Chs) (ps : List Ve) : Chs := ps.foldl (wrS t) l
theorem wrS_len (t : Int) (l : Chs) (p : Ve) : (wrS t l p).length = l.length := by simp [wrS]
theorem wrAll_len (t : Int) : ∀ (ps : List Ve) (l : Chs), (wrAll t l ps).length = l.length
  | [], l => rfl
  | p :: ps, l => by
    show (wrAll t (wrS t l p) ps).length = _
    rw [wrAll_len t ps, wrS_len]
theorem wrAll_take (t : Int) (l : Chs) {ps : List Ve} {k : Nat} (h : k < ps.length) : wrAll t l (ps.take (k + 1)) = wrS t (wrAll t l (ps.take k)) ps[k] := by
  unfold wrAll; rw [List.take_succ_eq_append_getElem h, List.foldl_append]; rfl
theorem cutC_len (t : Int) (x : List Ve) : (cutC t x).length ≤ x.length := by unfold cutC; split <;> simp
theorem wrC_len (t : Int) (x : List Ve) (v : Int) : (wrC t x v).length ≤ x.length + 1 := by have := cutC_len t x; simp [wrC]; omega
theorem wrS_bd {t : Int} {l : Chs} {p : Ve} {m : Nat} (h : ∀ x ∈ l, x.length ≤ m) : ∀ x ∈ wrS t l p, x.length ≤ m + 1 := by
  intro x hx
  rcases List.mem_or_eq_of_mem_set hx with hx | hx
  · have := h x hx; omega
  · rw [hx]
    have h1 := wrC_len t (chAt l p.ts.toNat) p.v
    have h2 : (chAt l p.ts.toNat).length ≤ m := by
      unfold chAt
      by_cases hk : p.ts.toNat < l.length
      · rw [List.getElem?_eq_getElem hk]; exact h _ (List.getElem_mem hk)
      · rw [List.getElem?_eq_none (by omega)]; simp
    omega
theorem wrAll_bd {t : Int} : ∀ (ps : List Ve) {l : Chs} {m : Nat}, (∀ x ∈ l, x.length ≤ m) → ∀ x ∈ wrAll t l ps, x.length ≤ m + ps.length
  | [], l, m, h => h
  | p :: ps, l, m, h => by
    intro x hx
    have := wrAll_bd ps (wrS_bd (t := t) (p := p) h) x hx
    simp only [List.length_cons]; omega
end Go.Proofs.Ytlfcjhiojbcijaa.G
