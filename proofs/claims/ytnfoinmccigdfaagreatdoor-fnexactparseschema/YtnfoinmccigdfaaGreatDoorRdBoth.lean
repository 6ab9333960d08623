/- Over tokens that are right the two readers see the same. -/
import Derived.Test.YtnfoinmccigdfaaGreatDoorRdSpec
namespace Go.Proofs.YtnfoinmccigdfaaGreatDoor
set_option linter.unusedVariables false

/-- Tokens as a text has them: a name is not empty, a mark has no number. -/
def TkOk (l : List Tk) : Prop := ∀ t ∈ l, (t.k = 1 → t.t.toList ≠ []) ∧ (t.k = 4 → t.n = 0)
theorem tokB_ok {l : List Tk} (h : ∀ t ∈ l, tokB t.k t.n t.t = true) : TkOk l := fun t ht => by
  have := h t ht
  refine ⟨fun hk he => ?_, fun hk => ?_⟩
  · rw [hk] at this
    unfold tokB at this
    revert this
    simp [nameB]
    intro _ h1
    have h2 : t.t.data.toList = [] := by rw [← ByteArray.toList_eq]; exact he
    have h3 : t.t.size = 0 := by
      have : t.t.data.size = 0 := by simpa using congrArg List.length h2
      exact this
    omega
  · rw [hk] at this
    unfold tokB at this
    simp at this
    omega
theorem isB_tk {l : List Tk} (h : TkOk l) (t : ByteArray) (i : Nat) : isB 4 t l i = tkE (nxT l i) ⟨4, 0, t⟩ := by
  unfold isB tkE nxT
  by_cases hi : i < l.length
  · rw [List.getElem?_eq_getElem hi, decide_eq_true hi]
    simp only [Bool.true_and]
    by_cases hk : l[i].k = 4
    · rw [(h _ (List.getElem_mem hi)).2 hk]
      simp
    · have : (l[i].k == 4) = false := by simpa using hk
      rw [this]; simp
  · rw [List.getElem?_eq_none (by omega), decide_eq_false hi]
    simp
theorem nmB_nm {l : List Tk} (h : TkOk l) (i : Nat) : (nmB l i = true ∧ (nmI l i).toList ≠ []) ∨ (nmB l i = false ∧ (nmI l i).toList = []) := by
  unfold nmB nmI nxT
  by_cases hi : i < l.length
  · rw [List.getElem?_eq_getElem hi, decide_eq_true hi]
    by_cases hk : l[i].k = 1
    · refine .inl ⟨by simp [hk], ?_⟩
      simp only [hk, if_true]
      exact (h _ (List.getElem_mem hi)).1 hk
    · refine .inr ⟨by simp [hk], ?_⟩
      simp only [hk, if_false]
      rw [ByteArray.toList_eq]
  · rw [List.getElem?_eq_none (by omega), decide_eq_false hi]
    refine .inr ⟨rfl, ?_⟩
    simp only
    rw [if_neg (by decide), ByteArray.toList_eq]
end Go.Proofs.YtnfoinmccigdfaaGreatDoor
