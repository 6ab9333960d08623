/- The specification's text of a document. -/
import Derived.Test.YtiehcmdhfeeomaaDJoin
import Derived.Maps.OwnSet
namespace Go.Proofs.Ytiehcmdhfeeomaa
open Go.ChangeShapes Go.WideShapes Go.ChangeAt Go.RowKit
set_option linter.unusedVariables false

def dTexts (l : List De) : List ByteArray := l.map fun x => bl (defP x)
def dws (l : List De) (k : Nat) : List Value := (dTexts (l.take k)).map Value.string
theorem dws_take {l : List De} {k : Nat} (hk : k < l.length) : dws l k ++ [.string (bl (defP l[k]))] = dws l (k + 1) := by
  unfold dws dTexts
  rw [List.take_succ_eq_append_getElem hk]; simp only [List.map_append, List.map_cons, List.map_nil]
theorem docT_snoc (l : List De) (x : De) : docT (l ++ [x]) = docT l ++ 32 :: defP x := by
  induction l with
  | nil => simp [docT]
  | cons y l ih => simp only [List.cons_append, docT, ih, List.append_assoc]
theorem docP_snoc (l : List De) (x : De) (h : l ≠ []) : docP (l ++ [x]) = docP l ++ 32 :: defP x := by
  cases l with
  | nil => exact absurd rfl h
  | cons y l => simp only [List.cons_append, docP, docT_snoc, List.append_assoc]
theorem join_doc (l : List De) : ∀ k, k ≤ l.length → nl (joinTo (dTexts l) k) = docP (l.take k)
  | 0, _ => by simp [joinTo, docP, nl]
  | k + 1, h => by
    have ih := join_doc l k (by omega)
    have hg : (dTexts l).getD k ⟨#[]⟩ = bl (defP l[k]) := by
      unfold dTexts
      rw [List.getD_eq_getElem?_getD, List.getElem?_map, List.getElem?_eq_getElem (by omega)]; rfl
    rw [joinTo, hg, List.take_succ_eq_append_getElem (by omega), nl_app, nl_bl]
    by_cases h0 : 0 < k
    · rw [if_pos h0, nl_app, ih, docP_snoc _ _ (fun e => by have := congrArg List.length e; rw [List.length_take, List.length_nil] at this; omega)]
      simp [nl_lit]
    · have : k = 0 := by omega
      subst this
      rw [if_neg (by omega)]
      simp [joinTo, docP, docT, nl]
theorem joinS_doc (l : List De) : joinS (dTexts l) = bl (docP l) := by
  refine bl_of ?_
  have := join_doc l l.length (Nat.le_refl _)
  rw [List.take_length] at this
  rw [← this]
  unfold joinS
  rw [show (dTexts l).length = l.length by simp [dTexts]]
structure DeGood (x : De) : Prop where
  nm : x.nm.size ≤ 40
  on : x.on.size ≤ 40
  kind : x.k = 1 ∨ x.k = 2 ∨ x.k = 3
  no : ¬ x.k = 3 → noB x.on = true
  yes : x.k = 3 → noB x.on = false
  ok : okS 7 x.sels = true
theorem def_good {x : De} (h : defB x = true) : DeGood x := by
  unfold defB at h
  simp only [Bool.and_eq_true] at h
  obtain ⟨⟨hh, _⟩, hok⟩ := h
  unfold headB at hh
  split at hh
  · rename_i hk
    simp only [Bool.and_eq_true, Bool.or_eq_true] at hh
    have h1 := no_len hh.2
    refine ⟨?_, by omega, by omega, fun _ => hh.2, fun h3 => by omega, hok⟩
    rcases hh.1 with h2 | h2
    · have := no_len h2; omega
    · exact name_len h2
  · rename_i hk
    split at hh
    · rename_i h3
      simp only [Bool.and_eq_true] at hh
      exact ⟨name_len hh.1.1, name_len hh.2, by omega, fun h => absurd h3 h, fun _ => name_no hh.2, hok⟩
    · cases hh
theorem defP_len {x : De} (g : DeGood x) (h60 : x.sels.size ≤ 60) : (defP x).length ≤ 61000 := by
  have h1 := g.nm
  have h2 := g.on
  have h3 := selsP_len x.sels g.ok
  have h4 : (kindP x.k).length ≤ 8 := by unfold kindP; split <;> (try split) <;> simp
  unfold defP
  simp only [List.length_append, List.length_cons]
  have h5 : (if noB x.nm = true then ([] : List UInt8) else 32 :: nl x.nm).length ≤ 41 := by split <;> simp only [List.length_cons, List.length_nil, nl_len] <;> omega
  have h6 : (if noB x.on = true then ([] : List UInt8) else 32 :: 111 :: 110 :: 32 :: nl x.on).length ≤ 44 := by split <;> simp only [List.length_cons, List.length_nil, nl_len] <;> omega
  omega
end Go.Proofs.Ytiehcmdhfeeomaa
