/- The specification's test of a schema. -/
import Derived.Test.YtkjndghkimnjeaaGreatVaFields
namespace Go.Proofs.YtkjndghkimnjeaaGreat.G
open Go.ChangeShapes Go.WideShapes Go.ChangeAt Go.RowKit Go.Maps
set_option linter.unusedVariables false

def isTn (s : ByteArray) : Bool := s.toList == [95, 95, 116, 121, 112, 101, 110, 97, 109, 101]
def GoodN (ns : List ByteArray) (j : Nat) : Prop := ∀ h : j < ns.length, nameB ns[j] = true ∧ seen (ns.take j) ns[j] = false
theorem okN_of {ns : List ByteArray} (h : ∀ j, j < ns.length → GoodN ns j) : OkN ns := fun j hj => h j hj hj
theorem OkN.good {ns : List ByteArray} (h : OkN ns) (j : Nat) : GoodN ns j := fun hj => h j hj
theorem in_list : bIn.toList = [73, 110, 116] := by rw [ByteArray.toList_eq]
theorem tn_list : bTn.toList = [95, 95, 116, 121, 112, 101, 110, 97, 109, 101] := by rw [ByteArray.toList_eq]
theorem no_in {ns : List ByteArray} (h : ∀ s ∈ ns, isIn s = false) : seen ns bIn = false := by
  unfold seen; rw [List.any_eq_false]
  intro s hs; have := h s hs; unfold isIn at this; rw [in_list]; simpa using this
theorem no_tn {ns : List ByteArray} (h : ∀ s ∈ ns, isTn s = false) : seen ns bTn = false := by
  unfold seen; rw [List.any_eq_false]
  intro s hs; have := h s hs; unfold isTn at this; rw [tn_list]; simpa using this
theorem in_seen {ns : List ByteArray} {s : ByteArray} (hs : s ∈ ns) (h : isIn s = true) : seen ns bIn = true := by
  unfold seen; rw [List.any_eq_true]; exact ⟨s, hs, by rw [in_list]; exact h⟩
theorem tn_seen {ns : List ByteArray} {s : ByteArray} (hs : s ∈ ns) (h : isTn s = true) : seen ns bTn = true := by
  unfold seen; rw [List.any_eq_true]; exact ⟨s, hs, by rw [tn_list]; exact h⟩
/-- What is known behind some fields, behind some types. -/
def PreF (ts : List ByteArray) (fs : List Fd) (k : Nat) : Prop := (∀ j, j < k → GoodN (fs.map Fd.nm) j) ∧ (∀ f ∈ fs.take k, isTn f.nm = false ∧ FdOK ts f)
def PreT (l : List Td) (k : Nat) : Prop := (∀ j, j < k → GoodN (l.map Td.nm) j) ∧ (∀ x ∈ l.take k, isIn x.nm = false ∧ TdOK (l.map Td.nm) x)
theorem good_next {ns : List ByteArray} {k : Nat} (h : ∀ j, j < k → GoodN ns j) (hk : GoodN ns k) : ∀ j, j < k + 1 → GoodN ns j := by
  intro j hj
  by_cases e : j = k
  · subst e; exact hk
  · exact h j (by omega)
theorem PreF.done {ts : List ByteArray} {x : Td} (h : PreF ts x.fs x.fs.length) (h1 : 1 ≤ x.fs.length) (h2 : x.fs.length ≤ 10) : TdOK ts x := by
  obtain ⟨a, b⟩ := h
  rw [List.take_length] at b
  refine ⟨h1, h2, okN_of (fun j hj => a j (by simpa using hj)), no_tn ?_, fun f hf => (b f hf).2⟩
  intro s hs
  obtain ⟨f, hf, rfl⟩ := List.mem_map.1 hs
  exact (b f hf).1
theorem PreT.done {l : List Td} (h : PreT l l.length) (h1 : 1 ≤ l.length) (h2 : l.length ≤ 8) (hq : seen (l.map Td.nm) bQu = true) : SchOK l := by
  obtain ⟨a, b⟩ := h
  rw [List.take_length] at b
  refine ⟨h1, h2, hq, no_in ?_, okN_of (fun j hj => a j (by simpa using hj)), fun x hx => (b x hx).2⟩
  intro s hs
  obtain ⟨f, hf, rfl⟩ := List.mem_map.1 hs
  exact (b f hf).1

theorem spec_name_of {s : ByteArray} {b : Bool} (h : nameB s = b) (w : World) (hs : s.size ≤ maxLen) :
    Calls Tryz.prog 39 #[.string s] w fun e w' => e = .returned (.bool b) ∧ w' = w := by rw [← h]; exact spec_nameOK s w hs
end Go.Proofs.YtkjndghkimnjeaaGreat.G
