/- CheckTypes: what the specification looks up, in the words of what is told. -/
import Derived.Test.YtjkkphfdcoejlaaGreatTyCodes
import Derived.Test.YtjkkphfdcoejlaaGreatTyArgsSpec
import Derived.Test.YtjkkphfdcoejlaaGreatSchSpec
namespace Go.Proofs.YtjkkphfdcoejlaaGreat
open Go.ChangeShapes Go.WideShapes Go.ChangeAt Go.RowKit
set_option linter.unusedVariables false

theorem ba_ext {s t : ByteArray} (h : s.toList = t.toList) : s = t := by
  rw [ByteArray.toList_eq, ByteArray.toList_eq] at h
  obtain ⟨⟨a⟩⟩ := s
  obtain ⟨⟨b⟩⟩ := t
  simp only at h
  rw [h]
/-- One selection with what is in it. -/
def oneC (S : List G.Td) (D : List De) (t : G.Td) (h : Hd) (sub : Sels) : Int := if selC D t h sub.isNil = 0 then setC S D (inT S t h) sub else selC D t h sub.isNil
theorem setC_one (S : List G.Td) (D : List De) (t : G.Td) (h : Hd) (sub rest : Sels) : setC S D t (.cons h sub rest) = if oneC S D t h sub = 0 then setC S D t rest else oneC S D t h sub := by
  simp only [setC, oneC]
  by_cases h1 : selC D t h sub.isNil = 0
  · simp only [h1, if_true]
  · simp only [h1, if_false]
theorem setC_nil (S : List G.Td) (D : List De) (t : G.Td) {sub : Sels} (h : sub.isNil = true) : setC S D t sub = 0 := by
  cases sub with
  | nil => rfl
  | cons _ _ _ => cases h
theorem one_no {S : List G.Td} {D : List De} {t : G.Td} {h : Hd} {sub : Sels} {y : Int} (hy : selC D t h sub.isNil = y) (h0 : y ≠ 0) : y = oneC S D t h sub := by
  unfold oneC; rw [hy, if_neg h0]
theorem one_yes {S : List G.Td} {D : List De} {t : G.Td} {h : Hd} {sub : Sels} (hy : selC D t h sub.isNil = 0) : oneC S D t h sub = setC S D (inT S t h) sub := by
  unfold oneC; rw [hy, if_pos rfl]
theorem sel_dirs {D : List De} {t : G.Td} {h : Hd} {z : Bool} (hd : h.dirs.all dirB = false) : selC D t h z = 10 := by unfold selC; rw [if_pos hd]
theorem sel_spread {D : List De} {t : G.Td} {h : Hd} {z : Bool} (hd : h.dirs.all dirB = true) (hk : h.k = 2) : selC D t h z = if frOK D h.nm t.nm = true then 0 else 12 := by
  unfold selC; rw [if_neg (by rw [hd]; simp), if_pos (by rw [hk]; rfl)]
theorem sel_inline {D : List De} {t : G.Td} {h : Hd} {z : Bool} (hd : h.dirs.all dirB = true) (hk : h.k = 3) : selC D t h z = if inlOK h.nm t.nm = true then 0 else 12 := by
  unfold selC; rw [if_neg (by rw [hd]; simp), if_neg (by rw [hk]; decide), if_pos (by rw [hk]; rfl)]
theorem sel_none {D : List De} {t : G.Td} {h : Hd} {z : Bool} (hd : h.dirs.all dirB = true) (hk : h.k = 1) (hf : fldOf t h.nm = none) : selC D t h z = 9 := by
  unfold selC; rw [if_neg (by rw [hd]; simp), if_neg (by rw [hk]; decide), if_neg (by rw [hk]; decide), hf]
theorem sel_fld {D : List De} {t : G.Td} {h : Hd} {z : Bool} {f : G.Fd} (hd : h.dirs.all dirB = true) (hk : h.k = 1) (hf : fldOf t h.nm = some f) : selC D t h z = fldC f h.args z := by
  unfold selC; rw [if_neg (by rw [hd]; simp), if_neg (by rw [hk]; decide), if_neg (by rw [hk]; decide), hf]
theorem inT_else {S : List G.Td} {t : G.Td} {h : Hd} (hk : h.k = 3) : inT S t h = t := by unfold inT; rw [if_neg (by rw [hk]; decide)]
theorem inT_fld {S : List G.Td} {t : G.Td} {h : Hd} {f : G.Fd} (hk : h.k = 1) (hf : fldOf t h.nm = some f) : inT S t h = (tdIn S f.ty).getD td0 := by unfold inT; rw [if_pos (by rw [hk]; rfl), hf]
theorem fld_tn {t : G.Td} {n : ByteArray} (h : isTn n = true) : fldOf t n = some fdTn := by unfold fldOf; rw [if_pos h]
theorem fldC_tn (args : List Ar) (z : Bool) : fldC fdTn args z = if args.isEmpty = false then 10 else if z = false then 11 else 0 := by
  have hI : G.isIn fdTn.ty = true := by unfold G.isIn fdTn; simp only; rw [G.in_list]; rfl
  cases args with
  | nil => unfold fldC; rw [hI]; cases z <;> rfl
  | cons x l =>
    unfold fldC
    have : argsN fdTn [] (x :: l) = false := by simp [argsN, argB, fdTn]
    rw [if_pos this]; rfl
theorem fldC_args {f : G.Fd} {args : List Ar} {z : Bool} : fldC f args z = if argC f args = 0 then (if (G.isIn f.ty != z) = true then 11 else 0) else argC f args := by
  unfold fldC argC
  rcases Bool.eq_false_or_eq_true (argsN f [] args) with h4 | h4 <;> rcases Bool.eq_false_or_eq_true (needsB f args) with h5 | h5 <;> simp [h4, h5]
/-- The first of a name is what is found. -/
theorem fi_find {l : List G.Fd} {n : ByteArray} {j : Nat} (hj : j < (l.map G.Fd.nm).length) (he : ((l.map G.Fd.nm)[j].toList == n.toList) = true) (hs : G.seen ((l.map G.Fd.nm).take j) n = false) : ∃ h : j < l.length, l.find? (fun f => f.nm.toList == n.toList) = some l[j] := by
  have hj' : j < l.length := by simpa using hj
  refine ⟨hj', find_here hj' ?_ (by simpa using he)⟩
  rw [List.find?_eq_none]
  intro f hf hc
  unfold G.seen at hs
  rw [List.any_eq_false] at hs
  obtain ⟨i, hi, rfl⟩ := List.mem_take_iff_getElem.1 hf
  refine hs l[i].nm ?_ hc
  rw [List.mem_take_iff_getElem]
  exact ⟨i, by simp; omega, by simp⟩
theorem fi_none {l : List G.Fd} {n : ByteArray} (hs : G.seen (l.map G.Fd.nm) n = false) : l.find? (fun f => f.nm.toList == n.toList) = none := by
  rw [List.find?_eq_none]
  intro f hf hc
  unfold G.seen at hs
  rw [List.any_eq_false] at hs
  exact hs f.nm (List.mem_map.2 ⟨f, hf, rfl⟩) hc
theorem fi_td {S : List G.Td} (hO : G.OkN (S.map G.Td.nm)) {t : G.Td} (ht : tdIn S t.nm = some t) {r : Int} (h : G.Fi (S.map G.Td.nm) t.nm r) : ∃ j, ∃ hj : j < S.length, r = j ∧ S[j] = t := by
  rcases h with ⟨rfl, hs⟩ | ⟨j, hj, rfl, he, hs⟩
  · exfalso
    have hm := List.mem_of_find?_eq_some ht
    unfold G.seen at hs
    rw [List.any_eq_false] at hs
    exact hs t.nm (List.mem_map.2 ⟨t, hm, rfl⟩) (by simp)
  · have hj' : j < S.length := by simpa using hj
    refine ⟨j, hj', rfl, ?_⟩
    have := td_find hO (List.getElem_mem hj') (n := t.nm) (by simpa using he)
    rw [ht] at this
    simpa using this.symm
theorem td_seen {S : List G.Td} {n : ByteArray} (h : G.seen (S.map G.Td.nm) n = true) : ∃ t, tdIn S n = some t ∧ t.nm = n := by
  unfold G.seen at h
  rw [List.any_eq_true] at h
  obtain ⟨s, hs, he⟩ := h
  obtain ⟨x, hx, rfl⟩ := List.mem_map.1 hs
  cases hf : tdIn S n with
  | none =>
    unfold tdIn at hf
    rw [List.find?_eq_none] at hf
    exact absurd he (hf x hx)
  | some t =>
    have h9 : (fun (t : G.Td) => t.nm.toList == n.toList) t = true := List.find?_some (p := fun (t : G.Td) => t.nm.toList == n.toList) hf
    exact ⟨t, rfl, ba_ext (beq_iff_eq.1 h9)⟩
theorem sub_nil {h : Hd} {z : Bool} (hh : hdB h z = true) (hk : h.k = 2) : z = true := by
  unfold hdB at hh
  rw [Bool.and_eq_true] at hh
  have := hh.2
  unfold kindB at this
  rw [if_neg (by rw [hk]; decide), if_pos hk] at this
  simp only [Bool.and_eq_true] at this
  exact this.2
theorem hd_vals {h : Hd} {z : Bool} (hh : hdB h z = true) : ∀ x ∈ h.args, valB x.v = true := by
  unfold hdB at hh
  rw [Bool.and_eq_true, Bool.and_eq_true] at hh
  have := hh.1.1
  unfold argsB at this
  rw [Bool.and_eq_true] at this
  intro x hx
  have := (List.all_eq_true.1 this.2) x hx
  unfold arB at this
  rw [Bool.and_eq_true] at this
  exact this.2
end Go.Proofs.YtjkkphfdcoejlaaGreat
