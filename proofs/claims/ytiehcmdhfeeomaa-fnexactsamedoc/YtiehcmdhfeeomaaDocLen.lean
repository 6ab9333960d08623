/- The texts of right documents: their parts in the order in which they are written, and their lengths. -/
import Derived.Test.YtiehcmdhfeeomaaPrintMath
import Derived.Lib.ItoaLen
namespace Go.Proofs.Ytiehcmdhfeeomaa
open Go.ChangeShapes Go.WideShapes Go.ChangeAt Go.RowKit
set_option linter.unusedVariables false

theorem nl_len (s : ByteArray) : (nl s).length = s.size := by unfold nl; rw [Array.length_toList]; rfl
theorem nl_app (a b : ByteArray) : nl (a ++ b) = nl a ++ nl b := by unfold nl; rw [ByteArray.data_append, Array.toList_append]
theorem name_len {s : ByteArray} (h : nameB s = true) : s.size ≤ 40 := by
  unfold nameB at h
  simp only [Bool.and_eq_true, decide_eq_true_eq] at h
  exact h.1.1.2
theorem no_len {s : ByteArray} (h : noB s = true) : s.size = 0 := by
  rw [noB_iff.1 h]; rfl
theorem valP_len {v : Va} (h : valB v = true) : (valP v).length ≤ 41 := by
  unfold valB at h
  unfold valP
  split
  · rename_i hk
    rw [if_pos hk, Bool.and_eq_true] at h
    have := h.1
    unfold intB at this
    rw [decide_eq_true_eq] at this
    have := Lib.itoa_length_le v.n (by omega) (by omega)
    omega
  · rename_i h1
    rw [if_neg h1] at h
    split
    · split <;> simp
    · rename_i h2
      rw [if_neg h2] at h
      split
      · rename_i h4
        rw [if_neg (by omega), if_pos h4, Bool.and_eq_true] at h
        have := name_len h.2
        simp only [List.length_cons, nl_len]
        omega
      · simp
theorem arP_len {x : Ar} (h : arB x = true) : (arP x).length ≤ 83 := by
  unfold arB at h
  rw [Bool.and_eq_true] at h
  have h1 := name_len h.1
  have h2 := valP_len h.2
  simp only [arP, List.length_append, List.length_cons, nl_len]
  omega
def aTail : List Ar → List UInt8
  | [] => []
  | x :: l => 32 :: (arP x ++ aTail l)
def aPre : List Ar → List UInt8
  | [] => []
  | x :: l => 40 :: (arP x ++ aTail l)
theorem aTail_snoc (l : List Ar) (x : Ar) : aTail (l ++ [x]) = aTail l ++ 32 :: arP x := by
  induction l with
  | nil => simp [aTail]
  | cons y l ih => simp only [List.cons_append, aTail, ih, List.append_assoc]
theorem aPre_snoc (l : List Ar) (x : Ar) (h : l ≠ []) : aPre (l ++ [x]) = aPre l ++ 32 :: arP x := by
  cases l with
  | nil => exact absurd rfl h
  | cons y l => simp only [List.cons_append, aPre, aTail_snoc, List.append_assoc]
theorem argsT_eq (l : List Ar) : argsT l = aTail l ++ [41] := by
  induction l with
  | nil => rfl
  | cons x l ih => simp only [argsT, aTail, ih, List.cons_append, List.append_assoc]
theorem argsP_eq (l : List Ar) (h : l ≠ []) : argsP l = aPre l ++ [41] := by
  cases l with
  | nil => exact absurd rfl h
  | cons x l => simp only [argsP, aPre, argsT_eq, List.cons_append, List.append_assoc]
theorem aTail_len {l : List Ar} (h : ∀ x ∈ l, arB x = true) : (aTail l).length ≤ 84 * l.length := by
  induction l with
  | nil => simp [aTail]
  | cons x l ih =>
    have h1 := arP_len (h x (by simp))
    have h2 := ih (fun y hy => h y (by simp [hy]))
    simp only [aTail, List.length_cons, List.length_append]
    omega
theorem aPre_len {l : List Ar} (h : ∀ x ∈ l, arB x = true) : (aPre l).length ≤ 84 * l.length := by
  cases l with
  | nil => simp [aPre]
  | cons x l =>
    have h1 := arP_len (h x (by simp))
    have h2 := aTail_len (l := l) (fun y hy => h y (by simp [hy]))
    simp only [aPre, List.length_cons, List.length_append]
    omega
theorem aPre_take {l : List Ar} {k : Nat} (hk : k < l.length) (h0 : 0 < k) : aPre (l.take (k + 1)) = aPre (l.take k) ++ 32 :: arP l[k] := by
  rw [List.take_succ_eq_append_getElem hk]
  refine aPre_snoc _ _ (fun h => ?_)
  have := congrArg List.length h
  rw [List.length_take, List.length_nil] at this
  omega
theorem aPre_one {l : List Ar} (hk : 0 < l.length) : aPre (l.take 1) = 40 :: arP l[0] := by
  cases l with
  | nil => simp at hk
  | cons x l => simp [aPre, aTail]
theorem dirsP_snoc (l : List Di) (x : Di) : dirsP (l ++ [x]) = dirsP l ++ diP x := by
  induction l with
  | nil => simp [dirsP]
  | cons y l ih => simp only [List.cons_append, dirsP, ih, List.append_assoc]
theorem dirsP_take {l : List Di} {k : Nat} (hk : k < l.length) : dirsP (l.take (k + 1)) = dirsP (l.take k) ++ diP l[k] := by
  rw [List.take_succ_eq_append_getElem hk, dirsP_snoc]
theorem diP_len {x : Di} (h : diB x = true) : (diP x).length ≤ 60 := by
  have := valP_len (v := x.v) h
  unfold diP wordP
  split <;> simp only [List.length_append, List.length_cons, List.length_nil] <;> omega
theorem dirsP_len {l : List Di} (h : ∀ x ∈ l, diB x = true) : (dirsP l).length ≤ 60 * l.length := by
  induction l with
  | nil => simp [dirsP]
  | cons x l ih =>
    have h1 := diP_len (h x (by simp))
    have h2 := ih (fun y hy => h y (by simp [hy]))
    simp only [dirsP, List.length_cons, List.length_append]
    omega
/-- What is asked of a selection's head for its text. -/
structure HdGood (h : Hd) : Prop where
  nm : h.nm.size ≤ 40
  al : h.al.size ≤ 40
  args : h.args.length ≤ 4
  dirs : h.dirs.length ≤ 4
  arB : ∀ x ∈ h.args, arB x = true
  diB : ∀ x ∈ h.dirs, diB x = true
  kind : h.k = 1 ∨ h.k = 2 ∨ h.k = 3
theorem hd_good {h : Hd} {z : Bool} (hh : hdB h z = true) : HdGood h := by
  unfold hdB argsB dirsB at hh
  simp only [Bool.and_eq_true, decide_eq_true_eq, List.all_eq_true] at hh
  obtain ⟨⟨⟨a1, a2⟩, d1, d2⟩, hk⟩ := hh
  unfold kindB at hk
  split at hk
  · rename_i k1
    simp only [Bool.and_eq_true, Bool.or_eq_true] at hk
    refine ⟨name_len hk.1, ?_, a1, d1, a2, d2, .inl k1⟩
    rcases hk.2 with h2 | h2
    · have := no_len h2; omega
    · exact name_len h2
  · split at hk
    · rename_i k1 k2
      simp only [Bool.and_eq_true] at hk
      exact ⟨name_len hk.1.1.1.1, by have := no_len hk.1.1.2; omega, a1, d1, a2, d2, .inr (.inl k2)⟩
    · split at hk
      · rename_i k1 k2 k3
        simp only [Bool.and_eq_true, Bool.or_eq_true] at hk
        refine ⟨?_, by have := no_len hk.1.1.2; omega, a1, d1, a2, d2, .inr (.inr k3)⟩
        rcases hk.1.1.1 with h2 | h2
        · have := no_len h2; omega
        · exact name_len h2
      · cases hk
theorem headP_len {h : Hd} (g : HdGood h) : (headP h).length ≤ 90 := by
  have h1 := g.nm
  have h2 := g.al
  unfold headP
  split
  · split <;> simp only [List.length_append, List.length_cons, nl_len] <;> omega
  · split
    · simp only [List.length_cons, nl_len]; omega
    · split <;> simp only [List.length_cons, List.length_nil, nl_len] <;> omega
/-- One selection's text. -/
def selP (h : Hd) (sub : Sels) : List UInt8 := headP h ++ (argsP h.args ++ (dirsP h.dirs ++ (if sub.isNil then [] else 32 :: 123 :: selsP sub)))
theorem selsP_cons (h : Hd) (sub rest : Sels) : selsP (.cons h sub rest) = 32 :: (selP h sub ++ selsP rest) := by
  simp only [selsP, selP, List.append_assoc]
theorem argsP_len {l : List Ar} (h : ∀ x ∈ l, arB x = true) (hl : l.length ≤ 4) : (argsP l).length ≤ 340 := by
  by_cases h0 : l = []
  · subst h0; simp [argsP]
  · have := aPre_len h
    rw [argsP_eq l h0, List.length_append]
    simp only [List.length_cons, List.length_nil]
    omega
theorem selsP_len : ∀ (l : Sels) {d : Nat}, okS d l = true → (selsP l).length ≤ 1000 * l.size + 2
  | .nil, d, _ => by simp [selsP, Sels.size]
  | .cons h sub rest, d, hk => by
    unfold okS at hk
    simp only [Bool.and_eq_true] at hk
    have g := hd_good hk.1.1.2
    have h1 := headP_len g
    have h2 := argsP_len g.arB g.args
    have h3 := dirsP_len g.diB
    have h4 := g.dirs
    have h5 := selsP_len sub hk.1.2
    have h6 := selsP_len rest hk.2
    rw [selsP_cons]
    simp only [selP, List.length_append, List.length_cons, Sels.size]
    split <;> simp only [List.length_cons, List.length_nil] <;> omega
end Go.Proofs.Ytiehcmdhfeeomaa
