/- CheckTypes: the codes of the program's rules, one by one, are a selection's code. -/
import Derived.Test.YtjkkphfdcoejlaaGreatTyNew
import Derived.Test.YtjkkphfdcoejlaaGreatTySpotFld
namespace Go.Proofs.YtjkkphfdcoejlaaGreat
open Go.ChangeShapes Go.WideShapes Go.ChangeAt Go.RowKit
set_option linter.unusedVariables false

def fnz : List Int → Int
  | [] => 0
  | x :: l => if x = 0 then fnz l else x
def codesOf (D : List De) (t : G.Td) (h : Hd) (f : G.Fd) (kn none : Bool) : List Int :=
  [if h.dirs.all dirB = true then 0 else 10, if ((h.k == 2) && !frOK D h.nm t.nm) = true then 12 else 0, if ((h.k == 3) && !inlOK h.nm t.nm) = true then 12 else 0, if ((h.k == 1) && !kn) = true then 9 else 0,
   if argsN f [] h.args = true then 0 else 10, if f.args.all (needB h.args) = true then 0 else 10, if ((h.k == 1) && (G.isIn f.ty != none)) = true then 11 else 0]
theorem hd_kind {h : Hd} {z : Bool} (hh : hdB h z = true) : h.k = 1 ∨ ((h.k = 2 ∨ h.k = 3) ∧ h.args = []) := by
  unfold hdB at hh
  rw [Bool.and_eq_true, Bool.and_eq_true] at hh
  have hk := hh.2
  unfold kindB at hk
  split at hk
  · rename_i h1; exact .inl h1
  · split at hk
    · rename_i h1 h2
      simp only [Bool.and_eq_true, List.isEmpty_iff] at hk
      exact .inr ⟨.inl h2, hk.1.2⟩
    · split at hk
      · rename_i h1 h2 h3
        simp only [Bool.and_eq_true, List.isEmpty_iff] at hk
        exact .inr ⟨.inr h3, hk.1.2⟩
      · cases hk
theorem codes_sel {D : List De} {t : G.Td} {h : Hd} {f : G.Fd} {kn z : Bool} (hh : hdB h z = true) (hf : SpF t h f kn) : fnz (codesOf D t h f kn z) = selC D t h z := by
  unfold codesOf selC
  simp only [fnz]
  cases hd : h.dirs.all dirB
  · simp
  simp only [if_true, Bool.true_eq_false, if_false]
  rcases hd_kind hh with h1 | ⟨h2 | h2, ha⟩
  · have e1 : (h.k == 1) = true := by rw [h1]; rfl
    have e2 : (h.k == 2) = false := by rw [h1]; rfl
    have e3 : (h.k == 3) = false := by rw [h1]; rfl
    rw [e1, e2, e3]
    rcases hf with ⟨p, _⟩ | ⟨_, rfl, p2, rfl⟩ | ⟨_, rfl, p2⟩
    · rw [e1] at p; cases p
    · rw [p2]; simp
    · rw [p2]
      simp only [fldC, needs_all]
      rcases Bool.eq_false_or_eq_true (argsN f [] h.args) with h4 | h4 <;> rcases Bool.eq_false_or_eq_true (needsB f h.args) with h5 | h5 <;> rcases Bool.eq_false_or_eq_true (G.isIn f.ty != z) with h6 | h6 <;> simp [h4, h5, h6]
  · have e1 : (h.k == 1) = false := by rw [h2]; rfl
    have e2 : (h.k == 2) = true := by rw [h2]; rfl
    have e3 : (h.k == 3) = false := by rw [h2]; rfl
    rw [e1, e2, e3, ha]
    rcases hf with ⟨_, rfl, rfl⟩ | ⟨p, _⟩ | ⟨p, _⟩
    · cases frOK D h.nm t.nm <;> simp [argsN, fd0]
    · rw [e1] at p; cases p
    · rw [e1] at p; cases p
  · have e1 : (h.k == 1) = false := by rw [h2]; rfl
    have e2 : (h.k == 2) = false := by rw [h2]; rfl
    have e3 : (h.k == 3) = true := by rw [h2]; rfl
    rw [e1, e2, e3, ha]
    rcases hf with ⟨_, rfl, rfl⟩ | ⟨p, _⟩ | ⟨p, _⟩
    · cases inlOK h.nm t.nm <;> simp [argsN, fd0]
    · rw [e1] at p; cases p
    · rw [e1] at p; cases p
/-- A spot, of whatever kind. -/
theorem spot_any (h : Hd) (n : Nat) (a1 a2 a3 at_ : Option Addr) (c1 c2 c3 ct : Nat) (t : G.Td) (w : World) (hr : G.FdRow 0 w.heap.size w at_ t.fs) (hl : t.fs.length ≤ 1048576) :
    Calls Tryz.prog 69 #[selV h n a1 c1 a2 c2 a3 c3, tdV t at_ ct] w fun e w' => SpotR w h n a1 c1 a2 c2 a3 c3 t at_ ct e ∧ Below w.heap.size w w' := by
  cases e1 : (h.k == 1)
  · exact spot_not h n a1 a2 a3 at_ c1 c2 c3 ct t w e1
  · exact spot_fld h n a1 a2 a3 at_ c1 c2 c3 ct t w hr hl e1
/-- What is bounded of a spot's field. -/
theorem SpF.bd {t : G.Td} {h : Hd} {f : G.Fd} {kn : Bool} (hf : SpF t h f kn) (ht : G.TdBd 1048576 t) : f.args.length ≤ 1048576 ∧ f.ty.size ≤ 1048576 := by
  have z : (fd0.args.length ≤ 1048576 ∧ fd0.ty.size ≤ 1048576) := ⟨Nat.zero_le _, Nat.zero_le _⟩
  rcases hf with ⟨_, rfl, rfl⟩ | ⟨_, rfl, _, rfl⟩ | ⟨_, rfl, p⟩
  · exact z
  · exact z
  · unfold fldOf at p
    split at p
    · simp only [Option.some.injEq] at p
      subst p
      exact ⟨Nat.zero_le _, by decide⟩
    · have := (ht.2.2 f (List.mem_of_find?_eq_some p))
      exact ⟨this.2.1.1, this.2.2⟩
theorem inU_in {S : List G.Td} {t : G.Td} {h : Hd} {f : G.Fd} {kn : Bool} (hf : SpF t h f kn) (hk : ((h.k == 1) && !kn) = false) : inU S t h f = inT S t h := by
  unfold inU inT
  rcases hf with ⟨p, rfl, rfl⟩ | ⟨p, rfl, _, rfl⟩ | ⟨p, rfl, q⟩
  · rw [p]; rfl
  · rw [p] at hk; cases hk
  · rw [p, q]; rfl
theorem inU_bd {S : List G.Td} {t : G.Td} {h : Hd} {f : G.Fd} (ht : G.TdBd 1048576 t) (hS : G.TdsBd 1048576 S) : G.TdBd 1048576 (inU S t h f) := by
  unfold inU
  split
  · unfold tdU
    cases hf : tdIn S f.ty with
    | none => exact ⟨Nat.zero_le _, Nat.zero_le _, by simp [td0]⟩
    | some x => exact hS.2 x (List.mem_of_find?_eq_some hf)
  · exact ht
theorem fnz_zero {l : List Int} (h : fnz l = 0) : ∀ x ∈ l, x = 0 := by
  induction l with
  | nil => simp
  | cons y l ih =>
    simp only [fnz] at h
    split at h
    · rename_i hy
      intro x hx
      rcases List.mem_cons.1 hx with rfl | hx
      · exact hy
      · exact ih h x hx
    · rename_i hy; exact absurd h hy
end Go.Proofs.YtjkkphfdcoejlaaGreat
