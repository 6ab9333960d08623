/- CheckTypes: the codes of the program's rules, one by one, are a selection's code. -/
import Derived.Test.YtkjndghkimnjeaaGreatTyNew
import Derived.Deep.CutRange
namespace Go.Proofs.YtkjndghkimnjeaaGreat
open Go.ChangeShapes Go.WideShapes Go.ChangeAt Go.RowKit
set_option linter.unusedVariables false
set_option maxHeartbeats 4000000 in
set_option maxRecDepth 40000 in
/-- A spot of a field. -/
theorem spot_fld (h : Hd) (n : Nat) (a1 a2 a3 at_ : Option Addr) (c1 c2 c3 ct : Nat) (t : G.Td) (w : World) (hr : G.FdRow 0 w.heap.size w at_ t.fs) (hl : t.fs.length ≤ 1048576) (e1 : (h.k == 1) = true) :
    Calls Tryz.prog 128 #[selV h n a1 c1 a2 c2 a3 c3, tdV t at_ ct] w fun e w' => SpotR w h n a1 c1 a2 c2 a3 c3 t at_ ct e ∧ Below w.heap.size w w' := by
  have HR : Hid (∀ W0, Below w.heap.size w W0 → G.FdRow 0 w.heap.size W0 at_ t.fs) := fun W0 hB => G.FdRow.keep hr (Below.agree hB (Nat.le_refl _))
  clear hr
  unfold selV tdV
  go_enter Tryz.func128, Tryz.ntmps128
  go_upto_if 11 with fail
  go_cut [12] from 13 to 20 (fun s wx => ∃ f af cf kn, Hid (SpF t h f kn ∧ G.AgRow 0 w.heap.size w af f.args) ∧ Hid (Below w.heap.size w wx) ∧ w.heap.size + 4 ≤ wx.heap.size ∧ (wx.cell? ⟨w.heap.size + 1 + 1, 0, none⟩ = some (.int .i64 0) ∧ wx.cell? ⟨w.heap.size + 1 + 1, 1, none⟩ = some (.string ⟨#[]⟩) ∧ wx.cell? ⟨w.heap.size + 1 + 1, 2, none⟩ = some (.string ⟨#[]⟩) ∧ wx.cell? ⟨w.heap.size + 1 + 1, 3, none⟩ = some (.slice none 0 0) ∧ wx.cell? ⟨w.heap.size + 1 + 1, 4, none⟩ = some (.slice none 0 0) ∧ wx.cell? ⟨w.heap.size + 1 + 1, 5, none⟩ = some (.slice none 0 0) ∧ wx.cell? ⟨w.heap.size + 1 + 1, 6, none⟩ = some (.string ⟨#[]⟩) ∧ wx.cell? ⟨w.heap.size + 1 + 1, 7, none⟩ = some (.slice none 0 0) ∧ wx.cell? ⟨w.heap.size + 1 + 1, 8, none⟩ = some (.string ⟨#[]⟩) ∧ wx.cell? ⟨w.heap.size + 1 + 1, 9, none⟩ = some (.slice none 0 0) ∧ wx.cell? ⟨w.heap.size + 1 + 1, 10, none⟩ = some (.string ⟨#[]⟩) ∧ wx.cell? ⟨w.heap.size + 1 + 1, 11, none⟩ = some (.bool false) ∧ wx.cell? ⟨w.heap.size + 1 + 1, 12, none⟩ = some (.bool false) ∧ wx.cell? ⟨w.heap.size + 1 + 1, 13, none⟩ = some (.bool false)) ∧ (wx.cell? ⟨w.heap.size + 1 + 1 + 1, 0, none⟩ = some (.int .i64 h.k) ∧ wx.cell? ⟨w.heap.size + 1 + 1 + 1, 1, none⟩ = some (.string h.al) ∧ wx.cell? ⟨w.heap.size + 1 + 1 + 1, 2, none⟩ = some (.string h.nm) ∧ wx.cell? ⟨w.heap.size + 1 + 1 + 1, 3, none⟩ = some (.slice a1 h.args.length c1) ∧ wx.cell? ⟨w.heap.size + 1 + 1 + 1, 4, none⟩ = some (.slice a2 h.dirs.length c2) ∧ wx.cell? ⟨w.heap.size + 1 + 1 + 1, 5, none⟩ = some (.slice a3 n c3) ∧ wx.cell? ⟨w.heap.size + 1 + 1 + 1, 6, none⟩ = some (.string t.nm) ∧ wx.cell? ⟨w.heap.size + 1 + 1 + 1, 7, none⟩ = some (.slice at_ t.fs.length ct) ∧ wx.cell? ⟨w.heap.size + 1 + 1 + 1, 8, none⟩ = some (.string f.nm) ∧ wx.cell? ⟨w.heap.size + 1 + 1 + 1, 9, none⟩ = some (.slice af f.args.length cf) ∧ wx.cell? ⟨w.heap.size + 1 + 1 + 1, 10, none⟩ = some (.string f.ty) ∧ wx.cell? ⟨w.heap.size + 1 + 1 + 1, 11, none⟩ = some (.bool f.ls) ∧ wx.cell? ⟨w.heap.size + 1 + 1 + 1, 12, none⟩ = some (.bool f.bg) ∧ wx.cell? ⟨w.heap.size + 1 + 1 + 1, 13, none⟩ = some (.bool kn)) ∧ (∀ o, wx.frozen? ⟨w.heap.size + 1 + 1, o, none⟩ = false))
  case first =>
    go_wp2_with fail
    refine (fld_in t at_ ct h.nm w.heap.size _ (by simp; omega) (HR.out _ ?b0) hl).mono ?_
    case b0 => repeat (first | exact Below.refl _ _ | refine Below.setCell ?_ (by first | omega | (simp <;> omega)) _ | refine Below.alloc ?_ (by first | omega | (simp <;> omega)) _)
    rintro e w1 ⟨⟨f, af, cf, kn, rfl, hf, r5⟩, hb1⟩
    have z1 : w.heap.size + 4 ≤ w1.heap.size := by have := hb1.size; simp at this; omega
    have HN : Hid (SpF t h f kn ∧ G.AgRow 0 w.heap.size w af f.args) := by
      refine ⟨?_, G.AgRow.keep r5 ?_⟩
      · rcases hf with ⟨p1, p2, p3⟩ | ⟨p1, p2⟩
        · exact .inr (.inl ⟨e1, p1, p2, p3⟩)
        · exact .inr (.inr ⟨e1, p1, p2⟩)
      · intro g _ hg
        refine ((Below.block (B := w.heap.size) (w := w) ?_ g hg)).symm
        repeat (first | exact Below.refl _ _ | refine Below.setCell ?_ (by first | omega | (simp <;> omega)) _ | refine Below.alloc ?_ (by first | omega | (simp <;> omega)) _)
    have Q1 : Hid (Below w.heap.size w w1) := by
      refine Below.trans ?_ (hb1.mono (by first | omega | (simp <;> omega)))
      repeat (first | exact Below.refl _ _ | refine Below.setCell ?_ (by first | omega | (simp <;> omega)) _ | refine Below.alloc ?_ (by first | omega | (simp <;> omega)) _)
    have g0 : w1.cell? ⟨w.heap.size + 1 + 1, 0, none⟩ = some (.int .i64 0) := (hb1.cell (p := ⟨w.heap.size + 1 + 1, 0, none⟩) (by simp)).trans (by simp [go_sem])
    have g1 : w1.cell? ⟨w.heap.size + 1 + 1, 1, none⟩ = some (.string ⟨#[]⟩) := (hb1.cell (p := ⟨w.heap.size + 1 + 1, 1, none⟩) (by simp)).trans (by simp [go_sem])
    have g2 : w1.cell? ⟨w.heap.size + 1 + 1, 2, none⟩ = some (.string ⟨#[]⟩) := (hb1.cell (p := ⟨w.heap.size + 1 + 1, 2, none⟩) (by simp)).trans (by simp [go_sem])
    have g3 : w1.cell? ⟨w.heap.size + 1 + 1, 3, none⟩ = some (.slice none 0 0) := (hb1.cell (p := ⟨w.heap.size + 1 + 1, 3, none⟩) (by simp)).trans (by simp [go_sem])
    have g4 : w1.cell? ⟨w.heap.size + 1 + 1, 4, none⟩ = some (.slice none 0 0) := (hb1.cell (p := ⟨w.heap.size + 1 + 1, 4, none⟩) (by simp)).trans (by simp [go_sem])
    have g5 : w1.cell? ⟨w.heap.size + 1 + 1, 5, none⟩ = some (.slice none 0 0) := (hb1.cell (p := ⟨w.heap.size + 1 + 1, 5, none⟩) (by simp)).trans (by simp [go_sem])
    have g6 : w1.cell? ⟨w.heap.size + 1 + 1, 6, none⟩ = some (.string ⟨#[]⟩) := (hb1.cell (p := ⟨w.heap.size + 1 + 1, 6, none⟩) (by simp)).trans (by simp [go_sem])
    have g7 : w1.cell? ⟨w.heap.size + 1 + 1, 7, none⟩ = some (.slice none 0 0) := (hb1.cell (p := ⟨w.heap.size + 1 + 1, 7, none⟩) (by simp)).trans (by simp [go_sem])
    have g8 : w1.cell? ⟨w.heap.size + 1 + 1, 8, none⟩ = some (.string ⟨#[]⟩) := (hb1.cell (p := ⟨w.heap.size + 1 + 1, 8, none⟩) (by simp)).trans (by simp [go_sem])
    have g9 : w1.cell? ⟨w.heap.size + 1 + 1, 9, none⟩ = some (.slice none 0 0) := (hb1.cell (p := ⟨w.heap.size + 1 + 1, 9, none⟩) (by simp)).trans (by simp [go_sem])
    have g10 : w1.cell? ⟨w.heap.size + 1 + 1, 10, none⟩ = some (.string ⟨#[]⟩) := (hb1.cell (p := ⟨w.heap.size + 1 + 1, 10, none⟩) (by simp)).trans (by simp [go_sem])
    have g11 : w1.cell? ⟨w.heap.size + 1 + 1, 11, none⟩ = some (.bool false) := (hb1.cell (p := ⟨w.heap.size + 1 + 1, 11, none⟩) (by simp)).trans (by simp [go_sem])
    have g12 : w1.cell? ⟨w.heap.size + 1 + 1, 12, none⟩ = some (.bool false) := (hb1.cell (p := ⟨w.heap.size + 1 + 1, 12, none⟩) (by simp)).trans (by simp [go_sem])
    have g13 : w1.cell? ⟨w.heap.size + 1 + 1, 13, none⟩ = some (.bool false) := (hb1.cell (p := ⟨w.heap.size + 1 + 1, 13, none⟩) (by simp)).trans (by simp [go_sem])
    have q0 : w1.cell? ⟨w.heap.size + 1 + 1 + 1, 0, none⟩ = some (.int .i64 h.k) := (hb1.cell (p := ⟨w.heap.size + 1 + 1 + 1, 0, none⟩) (by simp)).trans (by simp [go_sem])
    have q1 : w1.cell? ⟨w.heap.size + 1 + 1 + 1, 1, none⟩ = some (.string h.al) := (hb1.cell (p := ⟨w.heap.size + 1 + 1 + 1, 1, none⟩) (by simp)).trans (by simp [go_sem])
    have q2 : w1.cell? ⟨w.heap.size + 1 + 1 + 1, 2, none⟩ = some (.string h.nm) := (hb1.cell (p := ⟨w.heap.size + 1 + 1 + 1, 2, none⟩) (by simp)).trans (by simp [go_sem])
    have q3 : w1.cell? ⟨w.heap.size + 1 + 1 + 1, 3, none⟩ = some (.slice a1 h.args.length c1) := (hb1.cell (p := ⟨w.heap.size + 1 + 1 + 1, 3, none⟩) (by simp)).trans (by simp [go_sem])
    have q4 : w1.cell? ⟨w.heap.size + 1 + 1 + 1, 4, none⟩ = some (.slice a2 h.dirs.length c2) := (hb1.cell (p := ⟨w.heap.size + 1 + 1 + 1, 4, none⟩) (by simp)).trans (by simp [go_sem])
    have q5 : w1.cell? ⟨w.heap.size + 1 + 1 + 1, 5, none⟩ = some (.slice a3 n c3) := (hb1.cell (p := ⟨w.heap.size + 1 + 1 + 1, 5, none⟩) (by simp)).trans (by simp [go_sem])
    have q6 : w1.cell? ⟨w.heap.size + 1 + 1 + 1, 6, none⟩ = some (.string t.nm) := (hb1.cell (p := ⟨w.heap.size + 1 + 1 + 1, 6, none⟩) (by simp)).trans (by simp [go_sem])
    have q7 : w1.cell? ⟨w.heap.size + 1 + 1 + 1, 7, none⟩ = some (.slice at_ t.fs.length ct) := (hb1.cell (p := ⟨w.heap.size + 1 + 1 + 1, 7, none⟩) (by simp)).trans (by simp [go_sem])
    have q8 : w1.cell? ⟨w.heap.size + 1 + 1 + 1, 8, none⟩ = some (.string ⟨#[]⟩) := (hb1.cell (p := ⟨w.heap.size + 1 + 1 + 1, 8, none⟩) (by simp)).trans (by simp [go_sem])
    have q9 : w1.cell? ⟨w.heap.size + 1 + 1 + 1, 9, none⟩ = some (.slice none 0 0) := (hb1.cell (p := ⟨w.heap.size + 1 + 1 + 1, 9, none⟩) (by simp)).trans (by simp [go_sem])
    have q10 : w1.cell? ⟨w.heap.size + 1 + 1 + 1, 10, none⟩ = some (.string ⟨#[]⟩) := (hb1.cell (p := ⟨w.heap.size + 1 + 1 + 1, 10, none⟩) (by simp)).trans (by simp [go_sem])
    have q11 : w1.cell? ⟨w.heap.size + 1 + 1 + 1, 11, none⟩ = some (.bool false) := (hb1.cell (p := ⟨w.heap.size + 1 + 1 + 1, 11, none⟩) (by simp)).trans (by simp [go_sem])
    have q12 : w1.cell? ⟨w.heap.size + 1 + 1 + 1, 12, none⟩ = some (.bool false) := (hb1.cell (p := ⟨w.heap.size + 1 + 1 + 1, 12, none⟩) (by simp)).trans (by simp [go_sem])
    have q13 : w1.cell? ⟨w.heap.size + 1 + 1 + 1, 13, none⟩ = some (.bool false) := (hb1.cell (p := ⟨w.heap.size + 1 + 1 + 1, 13, none⟩) (by simp)).trans (by simp [go_sem])
    have j2 : ∀ o, w1.frozen? ⟨w.heap.size + 1 + 1, o, none⟩ = false := fun o => (hb1.frozen (p := ⟨w.heap.size + 1 + 1, o, none⟩) (by simp)).trans (by simp [go_sem])
    have j3 : ∀ o, w1.frozen? ⟨w.heap.size + 1 + 1 + 1, o, none⟩ = false := fun o => (hb1.frozen (p := ⟨w.heap.size + 1 + 1 + 1, o, none⟩) (by simp)).trans (by simp [go_sem])
    clear hb1 r5 hf
    unfold fdW

    go_wp2_with fail
    go_meet
    refine ⟨f, af, cf, kn, HN, ?_, by simp; omega, ?_, ?_, ?_⟩
    · unfold Hid
      repeat (refine Below.setCell ?_ (by first | omega | (simp <;> omega)) _)
      exact Q1.out
    · refine ⟨?_, ?_, ?_, ?_, ?_, ?_, ?_, ?_, ?_, ?_, ?_, ?_, ?_, ?_⟩ <;> simp [go_sem, g0, g1, g2, g3, g4, g5, g6, g7, g8, g9, g10, g11, g12, g13]
    · refine ⟨?_, ?_, ?_, ?_, ?_, ?_, ?_, ?_, ?_, ?_, ?_, ?_, ?_, ?_⟩ <;> simp [go_sem, q0, q1, q2, q3, q4, q5, q6, q7, q8, q9, q10, q11, q12, q13]
    · intro o
      simp [go_sem, j2]
  case rest =>
    obtain ⟨f, af, cf, kn, HN, HB, hz, ⟨g0, g1, g2, g3, g4, g5, g6, g7, g8, g9, g10, g11, g12, g13⟩, ⟨q0, q1, q2, q3, q4, q5, q6, q7, q8, q9, q10, q11, q12, q13⟩, j2⟩ := hcut
    go_wp2_with fail
    refine bodyPost_ret (v := spV h n a1 c1 a2 c2 a3 c3 t at_ ct f af cf kn) (by simp [results, Tryz.results128, go_sem, spV, g0, g1, g2, g3, g4, g5, g6, g7, g8, g9, g10, g11, g12, g13]) rfl ⟨⟨f, af, cf, kn, rfl, HN.out.1, HN.out.2⟩, ?_⟩
    repeat (refine Below.setCell ?_ (by first | omega | (simp <;> omega)) _)
    exact HB.out
end Go.Proofs.YtkjndghkimnjeaaGreat
namespace Go.Proofs.YtkjndghkimnjeaaGreat
open Go.ChangeShapes Go.WideShapes Go.ChangeAt Go.RowKit
set_option linter.unusedVariables false

def fnz : List Int → Int
  | [] => 0
  | x :: l => if x = 0 then fnz l else x
def codesOf (D : List De) (t : G.Td) (h : Hd) (f : G.Fd) (kn none : Bool) : List Int :=
  [if h.dirs.all dirB = true then 0 else 10, if ((h.k == 2) && !frOK D h.nm t.nm) = true then 12 else 0, if ((h.k == 3) && !inlOK h.nm t.nm) = true then 12 else 0, if ((h.k == 1) && !kn) = true then 9 else 0,
   if argsN f [] h.args = true then 0 else 10, if f.args.all (needB h.args) = true then 0 else 10, if ((h.k == 1) && (G.isIn f.ty != none)) = true then 11 else 0]
theorem hd_kind {h : Hd} {z : Bool} (hh : hdB h z = true) : h.k = 1 ∨ ((h.k = 2 ∨ h.k = 3) ∧ h.args = []) := by
  unfold hdB at hh
  rw [Bool.and_eq_true, Bool.and_eq_true] at hh
  have hk := hh.2
  unfold kindB at hk
  split at hk
  · rename_i h1; exact .inl h1
  · split at hk
    · rename_i h1 h2
      simp only [Bool.and_eq_true, List.isEmpty_iff] at hk
      exact .inr ⟨.inl h2, hk.1.2⟩
    · split at hk
      · rename_i h1 h2 h3
        simp only [Bool.and_eq_true, List.isEmpty_iff] at hk
        exact .inr ⟨.inr h3, hk.1.2⟩
      · cases hk
theorem codes_sel {D : List De} {t : G.Td} {h : Hd} {f : G.Fd} {kn z : Bool} (hh : hdB h z = true) (hf : SpF t h f kn) : fnz (codesOf D t h f kn z) = selC D t h z := by
  unfold codesOf selC
  simp only [fnz]
  cases hd : h.dirs.all dirB
  · simp
  simp only [if_true, Bool.true_eq_false, if_false]
  rcases hd_kind hh with h1 | ⟨h2 | h2, ha⟩
  · have e1 : (h.k == 1) = true := by rw [h1]; rfl
    have e2 : (h.k == 2) = false := by rw [h1]; rfl
    have e3 : (h.k == 3) = false := by rw [h1]; rfl
    rw [e1, e2, e3]
    rcases hf with ⟨p, _⟩ | ⟨_, rfl, p2, rfl⟩ | ⟨_, rfl, p2⟩
    · rw [e1] at p; cases p
    · rw [p2]; simp
    · rw [p2]
      simp only [fldC, needs_all]
      rcases Bool.eq_false_or_eq_true (argsN f [] h.args) with h4 | h4 <;> rcases Bool.eq_false_or_eq_true (needsB f h.args) with h5 | h5 <;> rcases Bool.eq_false_or_eq_true (G.isIn f.ty != z) with h6 | h6 <;> simp [h4, h5, h6]
  · have e1 : (h.k == 1) = false := by rw [h2]; rfl
    have e2 : (h.k == 2) = true := by rw [h2]; rfl
    have e3 : (h.k == 3) = false := by rw [h2]; rfl
    rw [e1, e2, e3, ha]
    rcases hf with ⟨_, rfl, rfl⟩ | ⟨p, _⟩ | ⟨p, _⟩
    · cases frOK D h.nm t.nm <;> simp [argsN, fd0]
    · rw [e1] at p; cases p
    · rw [e1] at p; cases p
  · have e1 : (h.k == 1) = false := by rw [h2]; rfl
    have e2 : (h.k == 2) = false := by rw [h2]; rfl
    have e3 : (h.k == 3) = true := by rw [h2]; rfl
    rw [e1, e2, e3, ha]
    rcases hf with ⟨_, rfl, rfl⟩ | ⟨p, _⟩ | ⟨p, _⟩
    · cases inlOK h.nm t.nm <;> simp [argsN, fd0]
    · rw [e1] at p; cases p
    · rw [e1] at p; cases p
/-- A spot, of whatever kind. -/
theorem spot_any (h : Hd) (n : Nat) (a1 a2 a3 at_ : Option Addr) (c1 c2 c3 ct : Nat) (t : G.Td) (w : World) (hr : G.FdRow 0 w.heap.size w at_ t.fs) (hl : t.fs.length ≤ 1048576) :
    Calls Tryz.prog 128 #[selV h n a1 c1 a2 c2 a3 c3, tdV t at_ ct] w fun e w' => SpotR w h n a1 c1 a2 c2 a3 c3 t at_ ct e ∧ Below w.heap.size w w' := by
  cases e1 : (h.k == 1)
  · exact spot_not h n a1 a2 a3 at_ c1 c2 c3 ct t w e1
  · exact spot_fld h n a1 a2 a3 at_ c1 c2 c3 ct t w hr hl e1
/-- What is bounded of a spot's field. -/
theorem SpF.bd {t : G.Td} {h : Hd} {f : G.Fd} {kn : Bool} (hf : SpF t h f kn) (ht : G.TdBd 1048576 t) : f.args.length ≤ 1048576 ∧ f.ty.size ≤ 1048576 := by
  have z : (fd0.args.length ≤ 1048576 ∧ fd0.ty.size ≤ 1048576) := ⟨Nat.zero_le _, Nat.zero_le _⟩
  rcases hf with ⟨_, rfl, rfl⟩ | ⟨_, rfl, _, rfl⟩ | ⟨_, rfl, p⟩
  · exact z
  · exact z
  · unfold fldOf at p
    split at p
    · simp only [Option.some.injEq] at p
      subst p
      exact ⟨Nat.zero_le _, by decide⟩
    · have := (ht.2.2 f (List.mem_of_find?_eq_some p))
      exact ⟨this.2.1.1, this.2.2⟩
theorem inU_in {S : List G.Td} {t : G.Td} {h : Hd} {f : G.Fd} {kn : Bool} (hf : SpF t h f kn) (hk : ((h.k == 1) && !kn) = false) : inU S t h f = inT S t h := by
  unfold inU inT
  rcases hf with ⟨p, rfl, rfl⟩ | ⟨p, rfl, _, rfl⟩ | ⟨p, rfl, q⟩
  · rw [p]; rfl
  · rw [p] at hk; cases hk
  · rw [p, q]; rfl
theorem inU_bd {S : List G.Td} {t : G.Td} {h : Hd} {f : G.Fd} (ht : G.TdBd 1048576 t) (hS : G.TdsBd 1048576 S) : G.TdBd 1048576 (inU S t h f) := by
  unfold inU
  split
  · unfold tdU
    cases hf : tdIn S f.ty with
    | none => exact ⟨Nat.zero_le _, Nat.zero_le _, by simp [td0]⟩
    | some x => exact hS.2 x (List.mem_of_find?_eq_some hf)
  · exact ht
theorem fnz_zero {l : List Int} (h : fnz l = 0) : ∀ x ∈ l, x = 0 := by
  induction l with
  | nil => simp
  | cons y l ih =>
    simp only [fnz] at h
    split at h
    · rename_i hy
      intro x hx
      rcases List.mem_cons.1 hx with rfl | hx
      · exact hy
      · exact ih h x hx
    · rename_i hy; exact absurd h hy
end Go.Proofs.YtkjndghkimnjeaaGreat
