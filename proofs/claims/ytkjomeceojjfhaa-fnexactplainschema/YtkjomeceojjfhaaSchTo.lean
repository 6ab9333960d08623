/- The law's own copies of them. -/
import Derived.Test.YtkjomeceojjfhaaSchRows
namespace Go.Proofs.Ytkjomeceojjfhaa.G
open Go.ChangeShapes Go.WideShapes Go.ChangeAt Go.RowKit
set_option linter.unusedVariables false

set_option maxRecDepth 100000 in
theorem info_Ag : ∃ i, Try.prog.info? 30 = some i ∧ i.zero = some (.agg #[.string ⟨#[]⟩, .bool false]) ∧ i.size = 2 ∧ i.bytes = 24 := by
  refine ⟨_, rfl, ?_, ?_, ?_⟩ <;> kernel_rfl
theorem LaidR.keep_Ag {lo hi hi' : Nat} {w w' : World} {cs : Array Value} {l : List Ag} {k : Nat} (h : LaidR (AgAt lo hi w) 2 cs l k) (ha : Agree lo hi w w') (hh : hi ≤ hi') : LaidR (AgAt lo hi' w') 2 cs l k :=
  fun i x hi hx => AgAt.wide (AgAt.keep (h i x hi hx) ha) (Nat.le_refl _) hh
theorem LaidR.put_Ag {lo hi : Nat} {w : World} {cs : Array Value} {l : List Ag} {k : Nat} (h : LaidR (AgAt lo hi w) 2 cs l k) (hk : k < l.length) (hs : cs.size = l.length * 2) :
    LaidR (AgAt lo hi w) 2 (put2 cs (k * 2) (.string l[k].nm) (.bool l[k].need)) l (k + 1) := by
  intro i x hi hx
  by_cases hik : i = k
  · subst hik
    rw [List.getElem?_eq_getElem hk] at hx
    simp only [Option.some.injEq] at hx
    subst hx
    obtain ⟨g0, g1⟩ := put2_at (cs := cs) (k := i * 2) (v0 := .string l[i].nm) (v1 := .bool l[i].need) (by omega)
    exact ⟨g0, g1⟩
  · obtain ⟨c0, c1⟩ := h i x (by omega) hx
    exact ⟨(put2_else (by omega)).trans c0, (put2_else (by omega)).trans c1⟩
set_option maxRecDepth 100000 in
theorem info_Fd : ∃ i, Try.prog.info? 33 = some i ∧ i.zero = some (.agg #[.string ⟨#[]⟩, .slice none 0 0, .string ⟨#[]⟩, .bool false, .bool false]) ∧ i.size = 5 ∧ i.bytes = 64 := by
  refine ⟨_, rfl, ?_, ?_, ?_⟩ <;> kernel_rfl
theorem LaidR.keep_Fd {lo hi hi' : Nat} {w w' : World} {cs : Array Value} {l : List Fd} {k : Nat} (h : LaidR (FdAt lo hi w) 5 cs l k) (ha : Agree lo hi w w') (hh : hi ≤ hi') : LaidR (FdAt lo hi' w') 5 cs l k :=
  fun i x hi hx => FdAt.wide (FdAt.keep (h i x hi hx) ha) (Nat.le_refl _) hh
theorem LaidR.put_Fd {lo hi : Nat} {w : World} {cs : Array Value} {l : List Fd} {k : Nat} {b3 : Option Addr} {f3 : Nat} (h : LaidR (FdAt lo hi w) 5 cs l k) (hk : k < l.length) (hs : cs.size = l.length * 5) (hr : AgRow lo hi w b3 l[k].args) :
    LaidR (FdAt lo hi w) 5 (put5 cs (k * 5) (.string l[k].nm) (.slice b3 l[k].args.length f3) (.string l[k].ty) (.bool l[k].ls) (.bool l[k].bg)) l (k + 1) := by
  intro i x hi hx
  by_cases hik : i = k
  · subst hik
    rw [List.getElem?_eq_getElem hk] at hx
    simp only [Option.some.injEq] at hx
    subst hx
    obtain ⟨g0, g1, g2, g3, g4⟩ := put5_at (cs := cs) (k := i * 5) (v0 := .string l[i].nm) (v1 := .slice b3 l[i].args.length f3) (v2 := .string l[i].ty) (v3 := .bool l[i].ls) (v4 := .bool l[i].bg) (by omega)
    exact ⟨g0, ⟨b3, f3, g1, hr⟩, g2, g3, g4⟩
  · obtain ⟨c0, ⟨a3, d3, c1, c9⟩, c2, c3, c4⟩ := h i x (by omega) hx
    exact ⟨(put5_else (by omega)).trans c0, ⟨a3, d3, (put5_else (by omega)).trans c1, c9⟩, (put5_else (by omega)).trans c2, (put5_else (by omega)).trans c3, (put5_else (by omega)).trans c4⟩
set_option maxRecDepth 100000 in
theorem info_Td : ∃ i, Try.prog.info? 36 = some i ∧ i.zero = some (.agg #[.string ⟨#[]⟩, .slice none 0 0]) ∧ i.size = 2 ∧ i.bytes = 40 := by
  refine ⟨_, rfl, ?_, ?_, ?_⟩ <;> kernel_rfl
theorem LaidR.keep_Td {lo hi hi' : Nat} {w w' : World} {cs : Array Value} {l : List Td} {k : Nat} (h : LaidR (TdAt lo hi w) 2 cs l k) (ha : Agree lo hi w w') (hh : hi ≤ hi') : LaidR (TdAt lo hi' w') 2 cs l k :=
  fun i x hi hx => TdAt.wide (TdAt.keep (h i x hi hx) ha) (Nat.le_refl _) hh
theorem LaidR.put_Td {lo hi : Nat} {w : World} {cs : Array Value} {l : List Td} {k : Nat} {b3 : Option Addr} {f3 : Nat} (h : LaidR (TdAt lo hi w) 2 cs l k) (hk : k < l.length) (hs : cs.size = l.length * 2) (hr : FdRow lo hi w b3 l[k].fs) :
    LaidR (TdAt lo hi w) 2 (put2 cs (k * 2) (.string l[k].nm) (.slice b3 l[k].fs.length f3)) l (k + 1) := by
  intro i x hi hx
  by_cases hik : i = k
  · subst hik
    rw [List.getElem?_eq_getElem hk] at hx
    simp only [Option.some.injEq] at hx
    subst hx
    obtain ⟨g0, g1⟩ := put2_at (cs := cs) (k := i * 2) (v0 := .string l[i].nm) (v1 := .slice b3 l[i].fs.length f3) (by omega)
    exact ⟨g0, ⟨b3, f3, g1, hr⟩⟩
  · obtain ⟨c0, ⟨a3, d3, c1, c9⟩⟩ := h i x (by omega) hx
    exact ⟨(put2_else (by omega)).trans c0, ⟨a3, d3, (put2_else (by omega)).trans c1, c9⟩⟩
end Go.Proofs.Ytkjomeceojjfhaa.G
