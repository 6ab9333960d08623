/- What the law copies of a document: selections, definitions, the document. -/
import Derived.Test.YtajjaddlalbnmaaDocTo
namespace Go.Proofs.Ytajjaddlalbnmaa
open Go.ChangeShapes Go.WideShapes Go.ChangeAt Go.RowKit
set_option linter.unusedVariables false

theorem heap_set (w : World) (b o : Nat) (v : Value) (g : Nat) (h : g ≠ b) : (w.setCell ⟨b, o, none⟩ v).heap[g]? = w.heap[g]? := Below.heap_setCell _ _ _ _ h
set_option maxRecDepth 100000 in
theorem info_sel : ∃ i, Try.prog.info? 63 = some i ∧ i.zero = some (.agg #[.int .i64 0, .string ⟨#[]⟩, .string ⟨#[]⟩, .slice none 0 0, .slice none 0 0, .slice none 0 0]) ∧ i.size = 6 ∧ i.bytes = 112 := by
  refine ⟨_, rfl, ?_, ?_, ?_⟩ <;> kernel_rfl
def put6 (cs : Array Value) (k : Nat) (v0 v1 v2 v3 v4 v5 : Value) : Array Value := ((((((cs.setIfInBounds k v0).setIfInBounds (k + 1) v1).setIfInBounds (k + 2) v2).setIfInBounds (k + 3) v3).setIfInBounds (k + 4) v4).setIfInBounds (k + 5) v5)
theorem put6_size (cs : Array Value) (k : Nat) (v0 v1 v2 v3 v4 v5 : Value) : (put6 cs k v0 v1 v2 v3 v4 v5).size = cs.size := by simp [put6]
theorem put6_at {cs : Array Value} {k : Nat} {v0 v1 v2 v3 v4 v5 : Value} (h : k + 5 < cs.size) : (put6 cs k v0 v1 v2 v3 v4 v5)[k]? = some v0 ∧ (put6 cs k v0 v1 v2 v3 v4 v5)[k + 1]? = some v1 ∧ (put6 cs k v0 v1 v2 v3 v4 v5)[k + 2]? = some v2 ∧ (put6 cs k v0 v1 v2 v3 v4 v5)[k + 3]? = some v3 ∧ (put6 cs k v0 v1 v2 v3 v4 v5)[k + 4]? = some v4 ∧ (put6 cs k v0 v1 v2 v3 v4 v5)[k + 5]? = some v5 := by
  unfold put6
  refine ⟨?_, ?_, ?_, ?_, ?_, ?_⟩ <;> simp [Array.getElem?_setIfInBounds] <;> omega
theorem put6_else {cs : Array Value} {k : Nat} {v0 v1 v2 v3 v4 v5 : Value} {j : Nat} (h : j < k) : (put6 cs k v0 v1 v2 v3 v4 v5)[j]? = cs[j]? := by
  unfold put6
  rw [Array.getElem?_setIfInBounds_ne (by omega), Array.getElem?_setIfInBounds_ne (by omega), Array.getElem?_setIfInBounds_ne (by omega), Array.getElem?_setIfInBounds_ne (by omega), Array.getElem?_setIfInBounds_ne (by omega), Array.getElem?_setIfInBounds_ne (by omega)]

set_option maxRecDepth 100000 in
theorem info_def : ∃ i, Try.prog.info? 30 = some i ∧ i.zero = some (.agg #[.int .i64 0, .string ⟨#[]⟩, .string ⟨#[]⟩, .slice none 0 0]) ∧ i.size = 4 ∧ i.bytes = 64 := by
  refine ⟨_, rfl, ?_, ?_, ?_⟩ <;> kernel_rfl
theorem LaidR.keep_de {lo hi hi' : Nat} {w w' : World} {cs : Array Value} {l : List De} {k : Nat} (h : LaidR (DeAt lo hi w) 4 cs l k) (ha : Agree lo hi w w') (hh : hi ≤ hi') : LaidR (DeAt lo hi' w') 4 cs l k :=
  fun i x hi hx => ((h i x hi hx).keep ha).wide (Nat.le_refl _) hh
theorem LaidR.put_de {lo hi : Nat} {w : World} {cs : Array Value} {l : List De} {k : Nat} {b3 : Option Addr} {f3 : Nat} (h : LaidR (DeAt lo hi w) 4 cs l k) (hk : k < l.length) (hs : cs.size = l.length * 4) (hr : SelRow lo hi w b3 l[k].sels) :
    LaidR (DeAt lo hi w) 4 (put4 cs (k * 4) (.int .i64 l[k].k) (.string l[k].nm) (.string l[k].on) (.slice b3 l[k].sels.len f3)) l (k + 1) := by
  intro i x hi hx
  by_cases hik : i = k
  · subst hik
    rw [List.getElem?_eq_getElem hk] at hx
    simp only [Option.some.injEq] at hx
    subst hx
    obtain ⟨g0, g1, g2, g3⟩ := put4_at (cs := cs) (k := i * 4) (v0 := .int .i64 l[i].k) (v1 := .string l[i].nm) (v2 := .string l[i].on) (v3 := .slice b3 l[i].sels.len f3) (by omega)
    exact ⟨g0, g1, g2, ⟨b3, f3, g3, hr⟩⟩
  · obtain ⟨c0, c1, c2, ⟨a3, d3, c3, c4⟩⟩ := h i x (by omega) hx
    exact ⟨(put4_else (by omega)).trans c0, (put4_else (by omega)).trans c1, (put4_else (by omega)).trans c2, ⟨a3, d3, (put4_else (by omega)).trans c3, c4⟩⟩

end Go.Proofs.Ytajjaddlalbnmaa
