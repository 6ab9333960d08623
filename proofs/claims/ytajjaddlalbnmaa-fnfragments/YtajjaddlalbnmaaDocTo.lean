/- What the law copies of a document: values, arguments, directives. -/
import Derived.Test.YtajjaddlalbnmaaSelFrom
namespace Go.Proofs.Ytajjaddlalbnmaa
open Go.ChangeShapes Go.WideShapes Go.ChangeAt Go.RowKit
set_option linter.unusedVariables false

theorem row_cell {w : World} {N : Nat} {e : TypeId} {cs : Array Value} (h : w.heap[N]? = some (.cells cs e (0, 0))) (j : Nat) : w.cell? ⟨N, j, none⟩ = cs[j]? := cell_of_row w N j cs e _ h
theorem row_frozen {w : World} {N : Nat} {e : TypeId} {cs : Array Value} (h : w.heap[N]? = some (.cells cs e (0, 0))) (j : Nat) : w.frozen? ⟨N, j, none⟩ = false := by
  simp [World.frozen?, h]
theorem row_set {w : World} {N : Nat} {e : TypeId} {cs : Array Value} (h : w.heap[N]? = some (.cells cs e (0, 0))) (j : Nat) (v : Value) : (w.setCell ⟨N, j, none⟩ v).heap[N]? = some (.cells (cs.setIfInBounds j v) e (0, 0)) := by
  rw [setCell_eq_setRow w N j cs e _ v h]; exact setRow_heap w N cs _ e _ h
theorem row_rd {w : World} {N : Nat} {e : TypeId} {cs : Array Value} (h : w.heap[N]? = some (.cells cs e (0, 0))) : rdOf w N = fun j => cs[j]? := by
  funext j; exact row_cell h j
theorem Agree.setCell {lo hi : Nat} {w : World} {p : Addr} {v : Value} (h : p.block < lo) : Agree lo hi w (w.setCell p v) := fun g h1 _ => Below.heap_setCell _ _ _ _ (by omega)
theorem Agree.trans {lo hi : Nat} {w w1 w2 : World} (h : Agree lo hi w w1) (h' : Agree lo hi w1 w2) : Agree lo hi w w2 := fun g h1 h2 => (h' g h1 h2).trans (h g h1 h2)

/-- The first k of a row are laid. -/
def LaidR {α : Type} (at_ : (Nat → Option Value) → Nat → α → Prop) (z : Nat) (cs : Array Value) (l : List α) (k : Nat) : Prop := ∀ i x, i < k → l[i]? = some x → at_ (fun j => cs[j]?) (i * z) x
def put4 (cs : Array Value) (k : Nat) (v0 v1 v2 v3 : Value) : Array Value := (((cs.setIfInBounds k v0).setIfInBounds (k + 1) v1).setIfInBounds (k + 2) v2).setIfInBounds (k + 3) v3
theorem put4_size (cs : Array Value) (k : Nat) (v0 v1 v2 v3 : Value) : (put4 cs k v0 v1 v2 v3).size = cs.size := by simp [put4]
theorem put4_at {cs : Array Value} {k : Nat} {v0 v1 v2 v3 : Value} (h : k + 3 < cs.size) : (put4 cs k v0 v1 v2 v3)[k]? = some v0 ∧ (put4 cs k v0 v1 v2 v3)[k + 1]? = some v1 ∧ (put4 cs k v0 v1 v2 v3)[k + 2]? = some v2 ∧ (put4 cs k v0 v1 v2 v3)[k + 3]? = some v3 := by
  unfold put4
  refine ⟨?_, ?_, ?_, ?_⟩ <;> simp [Array.getElem?_setIfInBounds] <;> omega
theorem put4_else {cs : Array Value} {k : Nat} {v0 v1 v2 v3 : Value} {j : Nat} (h : j < k) : (put4 cs k v0 v1 v2 v3)[j]? = cs[j]? := by
  unfold put4
  rw [Array.getElem?_setIfInBounds_ne (by omega), Array.getElem?_setIfInBounds_ne (by omega), Array.getElem?_setIfInBounds_ne (by omega), Array.getElem?_setIfInBounds_ne (by omega)]
theorem LaidR.put_ar {cs : Array Value} {l : List Ar} {k : Nat} (h : LaidR ArAt 4 cs l k) (hk : k < l.length) (hs : cs.size = l.length * 4) : LaidR ArAt 4 (put4 cs (k * 4) (.string l[k].nm) (.int .i64 l[k].v.k) (.int .i64 l[k].v.n) (.string l[k].v.t)) l (k + 1) := by
  intro i x hi hx
  by_cases hik : i = k
  · subst hik
    rw [List.getElem?_eq_getElem hk] at hx
    simp only [Option.some.injEq] at hx
    subst hx
    exact put4_at (by omega)
  · obtain ⟨c0, c1, c2, c3⟩ := h i x (by omega) hx
    exact ⟨(put4_else (by omega)).trans c0, (put4_else (by omega)).trans c1, (put4_else (by omega)).trans c2, (put4_else (by omega)).trans c3⟩
theorem LaidR.put_di {cs : Array Value} {l : List Di} {k : Nat} (h : LaidR DiAt 4 cs l k) (hk : k < l.length) (hs : cs.size = l.length * 4) : LaidR DiAt 4 (put4 cs (k * 4) (.bool l[k].sk) (.int .i64 l[k].v.k) (.int .i64 l[k].v.n) (.string l[k].v.t)) l (k + 1) := by
  intro i x hi hx
  by_cases hik : i = k
  · subst hik
    rw [List.getElem?_eq_getElem hk] at hx
    simp only [Option.some.injEq] at hx
    subst hx
    exact put4_at (by omega)
  · obtain ⟨c0, c1, c2, c3⟩ := h i x (by omega) hx
    exact ⟨(put4_else (by omega)).trans c0, (put4_else (by omega)).trans c1, (put4_else (by omega)).trans c2, (put4_else (by omega)).trans c3⟩
theorem LaidR.row {α : Type} {at_ : (Nat → Option Value) → Nat → α → Prop} {z : Nat} {w : World} {N lo : Nat} {e : TypeId} {cs : Array Value} {l : List α} (h : w.heap[N]? = some (.cells cs e (0, 0))) (hl : LaidR at_ z cs l l.length) (hlo : lo ≤ N) : Row at_ z lo w.heap.size w (some ⟨N, 0, none⟩) l := by
  refine .inr ⟨N, 0, rfl, hlo, (Array.getElem?_eq_some_iff.1 h).1, fun i x hx => ?_⟩
  have hi : i < l.length := (List.getElem?_eq_some_iff.1 hx).1
  rw [row_rd h, Nat.zero_add]
  exact hl i x hi hx

set_option maxRecDepth 100000 in
theorem info_ar : ∃ i, Try.prog.info? 81 = some i ∧ i.zero = some (.agg #[.string ⟨#[]⟩, .int .i64 0, .int .i64 0, .string ⟨#[]⟩]) ∧ i.size = 4 ∧ i.bytes = 48 := by
  refine ⟨_, rfl, ?_, ?_, ?_⟩ <;> kernel_rfl
set_option maxRecDepth 100000 in
theorem info_di : ∃ i, Try.prog.info? 86 = some i ∧ i.zero = some (.agg #[.bool false, .int .i64 0, .int .i64 0, .string ⟨#[]⟩]) ∧ i.size = 4 ∧ i.bytes = 40 := by
  refine ⟨_, rfl, ?_, ?_, ?_⟩ <;> kernel_rfl
end Go.Proofs.Ytajjaddlalbnmaa
