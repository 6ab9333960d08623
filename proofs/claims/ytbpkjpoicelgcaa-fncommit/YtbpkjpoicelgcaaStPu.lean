/- Lists of puts: what the law counts, copies, compares and marks. -/
import Derived.Test.YtbpkjpoicelgcaaStSz
import Derived.Test.YtbpkjpoicelgcaaStTo
import Derived.Test.YtbpkjpoicelgcaaStEq
import Derived.Test.YtbpkjpoicelgcaaStMark
namespace Go.Proofs.Ytbpkjpoicelgcaa.G
open Go.ChangeShapes Go.WideShapes Go.ChangeAt Go.RowKit
set_option linter.unusedVariables false

section
variable {H : Type} {enc : TypeId × Value → H} {W : World}
end
/-- A block that holds a chain's versions, from its start. -/
def PuBlk (w : World) (b : Nat) (l : List Ve) : Prop := ∃ cs, w.heap[b]? = some (.cells cs 43 (0, 0)) ∧ l.length * 2 ≤ cs.size ∧ ∀ i x, l[i]? = some x → VeCell cs (i * 2) x
theorem PuBlk.move {w w' : World} {b : Nat} {l : List Ve} (h : PuBlk w b l) (e : w'.heap[b]? = w.heap[b]?) : PuBlk w' b l := by
  obtain ⟨cs, h1, h2, h3⟩ := h
  exact ⟨cs, e.trans h1, h2, h3⟩
theorem PuBlk.row {w : World} {b : Nat} {l : List Ve} {lo hi : Nat} (h : PuBlk w b l) (h1 : lo ≤ b) (h2 : b < hi) : VeRow lo hi w (some ⟨b, 0, none⟩) l := by
  obtain ⟨cs, g1, g2, g3⟩ := h
  refine .inr ⟨b, 0, rfl, h1, h2, fun i x hx => ?_⟩
  rw [row_rd g1, Nat.zero_add]
  exact g3 i x hx
theorem PuBlk.lt {w : World} {b : Nat} {l : List Ve} (h : PuBlk w b l) : b < w.heap.size := by
  obtain ⟨cs, g1, _⟩ := h
  exact (Array.getElem?_eq_some_iff.1 g1).1
set_option maxRecDepth 100000 in
theorem info_PuX : ∃ i, Try.prog.info? 43 = some i ∧ i.zero = some (.agg #[.int .i64 0, .int .i64 0]) ∧ i.size = 2 ∧ i.bytes = 16 := by
  refine ⟨_, rfl, ?_, ?_, ?_⟩ <;> kernel_rfl
/-- A block whose first n versions bear the marks from K on. -/
def PuMk (w : World) (b : Nat) (K : Int) (n : Nat) : Prop := ∃ cs, w.heap[b]? = some (.cells cs 43 (0, 0)) ∧ n * 2 ≤ cs.size ∧ ∀ i : Nat, i < n → cs[i * 2]? = some (.int .i64 (K + 2 * i)) ∧ cs[i * 2 + 1]? = some (.int .i64 (K + 2 * i + 1))
theorem PuMk.move {w w' : World} {b : Nat} {K : Int} {n : Nat} (h : PuMk w b K n) (e : w'.heap[b]? = w.heap[b]?) : PuMk w' b K n := by
  obtain ⟨cs, h1, h2⟩ := h
  exact ⟨cs, e.trans h1, h2⟩
end Go.Proofs.Ytbpkjpoicelgcaa.G
