/- copy into a row that the call owns, of elements of two cells; a chain copied so. -/
import Derived.Test.YtlfcjhiojbcijaaStMark
import Derived.Laws.CopyOwn
namespace Go.Proofs.Ytlfcjhiojbcijaa.G
open Go.ChangeShapes Go.WideShapes Go.ChangeAt Go.RowKit
set_option linter.unusedVariables false

theorem run_copy_two {P : Program} (w : World) (dT sT ty elem : TypeId) (g o dLen dCap : Nat) (a : Addr) (sLen sCap n : Nat) (cur : Array Value) (t : TypeId) (cs : List Value)
    (hu : P.underlying dT = some (.slice elem)) (hs : (P.info? elem).map (·.size) = some 2)
    (hg : w.heap[g]? = some (.cells cur t (0, 0))) (hm : Nat.min sLen dLen = n) (hn : cs.length = n * 2)
    (hsrc : ∀ j v, cs[j]? = some v → w.cell? (a.add j) = some v) (hfit : o + cs.length ≤ cur.size) (h1 : ∀ v ∈ cs, v.oneCell' = true) :
    (Builtin.copy_ #[dT, sT] ty #[.slice (some ⟨g, o, none⟩) dLen dCap, .slice (some a) sLen sCap]).run P w =
      .ok (goInt n) (w.setRow g (cur.toList.take o ++ cs ++ cur.toList.drop (o + cs.length)).toArray) := by
  have hl := run_loadCells_list (P := P) w a cs hsrc
  have hst := run_storeCells_at P g o t cs 0 cur w hg (by simpa using hfit) h1
  rw [hn] at hl
  cases hq : P.info? elem with
  | none => simp [hq] at hs
  | some i =>
    have hi : i.size = 2 := by simpa [hq] using hs
    simp [Builtin.copy_, run_underlying hu, Builtin.lenOf, Builtin.firstCells, sizeOf, typeInfo, hq, hi, hm, hl, hst]
theorem run_copy_two0 {P : Program} (w : World) (dT sT ty elem : TypeId) (g o dCap : Nat) (d a : Option Addr) (sCap : Nat) (hu : P.underlying dT = some (.slice elem)) (hs : (P.info? elem).map (·.size) = some 2) :
    (Builtin.copy_ #[dT, sT] ty #[.slice d 0 dCap, .slice a 0 sCap]).run P w = .ok (goInt 0) w := by
  cases hq : P.info? elem with
  | none => simp [hq] at hs
  | some i =>
    cases a with
    | none => cases d <;> simp [Builtin.copy_, run_underlying hu, Builtin.lenOf, Builtin.firstCells, sizeOf, typeInfo, hq, storeCells]
    | some a =>
      have hl := run_loadCells_list (P := P) w a [] (by simp)
      rw [List.length_nil] at hl
      cases d <;> simp [Builtin.copy_, run_underlying hu, Builtin.lenOf, Builtin.firstCells, sizeOf, typeInfo, hq, hl, storeCells]
/-- The cells of a chain. -/
def veCells (l : List Ve) : List Value := l.flatMap fun x => [.int .i64 x.ts, .int .i64 x.v]
theorem veCells_len (l : List Ve) : (veCells l).length = l.length * 2 := by
  induction l with
  | nil => rfl
  | cons x l ih => simp only [veCells, List.flatMap_cons, List.length_append] at ih ⊢; rw [ih]; simp; omega
theorem veCells_at : ∀ (l : List Ve) (i : Nat) (x : Ve), l[i]? = some x → (veCells l)[i * 2]? = some (.int .i64 x.ts) ∧ (veCells l)[i * 2 + 1]? = some (.int .i64 x.v)
  | [], i, x, h => by simp at h
  | y :: l, 0, x, h => by
    simp only [List.getElem?_cons_zero, Option.some.injEq] at h
    subst h
    simp [veCells]
  | y :: l, i + 1, x, h => by
    have := veCells_at l i x (by simpa using h)
    have e : veCells (y :: l) = .int .i64 y.ts :: .int .i64 y.v :: veCells l := rfl
    rw [e, show (i + 1) * 2 = i * 2 + 1 + 1 by omega, show i * 2 + 1 + 1 + 1 = i * 2 + 1 + 1 + 1 from rfl]
    simp only [List.getElem?_cons_succ]
    exact this
theorem veCells_one (l : List Ve) : ∀ v ∈ veCells l, v.oneCell' = true := by
  intro v hv
  simp only [veCells, List.mem_flatMap, List.mem_cons, List.not_mem_nil, or_false] at hv
  obtain ⟨x, _, rfl | rfl⟩ := hv <;> rfl
theorem veCells_src {w : World} {b o : Nat} {l : List Ve} (h : ∀ i x, l[i]? = some x → VeAt (rdOf w b) (o + i * 2) x) : ∀ j v, (veCells l)[j]? = some v → w.cell? ((⟨b, o, none⟩ : Addr).add j) = some v := by
  intro j v hv
  have hj : j < l.length * 2 := by rw [← veCells_len]; exact (List.getElem?_eq_some_iff.1 hv).1
  have hi : j / 2 < l.length := by omega
  have hx := List.getElem?_eq_getElem hi
  obtain ⟨h0, h1⟩ := h _ _ hx
  obtain ⟨g0, g1⟩ := veCells_at l _ _ hx
  simp only [add_plain]
  by_cases hm : j % 2 = 0
  · have e : j = j / 2 * 2 := by omega
    rw [← e] at g0
    rw [hv] at g0
    rw [← e] at h0
    rw [g0]; exact h0
  · have e : j = j / 2 * 2 + 1 := by omega
    rw [← e] at g1
    rw [hv] at g1
    have h1' : rdOf w b (o + j) = some (.int .i64 l[j / 2].v) := by have := h1; rw [show o + j / 2 * 2 + 1 = o + j by omega] at this; exact this
    rw [g1]; exact h1'
theorem infoS_Ve : (Try.prog.info? 92).map (·.size) = some 2 := by kernel_rfl
end Go.Proofs.Ytlfcjhiojbcijaa.G
