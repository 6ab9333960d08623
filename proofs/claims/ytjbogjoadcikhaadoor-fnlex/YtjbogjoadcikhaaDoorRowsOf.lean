/- Slices of tokens in memory, and the Go texts that walk over them. -/
import Derived.Test.YtjbogjoadcikhaaDoorTexts
import Derived.Test.YtjbogjoadcikhaaDoorLexMath
import Derived.Deep.QuietTactic
import Derived.BigQuiet
namespace Go.Proofs.YtjbogjoadcikhaaDoor
open Go.ChangeShapes Go.WideShapes Go.ChangeAt Go.RowKit
set_option linter.unusedVariables false


/-- A slice of tokens: any place where there is none; else a block below B holds them, three cells a token. -/
def TokRow (B : Nat) (w : World) (a : Option Addr) (l : List Tk) : Prop :=
  l = [] ∨ ∃ b o, a = some ⟨b, o, none⟩ ∧ b < B ∧ B ≤ w.heap.size ∧ ∀ i x, l[i]? = some x →
    w.cell? ⟨b, o + i * 3, none⟩ = some (.int .i64 x.k) ∧ w.cell? ⟨b, o + i * 3 + 1, none⟩ = some (.int .i64 x.n) ∧ w.cell? ⟨b, o + i * 3 + 2, none⟩ = some (.string x.t)

theorem TokRow.below {B B' : Nat} {w w' : World} {a : Option Addr} {l : List Tk} (h : TokRow B w a l) (hb : Below B' w w') (hB : B ≤ B') : TokRow B w' a l := by
  rcases h with h | ⟨b, o, rfl, h1, h2, h3⟩
  · exact .inl h
  · refine .inr ⟨b, o, rfl, h1, Nat.le_trans h2 hb.size, fun i x hx => ?_⟩
    obtain ⟨c0, c1, c2⟩ := h3 i x hx
    exact ⟨(hb.cell (p := ⟨b, _, none⟩) (by show b < B'; omega)).trans c0, (hb.cell (p := ⟨b, _, none⟩) (by show b < B'; omega)).trans c1, (hb.cell (p := ⟨b, _, none⟩) (by show b < B'; omega)).trans c2⟩
theorem TokRow.at_ {B : Nat} {w : World} {a : Option Addr} {l : List Tk} (h : TokRow B w a l) (k : Nat) (hk : k < l.length) :
    ∃ b o, a = some ⟨b, o, none⟩ ∧ b < B ∧ w.cell? ⟨b, o + k * 3, none⟩ = some (.int .i64 l[k].k) ∧ w.cell? ⟨b, o + k * 3 + 1, none⟩ = some (.int .i64 l[k].n) ∧ w.cell? ⟨b, o + k * 3 + 2, none⟩ = some (.string l[k].t) := by
  rcases h with rfl | ⟨b, o, rfl, h1, h2, h3⟩
  · simp at hk
  · obtain ⟨c0, c1, c2⟩ := h3 k l[k] (List.getElem?_eq_getElem hk)
    exact ⟨b, o, rfl, h1, c0, c1, c2⟩

/-- What is left when some tokens have been counted. -/
def szL (n : Int) : List Tk → Int
  | [] => n
  | x :: r => if n - x.t.size < 0 then -1 else szL (n - x.t.size) r
def szS (n : Int) (l : List Tk) : Int := if n - l.length < 0 then -1 else szL (n - l.length) l

theorem szL_le : ∀ (l : List Tk) (n : Int), ¬ szL n l < 0 → ∀ x ∈ l, (x.t.size : Int) ≤ n
  | [], _, _, x, hx => by cases hx
  | y :: r, n, h, x, hx => by
    rw [szL] at h
    by_cases hn : n - y.t.size < 0
    · rw [if_pos hn] at h; omega
    · rw [if_neg hn] at h
      rcases List.mem_cons.1 hx with rfl | hx
      · omega
      · have := szL_le r (n - y.t.size) h x hx; omega
theorem szS_le {n : Int} {l : List Tk} (h : ¬ szS n l < 0) : (l.length : Int) ≤ n ∧ ∀ x ∈ l, (x.t.size : Int) ≤ n := by
  unfold szS at h
  by_cases hn : n - l.length < 0
  · rw [if_pos hn] at h; omega
  · rw [if_neg hn] at h
    exact ⟨by omega, fun x hx => by have := szL_le l _ h x hx; omega⟩

theorem row_cell {w : World} {N : Nat} {e : TypeId} {cs : Array Value} (h : w.heap[N]? = some (.cells cs e (0, 0))) (j : Nat) : w.cell? ⟨N, j, none⟩ = cs[j]? := cell_of_row w N j cs e _ h
theorem row_frozen {w : World} {N : Nat} {e : TypeId} {cs : Array Value} (h : w.heap[N]? = some (.cells cs e (0, 0))) (j : Nat) : w.frozen? ⟨N, j, none⟩ = false := by
  simp [World.frozen?, h]
theorem row_set {w : World} {N : Nat} {e : TypeId} {cs : Array Value} (h : w.heap[N]? = some (.cells cs e (0, 0))) (j : Nat) (v : Value) : (w.setCell ⟨N, j, none⟩ v).heap[N]? = some (.cells (cs.setIfInBounds j v) e (0, 0)) := by
  rw [setCell_eq_setRow w N j cs e _ v h]; exact setRow_heap w N cs _ e _ h

/-- The first k tokens lie in the row. -/
def Laid (cs : Array Value) (l : List Tk) (k : Nat) : Prop := ∀ i x, i < k → l[i]? = some x → cs[i * 3]? = some (.int .i64 x.k) ∧ cs[i * 3 + 1]? = some (.int .i64 x.n) ∧ cs[i * 3 + 2]? = some (.string x.t)
def put3 (cs : Array Value) (k : Nat) (x : Tk) : Array Value := ((cs.setIfInBounds (k * 3) (.int .i64 x.k)).setIfInBounds (k * 3 + 1) (.int .i64 x.n)).setIfInBounds (k * 3 + 2) (.string x.t)
theorem Laid.put {cs : Array Value} {l : List Tk} {k : Nat} (h : Laid cs l k) (hk : k < l.length) (hs : cs.size = l.length * 3) : Laid (put3 cs k l[k]) l (k + 1) := by
  intro i x hi hx
  unfold put3
  by_cases hik : i = k
  · subst hik
    rw [List.getElem?_eq_getElem hk] at hx
    simp only [Option.some.injEq] at hx
    subst hx
    refine ⟨?_, ?_, ?_⟩ <;> simp [Array.getElem?_setIfInBounds] <;> omega
  · obtain ⟨c0, c1, c2⟩ := h i x (by omega) hx
    refine ⟨?_, ?_, ?_⟩
    · rw [Array.getElem?_setIfInBounds_ne (by omega), Array.getElem?_setIfInBounds_ne (by omega), Array.getElem?_setIfInBounds_ne (by omega)]; exact c0
    · rw [Array.getElem?_setIfInBounds_ne (by omega), Array.getElem?_setIfInBounds_ne (by omega), Array.getElem?_setIfInBounds_ne (by omega)]; exact c1
    · rw [Array.getElem?_setIfInBounds_ne (by omega), Array.getElem?_setIfInBounds_ne (by omega), Array.getElem?_setIfInBounds_ne (by omega)]; exact c2
theorem put3_size (cs : Array Value) (k : Nat) (x : Tk) : (put3 cs k x).size = cs.size := by simp [put3]
theorem Laid.row {w : World} {N : Nat} {cs : Array Value} {l : List Tk} (h : w.heap[N]? = some (.cells cs 29 (0, 0))) (hl : Laid cs l l.length) : TokRow w.heap.size w (some ⟨N, 0, none⟩) l := by
  refine .inr ⟨N, 0, rfl, (Array.getElem?_eq_some_iff.1 h).1, Nat.le_refl _, fun i x hx => ?_⟩
  have hi : i < l.length := (List.getElem?_eq_some_iff.1 hx).1
  rw [row_cell h, row_cell h, row_cell h, Nat.zero_add]
  exact hl i x hi hx

end Go.Proofs.YtjbogjoadcikhaaDoor
