/- Rows of chains that grow by append: the chains lie in blocks of their own, outside of the row's. -/
import Derived.Test.YtlfcjhiojbcijaaStTo
import Derived.Deep.AppendLies
namespace Go.Proofs.Ytlfcjhiojbcijaa.G
open Go.ChangeShapes Go.WideShapes Go.ChangeAt Go.RowKit
set_option linter.unusedVariables false

/-- A chain's cell value, its versions in a block from lo up that is not the row's. -/
def KidX (row : Option Nat) (lo : Nat) (w : World) (v : Value) (x : List Ve) : Prop :=
  ∃ a c, v = .slice a x.length c ∧ x.length ≤ c ∧ (x = [] ∨ ∃ b, a = some ⟨b, 0, none⟩ ∧ lo ≤ b ∧ b < w.heap.size ∧ some b ≠ row ∧ VeBlk w b x)
def Kids (row : Option Nat) (lo : Nat) (w : World) (vs : List Value) (l : Chs) : Prop := ∀ (i : Nat) (x : List Ve), l[i]? = some x → ∃ v, vs[i]? = some v ∧ KidX row lo w v x
theorem KidX.keep {row row' : Option Nat} {lo : Nat} {w w' : World} {v : Value} {x : List Ve} (h : KidX row lo w v x) (hs : w.heap.size ≤ w'.heap.size) (hk : ∀ k, lo ≤ k → k < w.heap.size → some k ≠ row → w'.heap[k]? = w.heap[k]? ∧ some k ≠ row') : KidX row' lo w' v x := by
  obtain ⟨a, c, h1, h2, h3⟩ := h
  refine ⟨a, c, h1, h2, ?_⟩
  rcases h3 with h3 | ⟨b, g1, g2, g3, g4, g5⟩
  · exact .inl h3
  · obtain ⟨f1, f2⟩ := hk b g2 g3 g4
    exact .inr ⟨b, g1, g2, by omega, f2, g5.move f1⟩
theorem Kids.keep {row row' : Option Nat} {lo : Nat} {w w' : World} {vs : List Value} {l : Chs} (h : Kids row lo w vs l) (hs : w.heap.size ≤ w'.heap.size) (hk : ∀ k, lo ≤ k → k < w.heap.size → some k ≠ row → w'.heap[k]? = w.heap[k]? ∧ some k ≠ row') : Kids row' lo w' vs l := fun i x hx => by
  obtain ⟨v, h1, h2⟩ := h i x hx
  exact ⟨v, h1, h2.keep hs hk⟩
theorem Kids.snoc {row : Option Nat} {lo : Nat} {w : World} {vs : List Value} {l : Chs} {v : Value} {x : List Ve} (h : Kids row lo w vs l) (hl : vs.length = l.length) (hv : KidX row lo w v x) : Kids row lo w (vs ++ [v]) (l ++ [x]) := fun i y hy => by
  by_cases hi : i < l.length
  · rw [List.getElem?_append_left hi] at hy
    obtain ⟨u, h1, h2⟩ := h i y hy
    exact ⟨u, by rw [List.getElem?_append_left (by omega)]; exact h1, h2⟩
  · rw [List.getElem?_append_right (by omega)] at hy
    have : i - l.length < 1 := by have := (List.getElem?_eq_some_iff.1 hy).1; simpa using this
    have e : i - l.length = 0 := by omega
    rw [e] at hy
    simp only [List.getElem?_cons_zero, Option.some.injEq] at hy
    subst hy
    exact ⟨v, by rw [List.getElem?_append_right (by omega), hl, e]; rfl, hv⟩
theorem KidX.one {row : Option Nat} {lo : Nat} {w : World} {v : Value} {x : List Ve} (h : KidX row lo w v x) : v.oneCell' = true := by
  obtain ⟨a, c, rfl, _⟩ := h; rfl
/-- The row and its chains, as a store's chains. -/
theorem Kids.row {lo : Nat} {w : World} {v : Value} {vs : List Value} {l : Chs} (ho : w.ownsRow lo 78 1 v l.length vs) (hk : Kids v.ownBlock lo w vs l) : ∃ a c, v = .slice a l.length c ∧ ChRow lo w.heap.size w a l := by
  obtain ⟨hl, ho⟩ := ho
  rcases ho with ⟨rfl, h0⟩ | ⟨g, cap, cur, rfl, h1, h2, h3, h4, h5, h6⟩
  · have : l = [] := List.eq_nil_of_length_eq_zero h0
    subst this
    exact ⟨none, 0, rfl, .inl rfl⟩
  · refine ⟨_, _, rfl, .inr ⟨g, 0, rfl, h1, (Array.getElem?_eq_some_iff.1 h2).1, fun i x hx => ?_⟩⟩
    obtain ⟨u, g1, a3, c3, rfl, q2, q3⟩ := hk i x hx
    have hi := (List.getElem?_eq_some_iff.1 hx).1
    refine ⟨a3, c3, ?_, q2, ?_⟩
    · rw [row_rd h2]
      rw [← h6, List.getElem?_take, if_pos (by omega)] at g1
      simpa using g1
    · rcases q3 with q3 | ⟨b, e1, e2, e3, e4, e5⟩
      · exact .inl q3
      · rw [e1]; exact e5.row e2 e3
theorem KidX.low {row : Option Nat} {lo lo' : Nat} {w : World} {v : Value} {x : List Ve} (h : KidX row lo w v x) (hl : lo' ≤ lo) : KidX row lo' w v x := by
  obtain ⟨a, c, h1, h2, h3⟩ := h
  refine ⟨a, c, h1, h2, ?_⟩
  rcases h3 with h3 | ⟨b, g1, g2, g3, g4, g5⟩
  · exact .inl h3
  · exact .inr ⟨b, g1, by omega, g3, g4, g5⟩
theorem Kids.low {row : Option Nat} {lo lo' : Nat} {w : World} {vs : List Value} {l : Chs} (h : Kids row lo w vs l) (hl : lo' ≤ lo) : Kids row lo' w vs l := fun i x hx => by
  obtain ⟨v, h1, h2⟩ := h i x hx
  exact ⟨v, h1, h2.low hl⟩
theorem own_low {w : World} {base base' size n : Nat} {e : TypeId} {v : Value} {xs : List Value} (h : w.ownsRow base e size v n xs) (hb : base' ≤ base) : w.ownsRow base' e size v n xs := by
  refine ⟨h.1, ?_⟩
  rcases h.2 with h0 | ⟨g, cap, cur, rfl, h1, h2, h3⟩
  · exact .inl h0
  · exact .inr ⟨g, cap, cur, rfl, by omega, h2, h3⟩
theorem own_set {w : World} {base size n : Nat} {e : TypeId} {v : Value} {xs : List Value} (h : w.ownsRow base e size v n xs) {w' : World} (hk : ∀ g, v.ownBlock = some g → w'.heap[g]? = w.heap[g]?) : w'.ownsRow base e size v n xs := by
  refine ⟨h.1, ?_⟩
  rcases h.2 with h0 | ⟨g, cap, cur, rfl, h1, h2, h3⟩
  · exact .inl h0
  · exact .inr ⟨g, cap, cur, rfl, h1, (hk g rfl).trans h2, h3⟩
/-- A row of chains that grows, told by a struct's cell: the struct lies in block b, the row from lo up outside of it, the chains behind it. -/
structure Grow (b : Nat) (now : Int) (w : World) (v : Value) (vs : List Value) (l : Chs) : Prop where
  cell : w.heap[b]? = some (.cells #[v, .int .i64 now] 38 (0, 0))
  own : w.ownsRow (b - 1) 78 1 v l.length vs
  off : v.ownBlock ≠ some b
  kids : Kids v.ownBlock (b + 1) w vs l
theorem Grow.len {b : Nat} {now : Int} {w : World} {v : Value} {vs : List Value} {l : Chs} (h : Grow b now w v vs l) : vs.length = l.length := by have := h.own.1; omega
theorem Grow.below {b : Nat} {now : Int} {w w' : World} {v : Value} {vs : List Value} {l : Chs} (h : Grow b now w v vs l) (hb : Below w.heap.size w w') : Grow b now w' v vs l := by
  have hlt := (Array.getElem?_eq_some_iff.1 h.cell).1
  refine ⟨(hb.block _ hlt).trans h.cell, own_set h.own (fun g hg => ?_), h.off, h.kids.keep hb.size (fun k h1 h2 h3 => ⟨hb.block k h2, h3⟩)⟩
  refine hb.block g ?_
  rcases h.own.2 with ⟨e, _⟩ | ⟨g', cap, cur, e, _, h2, _⟩
  · subst e; cases hg
  · subst e
    simp only [Value.ownBlock, Option.some.injEq] at hg
    subst hg
    exact (Array.getElem?_eq_some_iff.1 h2).1
theorem Grow.row {b : Nat} {now : Int} {w : World} {v : Value} {vs : List Value} {l : Chs} (h : Grow b now w v vs l) : ∃ a c, v = .slice a l.length c ∧ ChRow (b - 1) w.heap.size w a l := Kids.row h.own (h.kids.low (by omega))
end Go.Proofs.Ytlfcjhiojbcijaa.G
