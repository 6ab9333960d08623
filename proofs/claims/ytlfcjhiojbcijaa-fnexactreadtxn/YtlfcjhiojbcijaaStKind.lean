/- What stays while blocks of one kind alone are written. -/
import Derived.Test.YtlfcjhiojbcijaaStTxMk
import Derived.Test.YtlfcjhiojbcijaaStWrJ
namespace Go.Proofs.Ytlfcjhiojbcijaa.G
open Go.ChangeShapes Go.WideShapes Go.ChangeAt Go.RowKit
set_option linter.unusedVariables false

/-- Blocks stay, in kind and length; those of another kind than T stay whole. -/
def KeptT (T : TypeId) (W W' : World) : Prop := W.heap.size ≤ W'.heap.size ∧ ∀ (b : Nat) (S : TypeId) (cs : Array Value), W.heap[b]? = some (.cells cs S (0, 0)) → ∃ cs', W'.heap[b]? = some (.cells cs' S (0, 0)) ∧ cs'.size = cs.size ∧ (S ≠ T → cs' = cs)
theorem KeptT.of {T : TypeId} {W W' : World} (h : Below W.heap.size W W') : KeptT T W W' := ⟨h.size, fun b S cs hb => ⟨cs, (h.block b (Array.getElem?_eq_some_iff.1 hb).1).trans hb, rfl, fun _ => rfl⟩⟩
theorem KeptT.refl (T : TypeId) (W : World) : KeptT T W W := KeptT.of (Below.refl _ _)
theorem KeptT.trans {T : TypeId} {a b c : World} (h : KeptT T a b) (g : KeptT T b c) : KeptT T a c := ⟨Nat.le_trans h.1 g.1, fun k S cs hk => by
  obtain ⟨c1, h1, h2, h3⟩ := h.2 k S cs hk
  obtain ⟨c2, g1, g2, g3⟩ := g.2 k S c1 h1
  exact ⟨c2, g1, by omega, fun hS => (g3 hS).trans (h3 hS)⟩⟩
theorem KeptT.set {T : TypeId} {W : World} {B o : Nat} {v : Value} {c0 : Array Value} (hB : W.heap[B]? = some (.cells c0 T (0, 0))) : KeptT T W (W.setCell ⟨B, o, none⟩ v) := by
  refine ⟨by simp, fun b S cs hb => ?_⟩
  by_cases e : b = B
  · subst e
    rw [hB] at hb
    simp only [Option.some.injEq, Obj.cells.injEq] at hb
    obtain ⟨rfl, rfl, _⟩ := hb
    exact ⟨_, row_set hB o v, by simp, fun h => absurd rfl h⟩
  · exact ⟨cs, (heap_set _ _ _ _ _ e).trans hb, rfl, fun _ => rfl⟩
theorem KeptT.same {T : TypeId} {W W' : World} (h : KeptT T W W') {b : Nat} {S : TypeId} {cs : Array Value} (hb : W.heap[b]? = some (.cells cs S (0, 0))) (hS : S ≠ T) : W'.heap[b]? = W.heap[b]? := by
  obtain ⟨c1, h1, _, h3⟩ := h.2 b S cs hb
  rw [h1, hb, h3 hS]
theorem VeBlk.kept {T : TypeId} {W W' : World} {b : Nat} {l : List Ve} (h : VeBlk W b l) (hk : KeptT T W W') (hT : 92 ≠ T) : VeBlk W' b l := by
  have h0 := h
  obtain ⟨cs, h1, _⟩ := h
  exact h0.move (hk.same h1 hT)
theorem StOwn.kept {T : TypeId} {lo : Nat} {W W' : World} {a : Option Addr} {l : Chs} {bs : Nat → Nat} (h : StOwn lo W.heap.size W a l bs) (hk : KeptT T W W') (hT : 92 ≠ T) (hT2 : 78 ≠ T) : StOwn lo W'.heap.size W' a l bs := by
  obtain ⟨b, cs, e, h1, h2, h3, h4, h5, h6⟩ := h
  have hz := hk.1
  refine ⟨b, cs, e, h1, by omega, (hk.same h3 hT2).trans h3, h4, fun i x hx => ?_, h6⟩
  obtain ⟨a3, c, g1, g2, g3⟩ := h5 i x hx
  refine ⟨a3, c, g1, g2, fun hne => ?_⟩
  obtain ⟨f1, f2, f3, f4, f5⟩ := g3 hne
  exact ⟨f1, f2, by omega, f4, f5.kept hk hT⟩
theorem own_kept {T : TypeId} {W W' : World} {base size n : Nat} {e : TypeId} {v : Value} {xs : List Value} (h : W.ownsRow base e size v n xs) (hk : KeptT T W W') (hT : e ≠ T) : W'.ownsRow base e size v n xs := by
  refine ⟨h.1, ?_⟩
  rcases h.2 with h0 | ⟨g, cap, cur, rfl, h1, h2, h3⟩
  · exact .inl h0
  · exact .inr ⟨g, cap, cur, rfl, h1, (hk.same h2 hT).trans h2, h3⟩
theorem OwnK.kept {T : TypeId} {lo : Nat} {W W' : World} {v : Value} {l : Chs} (h : OwnK lo W v l) (hk : KeptT T W W') (hT : 92 ≠ T) (hT2 : 78 ≠ T) : OwnK lo W' v l := by
  obtain ⟨vs, h1, h2⟩ := h
  refine ⟨vs, own_kept h1 hk hT2, fun i x hx => ?_⟩
  obtain ⟨u, g1, a, c, g2, g3, g4⟩ := h2 i x hx
  refine ⟨u, g1, a, c, g2, g3, ?_⟩
  rcases g4 with g4 | ⟨b, e1, e2, e3, e4, e5⟩
  · exact .inl g4
  · exact .inr ⟨b, e1, e2, by have := hk.1; omega, e4, e5.kept hk hT⟩
theorem NuOwn.kept {T : TypeId} {lo : Nat} {W W' : World} {a : Option Addr} {x : List Int} (h : NuOwn lo W.heap.size W a x) (hk : KeptT T W W') (hT : 3 ≠ T) : NuOwn lo W'.heap.size W' a x := by
  rcases h with h | ⟨g, cs, e, h1, h2, h3, h4⟩
  · exact .inl h
  · exact .inr ⟨g, cs, e, h1, by have := hk.1; omega, (hk.same h3 hT).trans h3, h4⟩
theorem PuOwn.kept {T : TypeId} {lo : Nat} {W W' : World} {a : Option Addr} {x : List Ve} (h : PuOwn lo W.heap.size W a x) (hk : KeptT T W W') (hT : 81 ≠ T) : PuOwn lo W'.heap.size W' a x := by
  rcases h with h | ⟨g, e, h1, h2, h3⟩
  · exact .inl h
  · have h0 := h3
    obtain ⟨cs, h4, _⟩ := h3
    exact .inr ⟨g, e, h1, by have := hk.1; omega, h0.move (hk.same h4 hT)⟩
theorem TxOwn.kept {T : TypeId} {lo : Nat} {W W' : World} {ra wa : Option Addr} {rs : List Int} {ws : List Ve} (h : TxOwn lo W.heap.size W ra wa rs ws) (hk : KeptT T W W') (hT : 3 ≠ T) (hT2 : 81 ≠ T) : TxOwn lo W'.heap.size W' ra wa rs ws := ⟨NuOwn.kept h.1 hk hT, PuOwn.kept h.2 hk hT2⟩
end Go.Proofs.Ytlfcjhiojbcijaa.G
