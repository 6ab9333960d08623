/- The program's reader of schemas: rows of types. -/
import Derived.Test.YtnfoinmccigdfaaGreatDoorSpTypeTwo
namespace Go.Proofs.YtnfoinmccigdfaaGreatDoor
open Go.ChangeShapes Go.WideShapes Go.ChangeAt Go.RowKit
set_option linter.unusedVariables false

/-- A block of a type's fields or of their arguments. -/
def blkF (v : Value) (ps : List (G.Fd × Value)) (g : Nat) : Prop := v.ownBlock = some g ∨ ∃ s, ∃ h : s < ps.length, ps[s].2.ownBlock = some g
theorem FdsAt.keepB {base : Nat} {W W' : World} {v : Value} {ps : List (G.Fd × Value)} (h : FdsAt base W v ps) (hk : ∀ g, blkF v ps g → W'.heap[g]? = W.heap[g]?) : FdsAt base W' v ps :=
  ⟨own_keepT h.own fun g hg => hk g (.inl hg), fun i hi => own_keepT (h.each i hi) fun g hg => hk g (.inr ⟨i, hi, hg⟩), h.apart⟩
theorem FdsAt.low {base b : Nat} {W : World} {v : Value} {ps : List (G.Fd × Value)} (h : FdsAt base W v ps) (hb : b ≤ base) : FdsAt b W v ps := ⟨own_base h.own hb, fun i hi => own_base (h.each i hi) hb, h.apart⟩
theorem FdsAt.blk {base : Nat} {W : World} {v : Value} {ps : List (G.Fd × Value)} (h : FdsAt base W v ps) {g : Nat} (hg : blkF v ps g) : base ≤ g ∧ g < W.heap.size := by
  rcases hg with hg | ⟨s, hs, hg⟩
  · exact World.ownsRow.lt h.own g hg
  · exact World.ownsRow.lt (h.each s hs) g hg
theorem FdsAt.off {base b : Nat} {W : World} {v V : Value} {ps : List (G.Fd × Value)} {e : TypeId} {sz n : Nat} {xs : List Value} (h : FdsAt base W v ps) (hV : W.ownsRow b e sz V n xs) (h1 : e ≠ 53) (h2 : e ≠ 79) {g : Nat} (hg : blkF v ps g) : V.ownBlock ≠ some g := fun he => by
  rcases hg with hg | ⟨s, hs, hg⟩
  · exact own_types hV h.own h1 he hg
  · exact own_types hV (h.each s hs) h2 he hg
abbrev Ty := ByteArray × Value × List (G.Fd × Value)
def tdVs : List Ty → List Value
  | [] => []
  | t :: l => .string t.1 :: t.2.1 :: tdVs l
theorem tdVs_snoc : ∀ (l : List Ty) (t : Ty), tdVs (l ++ [t]) = tdVs l ++ [.string t.1, t.2.1]
  | [], t => rfl
  | q :: l, t => by simp [tdVs, tdVs_snoc l t]
def tyD (t : Ty) : G.Td := ⟨t.1, t.2.2.map (·.1)⟩
/-- Types in a row of their own, their fields in rows of their own, no block twice. -/
structure TdsAt (base : Nat) (W : World) (V : Value) (ts : List Ty) : Prop where
  own : W.ownsRow base 49 2 V ts.length (tdVs ts)
  each : ∀ i (h : i < ts.length), FdsAt base W ts[i].2.1 ts[i].2.2
  apart : ∀ i j (hi : i < ts.length) (hj : j < ts.length), i ≠ j → ∀ g, blkF ts[i].2.1 ts[i].2.2 g → ¬ blkF ts[j].2.1 ts[j].2.2 g
theorem TdsAt.start (base : Nat) (W : World) : TdsAt base W (.slice none 0 0) [] := ⟨⟨rfl, .inl ⟨rfl, rfl⟩⟩, fun i h => absurd h (by simp), fun i j h => absurd h (by simp)⟩
theorem TdsAt.grow {base : Nat} {W W' : World} {V : Value} {ts : List Ty} {L : Nat} (h : TdsAt base W V ts) (hg : W.grownBy W' (some L)) (hL : L < base) : TdsAt base W' V ts :=
  ⟨own_grown h.own hg hL, fun i hi => (h.each i hi).grow hg hL, h.apart⟩
/-- A type more. -/
theorem TdsAt.push {base N : Nat} {W U W8 : World} {V V' v : Value} {ts : List Ty} {nm : ByteArray} {ps : List (G.Fd × Value)} (h : TdsAt base W V ts) (hN : ∀ i (hi : i < ts.length) g, blkF ts[i].2.1 ts[i].2.2 g → g < N) (hb : base ≤ N) (hf : FdsAt N W v ps) (hU : Below W.heap.size W U) (hg : U.grownBy W8 V.ownBlock)
    (ho : W8.ownsRow base 49 2 V' (ts.length + 1) (tdVs ts ++ [.string nm, v])) : TdsAt base W8 V' (ts ++ [(nm, v, ps)]) := by
  have kp : ∀ g, g < W.heap.size → V.ownBlock ≠ some g → W8.heap[g]? = W.heap[g]? := fun g h1 h2 => (hg.block g (by have := hU.size; omega) (fun e => h2 e.symm)).trans (hU.block g h1)
  have hi0 : ∀ i (hi : i < (ts ++ [(nm, v, ps)]).length), (∃ h' : i < ts.length, (ts ++ [(nm, v, ps)])[i] = ts[i]) ∨ (i = ts.length ∧ (ts ++ [(nm, v, ps)])[i] = (nm, v, ps)) := fun i hi => by
    by_cases h' : i < ts.length
    · exact .inl ⟨h', List.getElem_append_left h'⟩
    · have hi' : i = ts.length := by simp at hi; omega
      subst hi'
      refine .inr ⟨rfl, ?_⟩
      rw [List.getElem_append_right (Nat.le_refl _)]; simp
  have t1 : (49 : TypeId) ≠ 53 := by decide
  have t2 : (49 : TypeId) ≠ 79 := by decide
  refine ⟨by rw [tdVs_snoc, List.length_append]; exact ho, fun i hi => ?_, fun i j hi hj hne g hg1 hg2 => ?_⟩
  · rcases hi0 i hi with ⟨h', e⟩ | ⟨_, e⟩
    · rw [e]
      exact (h.each i h').keepB fun g hg' => kp g ((h.each i h').blk hg').2 ((h.each i h').off h.own t1 t2 hg')
    · rw [e]
      exact (hf.keepB fun g hg' => kp g (hf.blk hg').2 (hf.off h.own t1 t2 hg')).low hb
  · rcases hi0 i hi with ⟨h1, e1⟩ | ⟨h1, e1⟩ <;> rcases hi0 j hj with ⟨h2, e2⟩ | ⟨h2, e2⟩ <;> rw [e1] at hg1 <;> rw [e2] at hg2
    · exact h.apart i j h1 h2 hne g hg1 hg2
    · have := hN i h1 g hg1
      have := (hf.blk hg2).1
      omega
    · have := hN j h2 g hg2
      have := (hf.blk hg1).1
      omega
    · omega
/-- A schema: types up to the end. -/
def SchR (l : List Tk) (i : Nat) (r : Option (List G.Td × Nat)) : Prop := ∃ r', Many (fun k => decide (k = l.length)) (TdR l) i r' ∧ r = r'
theorem TdR.det {l : List Tk} {i : Nat} {r r' : Option (G.Td × Nat)} (h : TdR l i r) (h' : TdR l i r') : r = r' := by
  rcases h with ⟨h1, rfl⟩ | ⟨h1, h2⟩ <;> rcases h' with ⟨g1, rfl⟩ | ⟨g1, g2⟩
  · rfl
  · exact absurd g1 h1
  · exact absurd h1 g1
  · rcases h2 with ⟨h2, rfl⟩ | ⟨h2, h3⟩ <;> rcases g2 with ⟨g2, rfl⟩ | ⟨g2, g3⟩
    · rfl
    · exact absurd h2 g2
    · exact absurd g2 h2
    · rcases h3 with ⟨h3, rfl⟩ | ⟨h3, q, h4, h5⟩ <;> rcases g3 with ⟨g3, rfl⟩ | ⟨g3, q', g4, g5⟩
      · rfl
      · rw [h3] at g3; cases g3
      · rw [h3] at g3; cases g3
      · obtain rfl := h4.det (fun i r r' a b => a.det b) g4
        rcases h5 with ⟨rfl, rfl⟩ | ⟨fs, j, rfl, rfl⟩ <;> rcases g5 with ⟨e, rfl⟩ | ⟨fs', j', e, rfl⟩
        · rfl
        · cases e
        · cases e
        · cases e; rfl
end Go.Proofs.YtnfoinmccigdfaaGreatDoor
