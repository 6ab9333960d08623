/- One chain more, copied and appended to a struct's row of chains, in whatever order: what stays. -/
import Derived.Test.YtlfcjhiojbcijaaStFresh
import Derived.Test.YtlfcjhiojbcijaaGRegionFive
namespace Go.Proofs.Ytlfcjhiojbcijaa.G
open Go.ChangeShapes Go.WideShapes Go.ChangeAt Go.RowKit
set_option linter.unusedVariables false

theorem Grow.lt {b : Nat} {now : Int} {w : World} {v : Value} {vs : List Value} {l : Chs} (h : Grow b now w v vs l) : b < w.heap.size ∧ ∀ k, v.ownBlock = some k → b - 1 ≤ k ∧ k < w.heap.size := by
  refine ⟨(Array.getElem?_eq_some_iff.1 h.cell).1, fun k hk => ?_⟩
  rcases h.own.2 with ⟨e, _⟩ | ⟨g', cap, cur, e, h1, h2, _⟩
  · subst e; cases hk
  · subst e
    simp only [Value.ownBlock, Option.some.injEq] at hk
    subst hk
    exact ⟨h1, (Array.getElem?_eq_some_iff.1 h2).1⟩
/-- Where the region stands: x is the operation that appends, s the slot that it writes. -/
def GrJ (x s b : Nat) (now : Int) (W0 : World) (v : Value) (vs : List Value) (l : Chs) (y : List Ve) (L : Array Bool) (u : Nat → Value) (W : World) : Prop :=
  W0.grownBy W v.ownBlock ∧ (L.getD x false = false → Grow b now W v vs l) ∧
  (L.getD x false = true → ∃ vs', W.ownsRow (b - 1) 78 1 (u s) (l ++ [y]).length vs' ∧ (u s).ownBlock ≠ some b ∧ Kids (u s).ownBlock (b + 1) W vs' (l ++ [y]))
theorem grown_refl (w : World) (r : Option Nat) : w.grownBy w r := ⟨rfl, rfl, rfl, Nat.le_refl _, fun _ _ _ => rfl⟩
theorem grown_below {a w w' : World} {r : Option Nat} (h : a.grownBy w r) (hb : Below w.heap.size w w') : a.grownBy w' r :=
  ⟨hb.os.trans h.os, hb.tape.trans h.tape, hb.output.trans h.output, Nat.le_trans h.size hb.size, fun k hk hn => (hb.block k (Nat.lt_of_lt_of_le hk h.size)).trans (h.block k hk hn)⟩
theorem grown_trans {a w w' : World} {r : Option Nat} (h : a.grownBy w r) (g : w.grownBy w' r) : a.grownBy w' r :=
  ⟨g.os.trans h.os, g.tape.trans h.tape, g.output.trans h.output, Nat.le_trans h.size g.size, fun k hk hn => (g.block k (Nat.lt_of_lt_of_le hk h.size) hn).trans (h.block k hk hn)⟩
theorem own_below {w w' : World} {base size n : Nat} {e : TypeId} {v : Value} {xs : List Value} (h : w.ownsRow base e size v n xs) (hb : Below w.heap.size w w') : w'.ownsRow base e size v n xs := by
  refine own_set h (fun g hg => hb.block g ?_)
  rcases h.2 with ⟨e, _⟩ | ⟨g', cap, cur, e, h1, h2, _⟩
  · subst e; cases hg
  · subst e
    simp only [Value.ownBlock, Option.some.injEq] at hg
    subst hg
    exact (Array.getElem?_eq_some_iff.1 h2).1
theorem GrJ.start {x s b : Nat} {now : Int} {W0 : World} {v : Value} {vs : List Value} {l : Chs} {y : List Ve} {n : Nat} {u : Nat → Value} (h : Grow b now W0 v vs l) : GrJ x s b now W0 v vs l y (Array.replicate n false) u W0.drew := by
  refine ⟨grown_below (grown_refl _ _) (Below.refl _ _).drew, fun _ => h.below (Below.refl _ _).drew, fun h => ?_⟩
  exfalso
  by_cases hx : x < n
  · simp [hx] at h
  · simp [hx] at h
theorem GrJ.step {x s b : Nat} {now : Int} {W0 : World} {v : Value} {vs : List Value} {l : Chs} {y : List Ve} {L : Array Bool} {u : Nat → Value} {W W' : World} (h : GrJ x s b now W0 v vs l y L u W) (hb : Below W.heap.size W W') {i d : Nat} {val : Value} (hi : i ≠ x) (hd : d ≠ s) :
    GrJ x s b now W0 v vs l y (L.setIfInBounds i true) (upd u d val) W' := by
  obtain ⟨h1, h2, h3⟩ := h
  refine ⟨grown_below h1 hb, fun hl => ?_, fun hl => ?_⟩
  · rw [getD_set_ne false hi] at hl; exact (h2 hl).below hb
  · rw [getD_set_ne false hi] at hl
    obtain ⟨vs', g1, g2, g3⟩ := h3 hl
    rw [upd_ne _ _ (Ne.symm hd)]
    exact ⟨vs', own_below g1 hb, g2, g3.keep hb.size (fun k a1 a2 a3 => ⟨hb.block k a2, a3⟩)⟩
/-- The append itself. -/
theorem GrJ.put {x s b : Nat} {now : Int} {W0 : World} {v : Value} {vs : List Value} {l : Chs} {y : List Ve} {L : Array Bool} {u : Nat → Value} {W W' : World} (h : GrJ x s b now W0 v vs l y L u W) (hx : x < L.size) (hl : L.getD x false = false) (hb0 : b + 1 ≤ W0.heap.size)
    {kid : Value} (hk : KidX v.ownBlock W0.heap.size W kid y) {g cap : Nat} (ho : W'.ownsRow (b - 1) 78 1 (.slice (some ⟨g, 0, none⟩) (l.length + 1) cap) (l.length + 1) (vs ++ [kid])) (hg : W.grownBy W' v.ownBlock) (hat : v.ownBlock = some g ∨ g = W.heap.size) :
    GrJ x s b now W0 v vs l y (L.setIfInBounds x true) (upd u s (.slice (some ⟨g, 0, none⟩) (l.length + 1) cap)) W' := by
  obtain ⟨h1, h2, h3⟩ := h
  have hG := h2 hl
  have hlen := hG.len
  refine ⟨grown_trans h1 hg, fun hh => ?_, fun _ => ?_⟩
  · simp [hx] at hh
  · rw [upd_at]
    refine ⟨vs ++ [kid], by simpa using ho, ?_, ?_⟩
    · simp only [Value.ownBlock, ne_eq, Option.some.injEq]
      rcases hat with h | h
      · intro e; exact hG.off (by rw [h, e])
      · have := h1.size; omega
    · refine Kids.snoc (Kids.keep hG.kids hg.size (fun k a1 a2 a3 => ⟨hg.block k a2 a3, ?_⟩)) hlen (KidX.low (KidX.keep hk hg.size (fun k a1 a2 a3 => ⟨hg.block k a2 a3, ?_⟩)) hb0)
      all_goals
        simp only [Value.ownBlock, ne_eq, Option.some.injEq]
        rcases hat with h | h
        · intro e; exact a3 (by rw [h, e])
        · omega
/-- Behind the store. -/
theorem GrJ.done {x s b : Nat} {now : Int} {W0 : World} {v : Value} {vs : List Value} {l : Chs} {y : List Ve} {L : Array Bool} {u : Nat → Value} {W : World} (h : GrJ x s b now W0 v vs l y L u W) (h0 : Grow b now W0 v vs l) (hl : L.getD x false = true) (hb : 0 < b) :
    W.heap[b]? = some (.cells #[v, .int .i64 now] 38 (0, 0)) ∧ ∃ vs', Grow b now (W.setCell ⟨b, 0, none⟩ (u s)) (u s) vs' (l ++ [y]) := by
  obtain ⟨h1, h2, h3⟩ := h
  obtain ⟨vs', g1, g2, g3⟩ := h3 hl
  have hc : W.heap[b]? = some (.cells #[v, .int .i64 now] 38 (0, 0)) := (h1.block b h0.lt.1 (fun e => h0.off e.symm)).trans h0.cell
  refine ⟨hc, vs', ⟨?_, ?_, g2, ?_⟩⟩
  · have := row_set hc 0 (u s)
    simpa using this
  · exact own_set g1 (fun g hg => heap_set _ _ _ _ _ (fun e => g2 (by rw [hg, e])))
  · refine Kids.keep g3 (by simp) (fun k a1 a2 a3 => ⟨heap_set _ _ _ _ _ (by omega), a3⟩)
end Go.Proofs.Ytlfcjhiojbcijaa.G
