/- The law's marks written into a store that the call owns, and held. -/
import Derived.Test.YtbpkjpoicelgcaaStTo
import Derived.Test.YtbpkjpoicelgcaaStRead
namespace Go.Proofs.Ytbpkjpoicelgcaa.G
open Go.ChangeShapes Go.WideShapes Go.ChangeAt Go.RowKit
set_option linter.unusedVariables false

/-- Nothing has turned but blocks from lo up and below hi, and new ones were made. -/
structure KeptS (lo hi : Nat) (w w' : World) : Prop where
  os : w'.os = w.os
  tape : w'.tape = w.tape
  output : w'.output = w.output
  size : w.heap.size ≤ w'.heap.size
  block : ∀ k, k < w.heap.size → ¬ (lo ≤ k ∧ k < hi) → w'.heap[k]? = w.heap[k]?
theorem KeptS.refl (lo hi : Nat) (w : World) : KeptS lo hi w w := ⟨rfl, rfl, rfl, Nat.le_refl _, fun _ _ _ => rfl⟩
theorem KeptS.trans {lo hi : Nat} {a b c : World} (h : KeptS lo hi a b) (k : KeptS lo hi b c) : KeptS lo hi a c :=
  ⟨k.os.trans h.os, k.tape.trans h.tape, k.output.trans h.output, Nat.le_trans h.size k.size, fun g hg hn => (k.block g (Nat.lt_of_lt_of_le hg h.size) hn).trans (h.block g hg hn)⟩
theorem KeptS.mono {lo hi lo' hi' : Nat} {a b : World} (h : KeptS lo hi a b) (e1 : lo' ≤ lo) (e2 : hi ≤ hi') : KeptS lo' hi' a b := ⟨h.os, h.tape, h.output, h.size, fun g hg hn => h.block g hg (fun hx => hn ⟨by omega, by omega⟩)⟩
theorem KeptS.of {lo hi : Nat} {a b : World} (h : Below a.heap.size a b) : KeptS lo hi a b := ⟨h.os, h.tape, h.output, h.size, fun g hg _ => h.block g hg⟩
theorem KeptS.set {lo hi : Nat} {a b : World} (h : KeptS lo hi a b) {p : Addr} (h1 : lo ≤ p.block) (h2 : p.block < hi) (v : Value) : KeptS lo hi a (b.setCell p v) := by
  have hb : Below (p.block) b (b.setCell p v) := (Below.refl _ _).setCell (Nat.le_refl _) v
  exact h.trans ⟨hb.os, hb.tape, hb.output, hb.size, fun g _ hn => Below.heap_setCell _ _ _ _ (fun e => hn (e ▸ ⟨h1, h2⟩))⟩
theorem KeptS.below {lo hi : Nat} {a b : World} (h : KeptS lo hi a b) {B : Nat} (hB : B ≤ a.heap.size) (hs : B ≤ lo) : Below B a b :=
  ⟨h.os, h.tape, h.output, h.size, fun g hg => h.block g (by omega) (fun hx => by omega)⟩
theorem KeptS.agree {lo hi lo' hi' : Nat} {a b : World} (h : KeptS lo hi a b) (hB : hi' ≤ a.heap.size) (hs : hi' ≤ lo ∨ hi ≤ lo') : Agree lo' hi' a b :=
  fun g h1 h2 => h.block g (by omega) (fun hx => by omega)
/-- A block whose first n versions bear the marks from K on. -/
def VeMk (w : World) (b : Nat) (K : Int) (n : Nat) : Prop := ∃ cs, w.heap[b]? = some (.cells cs 61 (0, 0)) ∧ n * 2 ≤ cs.size ∧ ∀ i : Nat, i < n → cs[i * 2]? = some (.int .i64 (K + 2 * i)) ∧ cs[i * 2 + 1]? = some (.int .i64 (K + 2 * i + 1))
theorem VeMk.move {w w' : World} {b : Nat} {K : Int} {n : Nat} (h : VeMk w b K n) (e : w'.heap[b]? = w.heap[b]?) : VeMk w' b K n := by
  obtain ⟨cs, h1, h2⟩ := h
  exact ⟨cs, e.trans h1, h2⟩
theorem mk_put {cs : Array Value} {K : Int} {k n : Nat} (hs : n * 2 ≤ cs.size) (hk : k < n) (h : ∀ i : Nat, i < k → cs[i * 2]? = some (.int .i64 (K + 2 * i)) ∧ cs[i * 2 + 1]? = some (.int .i64 (K + 2 * i + 1))) {v0 v1 : Int} (e0 : v0 = K + 2 * k) (e1 : v1 = K + 2 * k + 1) :
    ∀ i : Nat, i < k + 1 → ((cs.setIfInBounds (k * 2) (.int .i64 v0)).setIfInBounds (k * 2 + 1) (.int .i64 v1))[i * 2]? = some (.int .i64 (K + 2 * i)) ∧ ((cs.setIfInBounds (k * 2) (.int .i64 v0)).setIfInBounds (k * 2 + 1) (.int .i64 v1))[i * 2 + 1]? = some (.int .i64 (K + 2 * i + 1)) := by
  subst e0 e1
  intro i hi
  by_cases hik : i = k
  · subst hik
    refine ⟨?_, ?_⟩ <;> simp [Array.getElem?_setIfInBounds] <;> omega
  · obtain ⟨c0, c1⟩ := h i (by omega)
    refine ⟨?_, ?_⟩
    · rw [Array.getElem?_setIfInBounds_ne (by omega), Array.getElem?_setIfInBounds_ne (by omega)]; exact c0
    · rw [Array.getElem?_setIfInBounds_ne (by omega), Array.getElem?_setIfInBounds_ne (by omega)]; exact c1
/-- A store whose first k chains bear the marks. -/
def StMk (lo hi : Nat) (w : World) (a : Option Addr) (l : Chs) (bs : Nat → Nat) (K : Int) (k : Nat) : Prop :=
  ∃ b cs, a = some ⟨b, 0, none⟩ ∧ lo ≤ b ∧ b < hi ∧ w.heap[b]? = some (.cells cs 58 (0, 0)) ∧
    (∀ i x, l[i]? = some x → ∃ a3 c, cs[i]? = some (.slice a3 x.length c) ∧ (x ≠ [] → a3 = some ⟨bs i, 0, none⟩ ∧ lo ≤ bs i ∧ bs i < hi ∧ bs i ≠ b ∧ (i < k → VeMk w (bs i) (K + 2 * sizeN (l.take i)) x.length) ∧ (k ≤ i → VeBlk w (bs i) x))) ∧
    (∀ i j x y, l[i]? = some x → l[j]? = some y → i ≠ j → x ≠ [] → y ≠ [] → bs i ≠ bs j)
theorem StOwn.mk {lo hi : Nat} {w : World} {a : Option Addr} {l : Chs} {bs : Nat → Nat} (h : StOwn lo hi w a l bs) (K : Int) : StMk lo hi w a l bs K 0 := by
  obtain ⟨b, cs, e, h1, h2, h3, h4, h5, h6⟩ := h
  refine ⟨b, cs, e, h1, h2, h3, fun i x hx => ?_, h6⟩
  obtain ⟨a3, c, g1, g2, g3⟩ := h5 i x hx
  refine ⟨a3, c, g1, fun hne => ?_⟩
  obtain ⟨f1, f2, f3, f4, f5⟩ := g3 hne
  exact ⟨f1, f2, f3, f4, fun hi => by omega, fun _ => f5⟩
theorem StMk.keep {lo hi : Nat} {w w' : World} {a : Option Addr} {l : Chs} {bs : Nat → Nat} {K : Int} {k : Nat} (h : StMk lo hi w a l bs K k) (hk : Agree lo hi w w') : StMk lo hi w' a l bs K k := by
  obtain ⟨b, cs, e, h1, h2, h3, h5, h6⟩ := h
  refine ⟨b, cs, e, h1, h2, (hk b h1 h2).trans h3, fun i x hx => ?_, h6⟩
  obtain ⟨a3, c, g1, g3⟩ := h5 i x hx
  refine ⟨a3, c, g1, fun hne => ?_⟩
  obtain ⟨f1, f2, f3, f4, f5, f6⟩ := g3 hne
  exact ⟨f1, f2, f3, f4, fun hi => (f5 hi).move (hk _ f2 f3), fun hi => (f6 hi).move (hk _ f2 f3)⟩
theorem StMk.skip {lo hi : Nat} {w : World} {a : Option Addr} {l : Chs} {bs : Nat → Nat} {K : Int} {k : Nat} (h : StMk lo hi w a l bs K k) (hlt : k < l.length) (h0 : l[k] = []) : StMk lo hi w a l bs K (k + 1) := by
  obtain ⟨b, cs, e, h1, h2, h3, h5, h6⟩ := h
  refine ⟨b, cs, e, h1, h2, h3, fun i x hx => ?_, h6⟩
  obtain ⟨a3, c, g1, g3⟩ := h5 i x hx
  refine ⟨a3, c, g1, fun hne => ?_⟩
  obtain ⟨f1, f2, f3, f4, f5, f6⟩ := g3 hne
  have hik : i ≠ k := fun e => by subst e; rw [List.getElem?_eq_getElem hlt, h0] at hx; simp only [Option.some.injEq] at hx; exact hne hx.symm
  exact ⟨f1, f2, f3, f4, fun hi => f5 (by omega), fun hi => f6 (by omega)⟩
theorem StMk.step {lo hi : Nat} {w w' : World} {a : Option Addr} {l : Chs} {bs : Nat → Nat} {K : Int} {k : Nat} (h : StMk lo hi w a l bs K k) (hlt : k < l.length) (hne : l[k] ≠ []) (hm : VeMk w' (bs k) (K + 2 * sizeN (l.take k)) l[k].length) (hk : KeptS (bs k) (bs k + 1) w w') (hs : hi ≤ w.heap.size) : StMk lo hi w' a l bs K (k + 1) := by
  obtain ⟨b, cs, e, h1, h2, h3, h5, h6⟩ := h
  have hx0 : l[k]? = some l[k] := List.getElem?_eq_getElem hlt
  obtain ⟨_, _, _, g9⟩ := h5 k l[k] hx0
  have hbk := (g9 hne).2.2.2.1
  refine ⟨b, cs, e, h1, h2, (hk.block b (by omega) (by omega)).trans h3, fun i x hx => ?_, h6⟩
  obtain ⟨a3, c, g1, g3⟩ := h5 i x hx
  refine ⟨a3, c, g1, fun hne2 => ?_⟩
  obtain ⟨f1, f2, f3, f4, f5, f6⟩ := g3 hne2
  by_cases hik : i = k
  · subst hik
    rw [hx0] at hx
    simp only [Option.some.injEq] at hx
    subst hx
    exact ⟨f1, f2, f3, f4, fun _ => hm, fun hi => by omega⟩
  · have hd := h6 i k x l[k] hx hx0 hik hne2 hne
    have hb := hk.block (bs i) (by omega) (by omega)
    exact ⟨f1, f2, f3, f4, fun hi => (f5 (by omega)).move hb, fun hi => (f6 (by omega)).move hb⟩
theorem StMk.cells {lo hi : Nat} {w : World} {a : Option Addr} {l : Chs} {bs : Nat → Nat} {K : Int} {k : Nat} (h : StMk lo hi w a l bs K k) (i : Nat) (hlt : i < l.length) :
    ∃ b a3 c3, a = some ⟨b, 0, none⟩ ∧ w.cell? ⟨b, i, none⟩ = some (.slice a3 l[i].length c3) ∧ (l[i] ≠ [] → a3 = some ⟨bs i, 0, none⟩ ∧ lo ≤ bs i ∧ bs i < hi ∧ (i < k → VeMk w (bs i) (K + 2 * sizeN (l.take i)) l[i].length) ∧ (k ≤ i → VeBlk w (bs i) l[i])) := by
  obtain ⟨b, cs, e, h1, h2, h3, h5, h6⟩ := h
  obtain ⟨a3, c, g1, g3⟩ := h5 i l[i] (List.getElem?_eq_getElem hlt)
  refine ⟨b, a3, c, e, (row_cell h3 i).trans g1, fun hne => ?_⟩
  obtain ⟨f1, f2, f3, f4, f5, f6⟩ := g3 hne
  exact ⟨f1, f2, f3, f5, f6⟩
theorem sizeN_take_le (l : Chs) (k : Nat) : sizeN (l.take k) ≤ sizeN l := by
  have : sizeN l = sizeN (l.take k) + sizeN (l.drop k) := by
    unfold sizeN; rw [← List.sum_append, ← List.map_append, List.take_append_drop]
  omega
end Go.Proofs.Ytbpkjpoicelgcaa.G
