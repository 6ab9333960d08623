/- Stores that a call owns, and the law's own copies of stores. -/
import Derived.Test.YtepdgcbbnoiajaaStRows
namespace Go.Proofs.Ytepdgcbbnoiajaa.G
open Go.ChangeShapes Go.WideShapes Go.ChangeAt Go.RowKit
set_option linter.unusedVariables false

def VeCell (cs : Array Value) (o : Nat) (x : Ve) : Prop := cs[o]? = some (.int .i64 x.ts) ∧ cs[o + 1]? = some (.int .i64 x.v)
/-- A block that holds a chain's versions, from its start. -/
def VeBlk (w : World) (b : Nat) (l : List Ve) : Prop := ∃ cs, w.heap[b]? = some (.cells cs 77 (0, 0)) ∧ l.length * 2 ≤ cs.size ∧ ∀ i x, l[i]? = some x → VeCell cs (i * 2) x
theorem VeBlk.move {w w' : World} {b : Nat} {l : List Ve} (h : VeBlk w b l) (e : w'.heap[b]? = w.heap[b]?) : VeBlk w' b l := by
  obtain ⟨cs, h1, h2, h3⟩ := h
  exact ⟨cs, e.trans h1, h2, h3⟩
theorem VeBlk.row {w : World} {b : Nat} {l : List Ve} {lo hi : Nat} (h : VeBlk w b l) (h1 : lo ≤ b) (h2 : b < hi) : VeRow lo hi w (some ⟨b, 0, none⟩) l := by
  obtain ⟨cs, g1, g2, g3⟩ := h
  refine .inr ⟨b, 0, rfl, h1, h2, fun i x hx => ?_⟩
  rw [row_rd g1, Nat.zero_add]
  exact g3 i x hx
theorem VeBlk.lt {w : World} {b : Nat} {l : List Ve} (h : VeBlk w b l) : b < w.heap.size := by
  obtain ⟨cs, g1, _⟩ := h
  exact (Array.getElem?_eq_some_iff.1 g1).1
def bput (bs : Nat → Nat) (k g : Nat) : Nat → Nat := fun i => if i = k then g else bs i
theorem bput_at (bs : Nat → Nat) (k g : Nat) : bput bs k g k = g := by simp [bput]
theorem bput_ne (bs : Nat → Nat) (k g : Nat) {i : Nat} (h : i ≠ k) : bput bs k g i = bs i := by simp [bput, h]
/-- The first k chains of a store are laid, each in a block of its own behind N. -/
def ChLaid (N : Nat) (w : World) (cs : Array Value) (l : Chs) (k : Nat) (bs : Nat → Nat) : Prop :=
  (∀ i x, i < k → l[i]? = some x → ∃ c, cs[i]? = some (.slice (some ⟨bs i, 0, none⟩) x.length c) ∧ x.length ≤ c ∧ N < bs i ∧ bs i < w.heap.size ∧ VeBlk w (bs i) x) ∧ (∀ i j, i < k → j < k → i ≠ j → bs i ≠ bs j)
theorem ChLaid.keep {N : Nat} {w w' : World} {cs : Array Value} {l : Chs} {k : Nat} {bs : Nat → Nat} (h : ChLaid N w cs l k bs) (hs : w.heap.size ≤ w'.heap.size) (hk : Agree (N + 1) w.heap.size w w') : ChLaid N w' cs l k bs := by
  refine ⟨fun i x hi hx => ?_, h.2⟩
  obtain ⟨c, h1, h2, h3, h4, h5⟩ := h.1 i x hi hx
  exact ⟨c, h1, h2, h3, by omega, h5.move (hk _ (by omega) h4)⟩
theorem ChLaid.put {N : Nat} {w : World} {cs : Array Value} {l : Chs} {k : Nat} {bs : Nat → Nat} {g c : Nat} (h : ChLaid N w cs l k bs) (hk : k < l.length) (hs : l.length ≤ cs.size) (hc : l[k].length ≤ c) (hg1 : N < g) (hg2 : g < w.heap.size) (hv : VeBlk w g l[k]) (hn : ∀ i, i < k → bs i ≠ g) :
    ChLaid N w (cs.setIfInBounds k (.slice (some ⟨g, 0, none⟩) l[k].length c)) l (k + 1) (bput bs k g) := by
  refine ⟨fun i x hi hx => ?_, fun i j hi hj hij => ?_⟩
  · by_cases hik : i = k
    · subst hik
      rw [List.getElem?_eq_getElem hk] at hx
      simp only [Option.some.injEq] at hx
      subst hx
      rw [bput_at]
      exact ⟨c, by simp [Array.getElem?_setIfInBounds]; omega, hc, hg1, hg2, hv⟩
    · obtain ⟨c', h1, h2, h3, h4, h5⟩ := h.1 i x (by omega) hx
      rw [bput_ne _ _ _ hik]
      exact ⟨c', by rw [Array.getElem?_setIfInBounds_ne (by omega)]; exact h1, h2, h3, h4, h5⟩
  · by_cases hik : i = k
    · subst hik; rw [bput_at, bput_ne _ _ _ (by omega)]; exact (hn j (by omega)).symm
    · by_cases hjk : j = k
      · subst hjk; rw [bput_ne _ _ _ hik, bput_at]; exact hn i (by omega)
      · rw [bput_ne _ _ _ hik, bput_ne _ _ _ hjk]; exact h.2 i j (by omega) (by omega) hij
/-- A store's chains that a call owns: all of them lie between two numbers of blocks, each that is not empty in a block of its own. -/
def StOwn (lo hi : Nat) (w : World) (a : Option Addr) (l : Chs) (bs : Nat → Nat) : Prop :=
  ∃ b cs, a = some ⟨b, 0, none⟩ ∧ lo ≤ b ∧ b < hi ∧ w.heap[b]? = some (.cells cs 62 (0, 0)) ∧ l.length ≤ cs.size ∧
    (∀ i x, l[i]? = some x → ∃ a3 c, cs[i]? = some (.slice a3 x.length c) ∧ x.length ≤ c ∧ (x ≠ [] → a3 = some ⟨bs i, 0, none⟩ ∧ lo ≤ bs i ∧ bs i < hi ∧ bs i ≠ b ∧ VeBlk w (bs i) x)) ∧
    (∀ i j x y, l[i]? = some x → l[j]? = some y → i ≠ j → x ≠ [] → y ≠ [] → bs i ≠ bs j)
theorem StOwn.of_laid {N : Nat} {w : World} {cs : Array Value} {l : Chs} {bs : Nat → Nat} (h : ChLaid N w cs l l.length bs) (hh : w.heap[N]? = some (.cells cs 62 (0, 0))) (hs : l.length ≤ cs.size) : StOwn N w.heap.size w (some ⟨N, 0, none⟩) l bs := by
  refine ⟨N, cs, rfl, Nat.le_refl _, (Array.getElem?_eq_some_iff.1 hh).1, hh, hs, fun i x hx => ?_, fun i j x y hx hy hij _ _ => h.2 i j (List.getElem?_eq_some_iff.1 hx).1 (List.getElem?_eq_some_iff.1 hy).1 hij⟩
  obtain ⟨c, h1, h2, h3, h4, h5⟩ := h.1 i x (List.getElem?_eq_some_iff.1 hx).1 hx
  exact ⟨_, c, h1, h2, fun _ => ⟨rfl, by omega, h4, by omega, h5⟩⟩
theorem StOwn.keep {lo hi : Nat} {w w' : World} {a : Option Addr} {l : Chs} {bs : Nat → Nat} (h : StOwn lo hi w a l bs) (hk : Agree lo hi w w') : StOwn lo hi w' a l bs := by
  obtain ⟨b, cs, e, h1, h2, h3, h4, h5, h6⟩ := h
  refine ⟨b, cs, e, h1, h2, (hk b h1 h2).trans h3, h4, fun i x hx => ?_, h6⟩
  obtain ⟨a3, c, g1, g2, g3⟩ := h5 i x hx
  refine ⟨a3, c, g1, g2, fun hne => ?_⟩
  obtain ⟨f1, f2, f3, f4, f5⟩ := g3 hne
  exact ⟨f1, f2, f3, f4, f5.move (hk _ f2 f3)⟩
theorem StOwn.wide {lo hi lo' hi' : Nat} {w : World} {a : Option Addr} {l : Chs} {bs : Nat → Nat} (h : StOwn lo hi w a l bs) (e1 : lo' ≤ lo) (e2 : hi ≤ hi') : StOwn lo' hi' w a l bs := by
  obtain ⟨b, cs, e, h1, h2, h3, h4, h5, h6⟩ := h
  refine ⟨b, cs, e, by omega, by omega, h3, h4, fun i x hx => ?_, h6⟩
  obtain ⟨a3, c, g1, g2, g3⟩ := h5 i x hx
  refine ⟨a3, c, g1, g2, fun hne => ?_⟩
  obtain ⟨f1, f2, f3, f4, f5⟩ := g3 hne
  exact ⟨f1, by omega, by omega, f4, f5⟩
theorem StOwn.row {lo hi : Nat} {w : World} {a : Option Addr} {l : Chs} {bs : Nat → Nat} (h : StOwn lo hi w a l bs) : ChRow lo hi w a l := by
  obtain ⟨b, cs, rfl, h1, h2, h3, h4, h5, h6⟩ := h
  refine .inr ⟨b, 0, rfl, h1, h2, fun i x hx => ?_⟩
  rw [row_rd h3]
  obtain ⟨a3, c, g1, g2, g3⟩ := h5 i x hx
  refine ⟨a3, c, by simpa using g1, g2, ?_⟩
  by_cases hne : x = []
  · exact .inl hne
  · obtain ⟨f1, f2, f3, f4, f5⟩ := g3 hne
    rw [f1]
    exact f5.row f2 f3
theorem put_ve {cs : Array Value} {l : List Ve} {k : Nat} (hs : cs.size = l.length * 2) (hk : k < l.length) (h : ∀ i x, i < k → l[i]? = some x → VeCell cs (i * 2) x) :
    ∀ i x, i < k + 1 → l[i]? = some x → VeCell ((cs.setIfInBounds (k * 2) (.int .i64 l[k].ts)).setIfInBounds (k * 2 + 1) (.int .i64 l[k].v)) (i * 2) x := by
  intro i x hi hx
  by_cases hik : i = k
  · subst hik
    rw [List.getElem?_eq_getElem hk] at hx
    simp only [Option.some.injEq] at hx
    subst hx
    refine ⟨?_, ?_⟩ <;> simp [Array.getElem?_setIfInBounds] <;> omega
  · obtain ⟨c0, c1⟩ := h i x (by omega) hx
    refine ⟨?_, ?_⟩
    · rw [Array.getElem?_setIfInBounds_ne (by omega), Array.getElem?_setIfInBounds_ne (by omega)]; exact c0
    · rw [Array.getElem?_setIfInBounds_ne (by omega), Array.getElem?_setIfInBounds_ne (by omega)]; exact c1

set_option maxRecDepth 100000 in
theorem info_Ve : ∃ i, Try.prog.info? 77 = some i ∧ i.zero = some (.agg #[.int .i64 0, .int .i64 0]) ∧ i.size = 2 ∧ i.bytes = 16 := by
  refine ⟨_, rfl, ?_, ?_, ?_⟩ <;> kernel_rfl
set_option maxRecDepth 100000 in
theorem info_Ch : ∃ i, Try.prog.info? 62 = some i ∧ i.zero = some (.slice none 0 0) ∧ i.size = 1 ∧ i.bytes = 24 := by
  refine ⟨_, rfl, ?_, ?_, ?_⟩ <;> kernel_rfl
end Go.Proofs.Ytepdgcbbnoiajaa.G
