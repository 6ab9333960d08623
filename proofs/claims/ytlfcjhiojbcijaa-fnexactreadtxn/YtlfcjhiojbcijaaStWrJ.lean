/- A chain copied, one version more put behind it, in whatever order: what stays. -/
import Derived.Test.YtlfcjhiojbcijaaStWrSpec
namespace Go.Proofs.Ytlfcjhiojbcijaa.G
open Go.ChangeShapes Go.WideShapes Go.ChangeAt Go.RowKit
set_option linter.unusedVariables false

/-- Where the region stands: 7 makes the empty chain, 9 copies, 18 makes the version's row, 19 appends. -/
structure WrJ (N0 : Nat) (W0 : World) (x : List Ve) (p : Ve) (L : Array Bool) (u : Nat → Value) (W : World) : Prop where
  below : Below N0 W0 W
  none_ : L.getD 7 false = true → L.getD 9 false = false → ∃ g, u 59 = .slice (some ⟨g, 0, none⟩) 0 0 ∧ N0 ≤ g ∧ W.heap[g]? = some (.cells #[] 92 (0, 0))
  copy : L.getD 9 false = true → L.getD 19 false = false → W.ownsRow N0 92 2 (u 61) x.length (veCells x)
  one : L.getD 18 false = true → L.getD 19 false = false → ∃ h, u 70 = .slice (some ⟨h, 0, none⟩) 1 1 ∧ W.heap[h]? = some (.cells #[.int .i64 p.ts, .int .i64 p.v] 92 (0, 0))
  all : L.getD 19 false = true → KidX none N0 W (u 71) (x ++ [p])
theorem WrJ.start {N0 : Nat} {W0 : World} {x : List Ve} {p : Ve} {n : Nat} {u : Nat → Value} (h : N0 = W0.heap.size) : WrJ N0 W0 x p (Array.replicate n false) u W0.drew := by
  have no : ∀ j, (Array.replicate n false).getD j false = true → False := fun j hj => by
    by_cases hx : j < n
    · simp [hx] at hj
    · simp [hx] at hj
  exact ⟨(Below.refl _ _).drew, fun h => (no _ h).elim, fun h => (no _ h).elim, fun h => (no _ h).elim, fun h => (no _ h).elim⟩
theorem WrJ.step {N0 : Nat} {W0 : World} {x : List Ve} {p : Ve} {L : Array Bool} {u : Nat → Value} {W W' : World} (h : WrJ N0 W0 x p L u W) (hN : N0 ≤ W.heap.size) (hb : Below W.heap.size W W') {i d : Nat} {val : Value} (hi : i ≠ 7 ∧ i ≠ 9 ∧ i ≠ 18 ∧ i ≠ 19) (hd : d ≠ 59 ∧ d ≠ 61 ∧ d ≠ 70 ∧ d ≠ 71) :
    WrJ N0 W0 x p (L.setIfInBounds i true) (upd u d val) W' := by
  obtain ⟨i1, i2, i3, i4⟩ := hi
  obtain ⟨d1, d2, d3, d4⟩ := hd
  refine ⟨h.below.trans (hb.mono hN), fun h1 h2 => ?_, fun h1 h2 => ?_, fun h1 h2 => ?_, fun h1 => ?_⟩
  · rw [getD_set_ne false i1] at h1; rw [getD_set_ne false i2] at h2
    obtain ⟨g, g1, g2, g3⟩ := h.none_ h1 h2
    rw [upd_ne _ _ (Ne.symm d1)]
    exact ⟨g, g1, g2, (hb.block g (Array.getElem?_eq_some_iff.1 g3).1).trans g3⟩
  · rw [getD_set_ne false i2] at h1; rw [getD_set_ne false i4] at h2
    rw [upd_ne _ _ (Ne.symm d2)]
    exact own_below (h.copy h1 h2) hb
  · rw [getD_set_ne false i3] at h1; rw [getD_set_ne false i4] at h2
    obtain ⟨g, g1, g3⟩ := h.one h1 h2
    rw [upd_ne _ _ (Ne.symm d3)]
    exact ⟨g, g1, (hb.block g (Array.getElem?_eq_some_iff.1 g3).1).trans g3⟩
  · rw [getD_set_ne false i4] at h1
    rw [upd_ne _ _ (Ne.symm d4)]
    exact (h.all h1).keep hb.size (fun k a1 a2 a3 => ⟨hb.block k a2, a3⟩)
/-- The empty chain. -/
theorem WrJ.seven {N0 : Nat} {W0 : World} {x : List Ve} {p : Ve} {L : Array Bool} {u : Nat → Value} {W W' : World} (h : WrJ N0 W0 x p L u W) (hN : N0 ≤ W.heap.size) (hb : Below W.heap.size W W') {g : Nat} (hg : N0 ≤ g) (hh : W'.heap[g]? = some (.cells #[] 92 (0, 0))) :
    WrJ N0 W0 x p (L.setIfInBounds 7 true) (upd u 59 (.slice (some ⟨g, 0, none⟩) 0 0)) W' := by
  refine ⟨h.below.trans (hb.mono hN), fun h1 h2 => ?_, fun h1 h2 => ?_, fun h1 h2 => ?_, fun h1 => ?_⟩
  · rw [upd_at]; exact ⟨g, rfl, hg, hh⟩
  · rw [getD_set_ne false (by omega)] at h1 h2
    rw [upd_ne _ _ (by omega)]
    exact own_below (h.copy h1 h2) hb
  · rw [getD_set_ne false (by omega)] at h1 h2
    obtain ⟨g, g1, g3⟩ := h.one h1 h2
    rw [upd_ne _ _ (by omega)]
    exact ⟨g, g1, (hb.block g (Array.getElem?_eq_some_iff.1 g3).1).trans g3⟩
  · rw [getD_set_ne false (by omega)] at h1
    rw [upd_ne _ _ (by omega)]
    exact (h.all h1).keep hb.size (fun k a1 a2 a3 => ⟨hb.block k a2, a3⟩)
/-- The copy. -/
theorem WrJ.nine {N0 : Nat} {W0 : World} {x : List Ve} {p : Ve} {L : Array Bool} {u : Nat → Value} {W W' : World} (h : WrJ N0 W0 x p L u W) (hN : N0 ≤ W.heap.size) (hb : Below W.heap.size W W') {v : Value} (hs : 9 < L.size) (hh : W'.ownsRow N0 92 2 v x.length (veCells x)) :
    WrJ N0 W0 x p (L.setIfInBounds 9 true) (upd u 61 v) W' := by
  refine ⟨h.below.trans (hb.mono hN), fun h1 h2 => ?_, fun h1 h2 => ?_, fun h1 h2 => ?_, fun h1 => ?_⟩
  · simp [hs] at h2
  · rw [upd_at]; exact hh
  · rw [getD_set_ne false (by omega)] at h1 h2
    obtain ⟨g, g1, g3⟩ := h.one h1 h2
    rw [upd_ne _ _ (by omega)]
    exact ⟨g, g1, (hb.block g (Array.getElem?_eq_some_iff.1 g3).1).trans g3⟩
  · rw [getD_set_ne false (by omega)] at h1
    rw [upd_ne _ _ (by omega)]
    exact (h.all h1).keep hb.size (fun k a1 a2 a3 => ⟨hb.block k a2, a3⟩)
/-- The version's row. -/
theorem WrJ.ten8 {N0 : Nat} {W0 : World} {x : List Ve} {p : Ve} {L : Array Bool} {u : Nat → Value} {W W' : World} (h : WrJ N0 W0 x p L u W) (hN : N0 ≤ W.heap.size) (hb : Below W.heap.size W W') {g : Nat} (hh : W'.heap[g]? = some (.cells #[.int .i64 p.ts, .int .i64 p.v] 92 (0, 0))) :
    WrJ N0 W0 x p (L.setIfInBounds 18 true) (upd u 70 (.slice (some ⟨g, 0, none⟩) 1 1)) W' := by
  refine ⟨h.below.trans (hb.mono hN), fun h1 h2 => ?_, fun h1 h2 => ?_, fun h1 h2 => ?_, fun h1 => ?_⟩
  · rw [getD_set_ne false (by omega)] at h1 h2
    obtain ⟨g, g1, g2, g3⟩ := h.none_ h1 h2
    rw [upd_ne _ _ (by omega)]
    exact ⟨g, g1, g2, (hb.block g (Array.getElem?_eq_some_iff.1 g3).1).trans g3⟩
  · rw [getD_set_ne false (by omega)] at h1 h2
    rw [upd_ne _ _ (by omega)]
    exact own_below (h.copy h1 h2) hb
  · rw [upd_at]; exact ⟨g, rfl, hh⟩
  · rw [getD_set_ne false (by omega)] at h1
    rw [upd_ne _ _ (by omega)]
    exact (h.all h1).keep hb.size (fun k a1 a2 a3 => ⟨hb.block k a2, a3⟩)
/-- The append. -/
theorem WrJ.ten9 {N0 : Nat} {W0 : World} {x : List Ve} {p : Ve} {L : Array Bool} {u : Nat → Value} {W W' : World} (h : WrJ N0 W0 x p L u W) (hN : N0 ≤ W.heap.size) (h9 : L.getD 9 false = true) (hs : 19 < L.size) {v : Value} (hv : ∀ g, v.ownBlock = some g → N0 ≤ g) (hg : W.grownBy W' v.ownBlock) {y : Value} (hk : KidX none N0 W' y (x ++ [p])) :
    WrJ N0 W0 x p (L.setIfInBounds 19 true) (upd u 71 y) W' := by
  refine ⟨h.below.grown hg hN (fun g e => hv g e), fun h1 h2 => ?_, fun h1 h2 => ?_, fun h1 h2 => ?_, fun h1 => ?_⟩
  · rw [getD_set_ne false (by omega), h9] at h2; cases h2
  · simp [hs] at h2
  · simp [hs] at h2
  · rw [upd_at]; exact hk
theorem OwnK.row_ {lo g n cap : Nat} {w : World} {l : Chs} (h : OwnK lo w (.slice (some ⟨g, 0, none⟩) n cap) l) : n = l.length ∧ lo ≤ g ∧ l.length ≤ cap ∧ cap ≤ maxLen ∧ ∃ cur, w.heap[g]? = some (.cells cur 78 (0, 0)) ∧ cur.size = cap ∧ ∀ (i : Nat) (x : List Ve), l[i]? = some x → ∃ u, cur[i]? = some u ∧ KidX (some g) lo w u x := by
  obtain ⟨vs, ho, hk⟩ := h
  rcases ho.2 with ⟨e, _⟩ | ⟨g', cap', cur, e, h1, h2, h3, h4, h5, h6⟩
  · cases e
  · simp only [Value.slice.injEq, Option.some.injEq, Addr.mk.injEq, and_true] at e
    obtain ⟨rfl, e2, rfl⟩ := e
    refine ⟨e2, h1, h3, h4, cur, h2, by omega, fun i x hx => ?_⟩
    obtain ⟨u, g1, g2⟩ := hk i x hx
    have hi := (List.getElem?_eq_some_iff.1 hx).1
    rw [← h6, List.getElem?_take, if_pos (by omega)] at g1
    exact ⟨u, by simpa using g1, g2⟩
theorem OwnK.move {lo : Nat} {w w' : World} {v : Value} {l : Chs} (h : OwnK lo w v l) (hs : w.heap.size ≤ w'.heap.size) (hb : ∀ k, lo ≤ k → w'.heap[k]? = w.heap[k]?) : OwnK lo w' v l := by
  obtain ⟨vs, ho, hk⟩ := h
  refine ⟨vs, own_set ho (fun g hg => hb g ?_), hk.keep hs (fun k a1 a2 a3 => ⟨hb k a1, a3⟩)⟩
  rcases ho.2 with ⟨e, _⟩ | ⟨g', cap, cur, e, h1, _⟩
  · subst e; cases hg
  · subst e
    simp only [Value.ownBlock, Option.some.injEq] at hg
    omega
theorem KidX.veRow {row : Option Nat} {lo : Nat} {w : World} {a : Option Addr} {n c : Nat} {x : List Ve} (h : KidX row lo w (.slice a n c) x) : n = x.length ∧ x.length ≤ c ∧ VeRow 0 w.heap.size w a x := by
  obtain ⟨a', c', e, h2, h3⟩ := h
  simp only [Value.slice.injEq] at e
  obtain ⟨rfl, rfl, rfl⟩ := e
  refine ⟨rfl, h2, ?_⟩
  rcases h3 with h3 | ⟨b, g1, g2, g3, g4, g5⟩
  · exact .inl h3
  · rw [g1]; exact g5.row (Nat.zero_le _) g3
theorem VeRow.take {lo hi : Nat} {w : World} {a : Option Addr} {l : List Ve} (h : VeRow lo hi w a l) (n : Nat) : VeRow lo hi w a (l.take n) := by
  rcases h with rfl | ⟨b, o, rfl, h1, h2, h3⟩
  · exact .inl (by simp)
  · refine .inr ⟨b, o, rfl, h1, h2, fun i x hx => h3 i x ?_⟩
    rw [List.getElem?_take] at hx
    by_cases hi : i < n
    · rwa [if_pos hi] at hx
    · rw [if_neg hi] at hx; cases hx
theorem own_base {w : World} {base size n : Nat} {e : TypeId} {v : Value} {xs : List Value} (h : w.ownsRow base e size v n xs) (g : Nat) (hg : v.ownBlock = some g) : base ≤ g := by
  rcases h.2 with ⟨e, _⟩ | ⟨g', cap, cur, e, h1, _⟩
  · subst e; cases hg
  · subst e
    simp only [Value.ownBlock, Option.some.injEq] at hg
    omega
/-- What each operation of the writing tells. -/
def WrPv (N g cap n : Nat) (ps : Value) (k : Nat) (pb po q : Nat) (sv : Value) (t v : Int) : Nat → Value → World → Prop
  | 0, y, _ => y = .pointer (some ⟨N, 0, none⟩)
  | 1, y, _ => y = .slice (some ⟨g, 0, none⟩) n cap
  | 2, y, _ => y = ps
  | 3, y, _ => y = .int .i64 k
  | 4, y, _ => y = .pointer (some ⟨pb, po + k * 2, none⟩)
  | 5, y, _ => y = .pointer (some ⟨pb, po + k * 2, none⟩)
  | 6, y, _ => y = .int .i64 q
  | 7, _, _ => True
  | 8, y, _ => y = sv
  | 9, _, _ => True
  | 10, y, _ => y = .pointer (some ⟨N, 1, none⟩)
  | 11, y, _ => y = .int .i64 t
  | 12, y, _ => y = ps
  | 13, y, _ => y = .int .i64 k
  | 14, y, _ => y = .pointer (some ⟨pb, po + k * 2, none⟩)
  | 15, y, _ => y = .pointer (some ⟨pb, po + k * 2 + 1, none⟩)
  | 16, y, _ => y = .int .i64 v
  | 17, y, _ => y = .agg #[.int .i64 t, .int .i64 v]
  | 18, _, _ => True
  | 19, _, _ => True
  | _, y, _ => y = .pointer (some ⟨g, q, none⟩)
theorem WrPv.up {N g cap n : Nat} {ps : Value} {k : Nat} {pb po q : Nat} {sv : Value} {t v : Int} {W W' : World} {i : Nat} {y : Value} (h : WrPv N g cap n ps k pb po q sv t v i y W) : WrPv N g cap n ps k pb po q sv t v i y W' := by
  unfold WrPv at h ⊢
  split at h <;> exact h
end Go.Proofs.Ytlfcjhiojbcijaa.G
