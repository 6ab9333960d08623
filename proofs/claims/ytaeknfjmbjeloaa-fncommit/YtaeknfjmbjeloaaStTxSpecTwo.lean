/- The specification's TxnOK and Conflicts, whole. -/
import Derived.Test.YtaeknfjmbjeloaaStPutsOK
import Derived.Test.YtaeknfjmbjeloaaStOwnSpec
import Derived.Deep.CutRange
import Derived.Deep.CutBlock
import Derived.Test.YtaeknfjmbjeloaaGRegion
import Derived.Test.YtaeknfjmbjeloaaStTo
namespace Go.Proofs.Ytaeknfjmbjeloaa.G
open Go.ChangeShapes Go.WideShapes Go.ChangeAt Go.RowKit
set_option linter.unusedVariables false

theorem OwnK.cells {lo : Nat} {w : World} {v : Value} {l : Chs} (h : OwnK lo w v l) (hl : 0 < l.length) : ∃ g cap cur, v = .slice (some ⟨g, 0, none⟩) l.length cap ∧ lo ≤ g ∧ w.heap[g]? = some (.cells cur 58 (0, 0)) ∧ l.length ≤ cur.size ∧ ∀ (i : Nat) (x : List Ve), l[i]? = some x → ∃ u, cur[i]? = some u ∧ KidX (some g) lo w u x := by
  obtain ⟨vs, ho, hk⟩ := h
  rcases ho.2 with ⟨_, h0⟩ | ⟨g, cap, cur, rfl, h1, h2, h3, h4, h5, h6⟩
  · omega
  · refine ⟨g, cap, cur, rfl, h1, h2, by omega, fun i x hx => ?_⟩
    obtain ⟨u, g1, g2⟩ := hk i x hx
    have hi := (List.getElem?_eq_some_iff.1 hx).1
    rw [← h6, List.getElem?_take, if_pos (by omega)] at g1
    exact ⟨u, by simpa using g1, g2⟩
theorem OwnK.below {lo : Nat} {w w' : World} {v : Value} {l : Chs} (h : OwnK lo w v l) (hb : Below w.heap.size w w') : OwnK lo w' v l := by
  obtain ⟨vs, ho, hk⟩ := h
  exact ⟨vs, own_below ho hb, hk.keep hb.size (fun k a1 a2 a3 => ⟨hb.block k a2, a3⟩)⟩
/-- One chain put in another's place, in the row itself. -/
theorem OwnK.put {lo N0 : Nat} {w W : World} {g cap : Nat} {cur : Array Value} {l : Chs} {k : Nat} {y : List Ve} {u : Value} (hw : w.heap[g]? = some (.cells cur 58 (0, 0))) (hcap : l.length ≤ cap) (hcm : cap ≤ maxLen) (hcs : cur.size = cap)
    (hk : ∀ (i : Nat) (x : List Ve), l[i]? = some x → ∃ u, cur[i]? = some u ∧ KidX (some g) lo w u x) (hg : lo ≤ g) (hgs : g < N0) (hN : N0 = w.heap.size) (hb : Below N0 w W) (hlt : k < l.length) (hu : KidX none N0 W u y) :
    OwnK lo (W.setCell ⟨g, k, none⟩ u) (.slice (some ⟨g, 0, none⟩) l.length cap) (l.set k y) := by
  have hW : W.heap[g]? = some (.cells cur 58 (0, 0)) := (hb.block g hgs).trans hw
  have hset := row_set hW k u
  have hzb := hb.size
  refine ⟨((cur.setIfInBounds k u).toList.take l.length), ⟨by simp; omega, .inr ⟨g, cap, _, by simp, hg, hset, by simpa using hcap, hcm, by simp; omega, by simp⟩⟩, fun i x hx => ?_⟩
  have hi : i < l.length := by have := (List.getElem?_eq_some_iff.1 hx).1; simpa using this
  by_cases hik : i = k
  · subst hik
    rw [List.getElem?_set_self hi] at hx
    simp only [Option.some.injEq] at hx
    subst hx
    have hc : i < cur.size := by omega
    refine ⟨u, by simp [hi, hc], ?_⟩
    obtain ⟨a, c, h1, h2, h3⟩ := hu
    refine ⟨a, c, h1, h2, ?_⟩
    rcases h3 with h3 | ⟨b, g1, g2, g3, g4, g5⟩
    · exact .inl h3
    · exact .inr ⟨b, g1, by omega, by simpa using g3, by simp only [Value.ownBlock, ne_eq, Option.some.injEq]; omega, g5.move (heap_set _ _ _ _ _ (by omega))⟩
  · rw [List.getElem?_set_ne (Ne.symm hik)] at hx
    obtain ⟨v, g1, g2⟩ := hk i x hx
    refine ⟨v, by simp [hi, Ne.symm hik]; simpa using g1, ?_⟩
    exact g2.keep (by simp; omega) (fun b a1 a2 a3 => ⟨by rw [heap_set _ _ _ _ _ (fun e => a3 (by rw [e]))]; exact hb.block b (by omega), a3⟩)
/-- A chain copied by append onto nothing, as a row that may grow. -/
theorem app_copy (l : List Ve) (a : Option Addr) (g c N0 : Nat) (W : World) (hr : VeRow 0 W.heap.size W a l) (hl : l.length ≤ 1048576) (hg : N0 ≤ g) (hh : W.heap[g]? = some (.cells #[] 61 (0, 0))) :
    ∃ v W', (Builtin.append_ #[58, 58] 58 #[.slice (some ⟨g, 0, none⟩) 0 0, .slice a l.length c]).run Try.prog W = .ok v W' ∧ W'.ownsRow N0 61 2 v l.length (veCells l) ∧ Below W.heap.size W W' := by
  obtain ⟨i, hi, hz, hsz, hby⟩ := info_Ve
  have ht := Try.underlying58
  have hgl : g < W.heap.size := (Array.getElem?_eq_some_iff.1 hh).1
  by_cases h0 : l = []
  · subst h0
    have hsrc : Src Try.prog i.size 58 (.slice a 0 c) 0 [] W := by
      cases a
      · exact Src.ofNil W ht c
      · exact Src.ofSlice W ht _ 0 c [] (by simp) (by simp) (by simp)
    exact ⟨_, W, run_append_nothing (P := Try.prog) W _ _ _ _ i ht hi _ 0 0 (Nat.le_refl _) _ hsrc, ⟨rfl, .inr ⟨g, 0, #[], rfl, hg, hh, Nat.le_refl _, Nat.zero_le _, rfl, rfl⟩⟩, Below.refl _ _⟩
  · rcases hr with h | ⟨b, o, rfl, _, hb, hx⟩
    · exact absurd h h0
    have hlen := veCells_len l
    have hpos : 0 < l.length := List.length_pos_iff.2 h0
    have hsrc : Src Try.prog i.size 58 (.slice (some ⟨b, o, none⟩) l.length c) l.length (veCells l) W := Src.ofSlice W ht _ _ c _ (by rw [hsz]; exact hlen) (veCells_src hx) (veCells_one l)
    have hold : (Builtin.firstCells i.size 0 (.slice (some ⟨g, 0, none⟩) 0 0)).run Try.prog W.drew = .ok ([] : List Value).toArray W.drew := run_firstCells_some W.drew i.size 0 _ 0 0 [] (by simp) (by simp)
    have hrun := run_append_grow_src (P := Try.prog) W 58 58 58 61 i _ ht hi hz (some ⟨g, 0, none⟩) 0 0 [] hold _ l.length (veCells l) hsrc (by omega) (by omega) (growslice_fits (by omega) (by rw [hby]; omega))
    simp only [Nat.zero_add, List.nil_append] at hrun
    have hge := grownCap_ge W l.length 0 61
    refine ⟨_, _, hrun, ⟨hlen, .inr ⟨W.heap.size, _, _, rfl, by omega, heap_alloc_new W.drew _, hge, grownCap_le_maxLen _ _ _ _ (by unfold maxLen; omega), ?_, ?_⟩⟩, ((Below.refl _ _).drew).alloc (Nat.le_refl _) _⟩
    · simp [hlen, Builtin.zeroCells, Value.cells]; omega
    · simp [hlen]
theorem app_ver (n : Nat) (xs : List Ve) (p : Ve) (v : Value) (base h : Nat) (W : World) (ho : W.ownsRow base 61 2 v xs.length (veCells xs)) (hu : W.heap[h]? = some (.cells #[.int .i64 p.ts, .int .i64 p.v] 61 (0, 0))) (hk : xs.length ≤ 1048576) (hb : base ≤ W.heap.size) :
    ∃ g cap W', (Builtin.append_ #[58, 58] 58 #[v, .slice (some ⟨h, 0, none⟩) 1 1]).run Try.prog W = .ok (.slice (some ⟨g, 0, none⟩) (xs.length + 1) cap) W' ∧ W'.ownsRow base 61 2 (.slice (some ⟨g, 0, none⟩) (xs.length + 1) cap) (xs.length + 1) (veCells (xs ++ [p])) ∧ W.grownBy W' v.ownBlock ∧ g < W'.heap.size := by
  obtain ⟨i, hi, hz, hsz, hby⟩ := info_Ve
  have e : veCells (xs ++ [p]) = veCells xs ++ [.int .i64 p.ts, .int .i64 p.v] := by simp [veCells]
  rw [e]
  obtain ⟨g, cap, W', h1, h2, h3, h4, h5⟩ := run_append_lies (P := Try.prog) W 58 58 base 61 i _ 2 16 Try.underlying58 hi hz hsz hby rfl (by decide) v xs.length (veCells xs) ho ⟨h, 0, none⟩ 1 1 [.int .i64 p.ts, .int .i64 p.v] rfl (fun j x hx => by
    rw [add_plain]
    match j, hx with
    | 0, hx => simp only [List.getElem?_cons_zero, Option.some.injEq] at hx; subst hx; exact row_cell hu 0
    | 1, hx => simp only [List.getElem?_cons_succ, List.getElem?_cons_zero, Option.some.injEq] at hx; subst hx; exact row_cell hu 1) (fun x hx => by
      simp only [List.mem_cons, List.not_mem_nil, or_false] at hx
      rcases hx with rfl | rfl <;> rfl) (by omega) (by unfold maxLen; omega) (by omega) hb W.heap.size rfl
  exact ⟨g, cap, W', h1, h2, h3, h5⟩
theorem kid_of {base : Nat} {w : World} {v : Value} {x : List Ve} (h : w.ownsRow base 61 2 v x.length (veCells x)) (hne : 0 < x.length) : KidX none base w v x := by
  rcases h.2 with ⟨_, h0⟩ | ⟨g, cap, cur, rfl, h1, h2, h3, h4, h5, h6⟩
  · omega
  · refine ⟨_, cap, rfl, h3, .inr ⟨g, rfl, h1, (Array.getElem?_eq_some_iff.1 h2).1, by simp, cur, h2, by omega, fun i y hy => ?_⟩⟩
    obtain ⟨g0, g1⟩ := veCells_at x i y hy
    have hi := (List.getElem?_eq_some_iff.1 hy).1
    rw [← h6, List.getElem?_take, if_pos (by omega)] at g0 g1
    exact ⟨by simpa using g0, by simpa using g1⟩
end Go.Proofs.Ytaeknfjmbjeloaa.G
namespace Go.Proofs.Ytaeknfjmbjeloaa.G
open Go.ChangeShapes Go.WideShapes Go.ChangeAt Go.RowKit
set_option linter.unusedVariables false

theorem nuV_len (x : List Int) : (nuV x).length = x.length := by simp [nuV]
theorem nuV_at {x : List Int} {i : Nat} {z : Int} (h : x[i]? = some z) : (nuV x)[i]? = some (.int .i64 z) := by simp [nuV, h]
theorem nuV_one (x : List Int) : ∀ u ∈ nuV x, u.oneCell' = true := by
  intro u hu
  simp only [nuV, List.mem_map] at hu
  obtain ⟨z, _, rfl⟩ := hu
  rfl
theorem nuV_src {w : World} {b o : Nat} {x : List Int} (h : ∀ i z, x[i]? = some z → NuAt (rdOf w b) (o + i * 1) z) : ∀ j u, (nuV x)[j]? = some u → w.cell? ((⟨b, o, none⟩ : Addr).add j) = some u := by
  intro j u hu
  have hj : j < x.length := by have := (List.getElem?_eq_some_iff.1 hu).1; rwa [nuV_len] at this
  have h1 := h j x[j] (List.getElem?_eq_getElem hj)
  rw [nuV_at (List.getElem?_eq_getElem hj)] at hu
  simp only [Option.some.injEq] at hu
  subst hu
  rw [add_plain]
  have : rdOf w b (o + j * 1) = some (.int .i64 x[j]) := h1
  rw [Nat.mul_one] at this
  exact this
/-- Numbers copied by append onto nothing. -/
theorem app_copy_nu (x : List Int) (a : Option Addr) (g c N0 : Nat) (W : World) (hr : NuRow 0 W.heap.size W a x) (hl : x.length ≤ 1048576) (hg : N0 ≤ g) (hh : W.heap[g]? = some (.cells #[] 3 (0, 0))) :
    ∃ v W', (Builtin.append_ #[27, 27] 27 #[.slice (some ⟨g, 0, none⟩) 0 0, .slice a x.length c]).run Try.prog W = .ok v W' ∧ W'.ownsRow N0 3 1 v x.length (nuV x) ∧ Below W.heap.size W W' := by
  obtain ⟨i, hi, hz, hsz, hby⟩ := info_int
  have ht := Try.underlying27
  have hgl : g < W.heap.size := (Array.getElem?_eq_some_iff.1 hh).1
  by_cases h0 : x = []
  · subst h0
    have hsrc : Src Try.prog i.size 27 (.slice a 0 c) 0 [] W := by
      cases a
      · exact Src.ofNil W ht c
      · exact Src.ofSlice W ht _ 0 c [] (by simp) (by simp) (by simp)
    exact ⟨_, W, run_append_nothing (P := Try.prog) W _ _ _ _ i ht hi _ 0 0 (Nat.le_refl _) _ hsrc, ⟨rfl, .inr ⟨g, 0, #[], rfl, hg, hh, Nat.le_refl _, Nat.zero_le _, rfl, rfl⟩⟩, Below.refl _ _⟩
  · rcases hr with h | ⟨b, o, rfl, _, hb, hx⟩
    · exact absurd h h0
    have hlen := nuV_len x
    have hpos : 0 < x.length := List.length_pos_iff.2 h0
    have hsrc : Src Try.prog i.size 27 (.slice (some ⟨b, o, none⟩) x.length c) x.length (nuV x) W := Src.ofSlice W ht _ _ c _ (by rw [hsz, hlen, Nat.mul_one]) (nuV_src hx) (nuV_one x)
    have hold : (Builtin.firstCells i.size 0 (.slice (some ⟨g, 0, none⟩) 0 0)).run Try.prog W.drew = .ok ([] : List Value).toArray W.drew := run_firstCells_some W.drew i.size 0 _ 0 0 [] (by simp) (by simp)
    have hrun := run_append_grow_src (P := Try.prog) W 27 27 27 3 i _ ht hi hz (some ⟨g, 0, none⟩) 0 0 [] hold _ x.length (nuV x) hsrc (by omega) (by omega) (growslice_fits (by omega) (by rw [hby]; omega))
    simp only [Nat.zero_add, List.nil_append] at hrun
    have hge := grownCap_ge W x.length 0 3
    refine ⟨_, _, hrun, ⟨by rw [hlen, Nat.mul_one], .inr ⟨W.heap.size, _, _, rfl, by omega, heap_alloc_new W.drew _, hge, grownCap_le_maxLen _ _ _ _ (by unfold maxLen; omega), ?_, ?_⟩⟩, ((Below.refl _ _).drew).alloc (Nat.le_refl _) _⟩
    · simp [hlen, Builtin.zeroCells, Value.cells]; omega
    · simp [hlen]
/-- Writes copied by append onto nothing. -/
theorem app_copy_pu (l : List Ve) (a : Option Addr) (g c N0 : Nat) (W : World) (hr : VeRow 0 W.heap.size W a l) (hl : l.length ≤ 1048576) (hg : N0 ≤ g) (hh : W.heap[g]? = some (.cells #[] 43 (0, 0))) :
    ∃ v W', (Builtin.append_ #[28, 28] 28 #[.slice (some ⟨g, 0, none⟩) 0 0, .slice a l.length c]).run Try.prog W = .ok v W' ∧ W'.ownsRow N0 43 2 v l.length (veCells l) ∧ Below W.heap.size W W' := by
  obtain ⟨i, hi, hz, hsz, hby⟩ := info_PuX
  have ht := Try.underlying28
  have hgl : g < W.heap.size := (Array.getElem?_eq_some_iff.1 hh).1
  by_cases h0 : l = []
  · subst h0
    have hsrc : Src Try.prog i.size 28 (.slice a 0 c) 0 [] W := by
      cases a
      · exact Src.ofNil W ht c
      · exact Src.ofSlice W ht _ 0 c [] (by simp) (by simp) (by simp)
    exact ⟨_, W, run_append_nothing (P := Try.prog) W _ _ _ _ i ht hi _ 0 0 (Nat.le_refl _) _ hsrc, ⟨rfl, .inr ⟨g, 0, #[], rfl, hg, hh, Nat.le_refl _, Nat.zero_le _, rfl, rfl⟩⟩, Below.refl _ _⟩
  · rcases hr with h | ⟨b, o, rfl, _, hb, hx⟩
    · exact absurd h h0
    have hlen := veCells_len l
    have hpos : 0 < l.length := List.length_pos_iff.2 h0
    have hsrc : Src Try.prog i.size 28 (.slice (some ⟨b, o, none⟩) l.length c) l.length (veCells l) W := Src.ofSlice W ht _ _ c _ (by rw [hsz]; exact hlen) (veCells_src hx) (veCells_one l)
    have hold : (Builtin.firstCells i.size 0 (.slice (some ⟨g, 0, none⟩) 0 0)).run Try.prog W.drew = .ok ([] : List Value).toArray W.drew := run_firstCells_some W.drew i.size 0 _ 0 0 [] (by simp) (by simp)
    have hrun := run_append_grow_src (P := Try.prog) W 28 28 28 43 i _ ht hi hz (some ⟨g, 0, none⟩) 0 0 [] hold _ l.length (veCells l) hsrc (by omega) (by omega) (growslice_fits (by omega) (by rw [hby]; omega))
    simp only [Nat.zero_add, List.nil_append] at hrun
    have hge := grownCap_ge W l.length 0 43
    refine ⟨_, _, hrun, ⟨hlen, .inr ⟨W.heap.size, _, _, rfl, by omega, heap_alloc_new W.drew _, hge, grownCap_le_maxLen _ _ _ _ (by unfold maxLen; omega), ?_, ?_⟩⟩, ((Below.refl _ _).drew).alloc (Nat.le_refl _) _⟩
    · simp [hlen, Builtin.zeroCells, Value.cells]; omega
    · simp [hlen]
theorem PuOwn.of {base : Nat} {w : World} {v : Value} {x : List Ve} (h : w.ownsRow base 43 2 v x.length (veCells x)) : ∃ a c, v = .slice a x.length c ∧ PuOwn base w.heap.size w a x := by
  rcases h.2 with ⟨rfl, h0⟩ | ⟨g, cap, cur, rfl, h1, h2, h3, h4, h5, h6⟩
  · have : x = [] := List.eq_nil_of_length_eq_zero h0
    subst this
    exact ⟨none, 0, rfl, .inl rfl⟩
  · refine ⟨_, cap, rfl, .inr ⟨g, rfl, h1, (Array.getElem?_eq_some_iff.1 h2).1, cur, h2, by omega, fun i y hy => ?_⟩⟩
    obtain ⟨g0, g1⟩ := veCells_at x i y hy
    have hi := (List.getElem?_eq_some_iff.1 hy).1
    rw [← h6, List.getElem?_take, if_pos (by omega)] at g0 g1
    exact ⟨by simpa using g0, by simpa using g1⟩
/-- A transaction that a call owns and may append to. -/
def TxO (lo : Nat) (w : World) (rv wv : Value) (rs : List Int) (ws : List Ve) : Prop := w.ownsRow lo 3 1 rv rs.length (nuV rs) ∧ w.ownsRow lo 43 2 wv ws.length (veCells ws)
theorem TxO.own {lo : Nat} {w : World} {rv wv : Value} {rs : List Int} {ws : List Ve} (h : TxO lo w rv wv rs ws) : ∃ ra rc wa wc, rv = .slice ra rs.length rc ∧ wv = .slice wa ws.length wc ∧ TxOwn lo w.heap.size w ra wa rs ws := by
  obtain ⟨ra, rc, e1, h1⟩ := NuOwn.of h.1
  obtain ⟨wa, wc, e2, h2⟩ := PuOwn.of h.2
  exact ⟨ra, rc, wa, wc, e1, e2, h1, h2⟩
theorem own_lt3 {w : World} {base size n : Nat} {e : TypeId} {v : Value} {xs : List Value} (h : w.ownsRow base e size v n xs) (g : Nat) (hg : v.ownBlock = some g) : base ≤ g ∧ g < w.heap.size := by
  rcases h.2 with ⟨e, _⟩ | ⟨g', cap, cur, e, h1, h2, _⟩
  · subst e; cases hg
  · subst e
    simp only [Value.ownBlock, Option.some.injEq] at hg
    subst hg
    exact ⟨h1, (Array.getElem?_eq_some_iff.1 h2).1⟩
theorem TxO.move {lo : Nat} {w w' : World} {rv wv : Value} {rs : List Int} {ws : List Ve} (h : TxO lo w rv wv rs ws) (hk : ∀ k, lo ≤ k → k < w.heap.size → w'.heap[k]? = w.heap[k]?) : TxO lo w' rv wv rs ws :=
  ⟨own_set h.1 (fun g hg => hk g (own_lt3 h.1 g hg).1 (own_lt3 h.1 g hg).2), own_set h.2 (fun g hg => hk g (own_lt3 h.2 g hg).1 (own_lt3 h.2 g hg).2)⟩
theorem TxO.low {lo lo' : Nat} {w : World} {rv wv : Value} {rs : List Int} {ws : List Ve} (h : TxO lo w rv wv rs ws) (hl : lo' ≤ lo) : TxO lo' w rv wv rs ws := ⟨own_low h.1 hl, own_low h.2 hl⟩
theorem lastW_take2 {k : Int} {ps : List Ve} {i : Nat} (hi : i < ps.length) : lastW k (ps.take (i + 1)) = if ps[i].ts = k then some ps[i].v else lastW k (ps.take i) := by
  unfold lastW; rw [List.take_succ_eq_append_getElem hi, List.foldl_append]; rfl
theorem lastW_from {k : Int} {ps : List Ve} {n : Nat} (hn : n ≤ ps.length) (h : ∀ j (hj : j < ps.length), n ≤ j → ps[j].ts ≠ k) : lastW k ps = lastW k (ps.take n) := by
  have key : ∀ d, n + d ≤ ps.length → lastW k (ps.take (n + d)) = lastW k (ps.take n) := by
    intro d
    induction d with
    | zero => intro _; rfl
    | succ d ih =>
      intro hd
      rw [← Nat.add_assoc, lastW_take2 (by omega), if_neg (h _ (by omega) (by omega))]
      exact ih (by omega)
  have := key (ps.length - n) (by omega)
  rw [show n + (ps.length - n) = ps.length by omega, List.take_length] at this
  exact this
def wroteV (ws : List Ve) (key : Int) : Int := (lastW key ws).getD 0
def wroteB (ws : List Ve) (key : Int) : Bool := (lastW key ws).isSome
theorem ret_ib {a b : Int} {c d : Bool} (h1 : a = b) (h2 : c = d) : Ending.returned (.tuple #[.int .i64 a, .bool c]) = .returned (.tuple #[.int .i64 b, .bool d]) := by rw [h1, h2]
set_option maxHeartbeats 2000000 in
theorem spec_wrote (a : Option Addr) (c : Nat) (ws : List Ve) (key : Int) (w : World) (hr : VeRow 0 w.heap.size w a ws) (hl : ws.length ≤ 1048576) :
    Calls Try.prog 64 #[.slice a ws.length c, .int .i64 key] w fun e w' => e = .returned (.tuple #[.int .i64 (wroteV ws key), .bool (wroteB ws key)]) ∧ w' = w := by
  have HR : Hid _ := hr
  clear hr
  go_enter Try.func64, Try.ntmps64
  go_wp2_with fail
  go_loop [6] (fun i => ∃ (n : Nat) (z : Int), n ≤ ws.length ∧ i = .int .i64 z ∧ z = (n : Int) - 1 ∧ Hid (∀ j (hj : j < ws.length), n ≤ j → ws[j].ts ≠ key)) (fun i => (intOf i + 1).toNat)
  case atStart => exact ⟨ws.length, _, Nat.le_refl _, rfl, rfl, fun j hj h => by omega⟩
  case round =>
    obtain ⟨n, z, hn, rfl, hz, HN⟩ := hrel
    by_cases h0 : n = 0
    · subst h0
      have hz' : ¬ 0 ≤ z := by omega
      have HL : Hid (lastW key ws = none) := by rw [Hid, lastW_from (Nat.zero_le _) HN.out]; rfl
      have H1 : Hid (0 = wroteV ws key) := by rw [Hid, wroteV, HL.out]; rfl
      have H2 : Hid (false = wroteB ws key) := by rw [Hid, wroteB, HL.out]; rfl
      clear hz
      go_wp2_with fail
      go_ret2
      exact ⟨ret_ib H1.out H2.out, rfl⟩
    · obtain ⟨m, rfl⟩ : ∃ m, n = m + 1 := ⟨n - 1, by omega⟩
      obtain rfl : z = (m : Int) := by omega
      have hm : m < ws.length := by omega
      obtain ⟨b, o, ha, _, hbl, d0, d1⟩ := VeRow.cells HR.out m hm
      subst ha
      have hlt' : (m : Int) < ws.length := by omega
      have hge : (0 : Int) ≤ m := by omega
      by_cases he : ws[m].ts = key
      · have HL : Hid (lastW key ws = some ws[m].v) := by rw [Hid, lastW_from hn HN.out, lastW_take2 hm, if_pos he]
        have H1 : Hid (ws[m].v = wroteV ws key) := by rw [Hid, wroteV, HL.out]; rfl
        have H2 : Hid (true = wroteB ws key) := by rw [Hid, wroteB, HL.out]; rfl
        rw [he] at d0
        clear he hz
        go_wp2_with fail
        go_ret2
        exact ⟨ret_ib H1.out H2.out, rfl⟩
      · have he' : (ws[m].ts == key) = false := by simpa using he
        have HN2 : Hid (∀ j (hj : j < ws.length), m ≤ j → ws[j].ts ≠ key) := fun j hj h => by
          by_cases e : j = m
          · subst e; exact he
          · exact HN.out j hj (by omega)
        clear he hz
        go_wp2_with fail
        go_round
        case rel => exact ⟨m, _, by omega, by first | rfl | go_num, by omega, HN2⟩
        case measure => simp [intOf]
end Go.Proofs.Ytaeknfjmbjeloaa.G
namespace Go.Proofs.Ytaeknfjmbjeloaa.G
open Go.ChangeShapes Go.WideShapes Go.ChangeAt Go.RowKit
set_option linter.unusedVariables false

theorem region_rel6 {P : Program} {ops : Array Oper} {Q : Exit → Act → World → Prop} {id : Nat} {W0 : World} {n : Nat} (hm : P.follows .mixedOrders = true) (hback : back3B ops = true) (hsz : ops.size = n)
    (fr : (Nat → Value) → Act) (u0 : Nat → Value) (dst : Nat → Nat) (hdst : ∀ i j, i < n → j < n → dst i = dst j → i = j)
    (Pv : Nat → Value → World → Prop) (J : Array Bool → (Nat → Value) → World → Prop)
    (hJ0 : J (Array.replicate ops.size false) u0 W0.drew)
    (hstep : ∀ L u w i, i < n → L.size = n → L.getD i true = false → J L u w → (∀ o, ops[i]? = some o → ∀ e ∈ o.after, Region.binds .any e = true → L.getD e.on false = true ∧ Pv e.on (u (dst e.on)) w) →
      wpOp P ops Q i (fun a' w' => ∃ v, a' = fr (upd u (dst i) v) ∧ (∀ j x, Pv j x w → Pv j x w') ∧ Pv i v w' ∧ J (L.setIfInBounds i true) (upd u (dst i) v) w') (fr u) w)
    (hend : ∀ L u w, L.size = n → (∀ i, i < n → L.getD i false = true) → J L u w → (∀ i, i < n → Pv i (u (dst i)) w) → Q .normal (fr u) w) :
    (Code.region id ops true).wp P Q (fr u0) W0 := by
  refine wp_region_any hm ?_
  have key : ∀ (fuel : Nat) (L : Array Bool) (u : Nat → Value) (w : World), L.size = n → L.toList.count false ≤ fuel → J L u w →
      (∀ i, i < n → L.getD i false = true → Pv i (u (dst i)) w) → wpAny P .any ops Q fuel L (fr u) w := by
    intro fuel
    induction fuel with
    | zero =>
      intro L u w hs hc hj hp
      have hdone : ∀ i, i < n → L.getD i false = true := fun i hi => by
        by_cases h : L.getD i false = true
        · exact h
        · have h1 := cntF L.toList i (getD_get (getD_other (by omega) h))
          omega
      refine wpAny_done ?_ (hend L u w hs hdone hj (fun j hj2 => hp j hj2 (hdone j hj2))) 0
      rw [List.eq_nil_iff_forall_not_mem]
      intro g hg
      rw [mem_ready] at hg
      obtain ⟨g1, -⟩ := hg
      have hgl := getD_lt g1
      rw [getD_both (by omega) (hdone g (by omega))] at g1
      cases g1
    | succ fuel ih =>
      intro L u w hs hc hj hp
      by_cases hall : ∀ i, i < n → L.getD i false = true
      · refine wpAny_done ?_ (hend L u w hs hall hj (fun j hj2 => hp j hj2 (hall j hj2))) _
        rw [List.eq_nil_iff_forall_not_mem]
        intro g hg
        rw [mem_ready] at hg
        obtain ⟨g1, -⟩ := hg
        have hgl := getD_lt g1
        rw [getD_both (by omega) (hall g (by omega))] at g1
        cases g1
      refine ⟨fun h0 => ?_, fun i hi => ?_⟩
      · simp only [Classical.not_forall] at hall
        obtain ⟨i, hi, hne⟩ := hall
        obtain ⟨j, hj'⟩ := some_ready3 hback (hs.trans hsz.symm) (i + 1) i (by omega) (getD_other (by omega) hne)
        rw [h0] at hj'
        cases hj'
      · rw [mem_ready] at hi
        obtain ⟨hL, o, ho, hdep⟩ := hi
        have hlt := getD_lt hL
        refine wpOp_mono ?_ (hstep L u w i (by omega) hs hL hj (fun o' ho' e he hbi => ?_))
        · rintro a' w' ⟨v, rfl, hk2, hp2, hj2⟩
          refine ih _ _ _ (by rw [Array.size_setIfInBounds]; exact hs) ?_ hj2 ?_
          · have h1 := cntF L.toList i (getD_get hL)
            rw [Array.toList_setIfInBounds]
            omega
          · intro j hjn hjl
            by_cases hji : j = i
            · subst hji
              rw [upd_at]
              exact hp2
            · rw [getD_set_ne false (Ne.symm hji)] at hjl
              rw [upd_ne _ _ (fun h => hji (hdst j i hjn (by omega) h))]
              exact hk2 _ _ (hp j hjn hjl)
        · rw [ho] at ho'
          simp only [Option.some.injEq] at ho'
          subst ho'
          have h1 := hdep e he hbi
          unfold back3B at hback
          rw [List.all_eq_true] at hback
          have h2 := hback i (by rw [List.mem_range]; omega)
          rw [ho] at h2
          simp only [Array.all_eq_true_iff_forall_mem, Bool.or_eq_true, Bool.not_eq_true', decide_eq_true_eq] at h2
          have h3 : e.on < i := by
            rcases h2 e he with h4 | h4
            · rw [hbi] at h4; cases h4
            · exact h4
          exact ⟨h1, hp e.on (by omega) h1⟩
  have hrep : (Array.replicate ops.size false).toList.count false = ops.size := by simp
  exact key ops.size _ u0 _ (by rw [Array.size_replicate]; exact hsz) (by rw [hrep]; exact Nat.le_refl _) hJ0 (fun i hi h => by
    rw [hsz] at h
    simp [hi] at h)
end Go.Proofs.Ytaeknfjmbjeloaa.G
namespace Go.Proofs.Ytaeknfjmbjeloaa.G
open Go.ChangeShapes Go.WideShapes Go.ChangeAt Go.RowKit
set_option linter.unusedVariables false

set_option maxHeartbeats 2000000 in
theorem spec_txnOK (a ra wa : Option Addr) (c rc wc : Nat) (l : Chs) (now st : Int) (rs : List Int) (ws : List Ve) (w : World) (hs : ChRow 0 w.heap.size w a l) (hsb : ChsBd 1048576 l) (hr : TxRow 0 w.heap.size w ra wa rs ws) (hbd : TxBd 1048576 rs ws) (hcap : rs.length ≤ rc) :
    Calls Try.prog 37 #[.agg #[.slice a l.length c, .int .i64 now], .agg #[.int .i64 st, .slice ra rs.length rc, .slice wa ws.length wc]] w fun e w' => e = .returned (.bool (txnB l now st rs ws)) ∧ Below w.heap.size w w' := by
  obtain ⟨V, hV⟩ : ∃ V, V = (w.alloc (.cells #[.slice a l.length c, .int .i64 now] 25)).alloc (.cells #[.int .i64 st, .slice ra rs.length rc, .slice wa ws.length wc] 30) := ⟨_, rfl⟩
  have bV : Below w.heap.size w V := by
    rw [hV]
    repeat (first | exact Below.refl _ _ | refine Below.alloc ?_ (by first | omega | (simp <;> omega)) _)
  have zV : V.heap.size = w.heap.size + 2 := by rw [hV]; simp
  have c0 : V.heap[w.heap.size]? = some (.cells #[.slice a l.length c, .int .i64 now] 25 (0, 0)) := by
    rw [hV, Below.heap_alloc _ _ _ (by simp)]; exact heap_alloc_new _ _
  have c1 : V.heap[w.heap.size + 1]? = some (.cells #[.int .i64 st, .slice ra rs.length rc, .slice wa ws.length wc] 30 (0, 0)) := by
    rw [hV]
    have := heap_alloc_new (w.alloc (.cells #[.slice a l.length c, .int .i64 now] 25)) (.cells #[.int .i64 st, .slice ra rs.length rc, .slice wa ws.length wc] 30)
    simpa using this
  have KV : Hid (∀ W, Below V.heap.size V W → W.heap[w.heap.size]? = some (.cells #[.slice a l.length c, .int .i64 now] 25 (0, 0)) ∧ W.heap[w.heap.size + 1]? = some (.cells #[.int .i64 st, .slice ra rs.length rc, .slice wa ws.length wc] 30 (0, 0)) ∧ ChRow 0 W.heap.size W a l ∧ TxRow 0 W.heap.size W ra wa rs ws ∧ Below w.heap.size w W) := fun W h =>
    have hw := bV.trans (h.mono (by omega))
    ⟨(h.block _ (by omega)).trans c0, (h.block _ (by omega)).trans c1, ChRow.up hs hw, TxRow.up hr hw, hw⟩
  have HE : Hid (ChsBd 1048576 l) := hsb
  have HD : Hid (TxBd 1048576 rs ws) := hbd
  have x0 := fun o => row_cell c0 o
  have x1 := fun o => row_cell c1 o
  clear hs hr hbd hsb c0 c1 bV
  go_enter Try.func37, Try.ntmps37
  go_upto_region 1 with fail
  rw [← hV]
  clear hV
  go_wp2_with fail
  refine (spec_storeOK a c l now _ (KV.out _ (Below.refl _ _)).2.2.1 HE.out).mono ?_
  rintro e w1 ⟨rfl, b1⟩
  have B1 : Hid (Below V.heap.size V w1) := b1
  obtain ⟨t0, t1, _, t3, t4⟩ := KV.out _ b1
  have e0 := fun o => row_cell t0 o
  have e1 := fun o => row_cell t1 o
  have T3 : Hid _ := t3
  have T4 : Hid _ := t4
  clear t0 t1 t3 t4 b1 x0 x1
  cases hS : storeB l now
  · have HN : Hid (false = txnB l now st rs ws) := by rw [Hid, txnB, hS]; rfl
    go_wp2_with fail
    go_ret
    exact ⟨ret_b HN.out, T4.out⟩
  · have HN : Hid (txB now st rs ws = txnB l now st rs ws) := by rw [Hid, txnB, hS]; rfl
    go_wp2_with fail
    refine (spec_txOK a ra wa c rc wc l now st rs ws _ T3.out HD.out hcap).mono ?_
    rintro e w2 ⟨rfl, b2⟩
    have Q2 : Hid _ := (KV.out _ (B1.out.trans (b2.mono B1.out.size))).2.2.2.2
    clear b2 e0 e1
    go_wp2_with fail
    go_ret
    exact ⟨ret_b HN.out, Q2.out⟩
theorem any_take_no {p : Int → Bool} {rs : List Int} (h : ∀ i (hi : i < rs.length), p rs[i] = false) : rs.any p = false := by
  rw [List.any_eq_false]; intro x hx
  obtain ⟨i, hi, rfl⟩ := List.getElem_of_mem hx
  simp [h i hi]
theorem any_yes {p : Int → Bool} {rs : List Int} {i : Nat} (hi : i < rs.length) (h : p rs[i] = true) : rs.any p = true := by
  rw [List.any_eq_true]; exact ⟨rs[i], List.getElem_mem hi, h⟩
set_option maxHeartbeats 8000000 in
set_option maxRecDepth 40000 in
theorem spec_conf (a ra wa : Option Addr) (c rc wc : Nat) (l : Chs) (now st : Int) (rs : List Int) (ws : List Ve) (w : World) (hs : ChRow 0 w.heap.size w a l) (hsb : ChsBd 1048576 l) (hr : TxRow 0 w.heap.size w ra wa rs ws) (hbd : TxBd 1048576 rs ws) (hcap : rs.length ≤ rc) (h16 : l.length = 16) (hk : readsB rs = true) :
    Calls Try.prog 38 #[.agg #[.slice a l.length c, .int .i64 now], .agg #[.int .i64 st, .slice ra rs.length rc, .slice wa ws.length wc]] w fun e w' => e = .returned (.bool (confB l st rs ws)) ∧ Below w.heap.size w w' := by
  have HK : Hid (readsB rs = true) := hk
  have H16 : Hid (l.length = 16) := h16
  clear h16
  have hl1 := hbd.1
  have hl2 := hbd.2
  clear hk
  obtain ⟨V, hV⟩ : ∃ V, V = (w.alloc (.cells #[.slice a l.length c, .int .i64 now] 25)).alloc (.cells #[.int .i64 st, .slice ra rs.length rc, .slice wa ws.length wc] 30) := ⟨_, rfl⟩
  have bV : Below w.heap.size w V := by
    rw [hV]
    repeat (first | exact Below.refl _ _ | refine Below.alloc ?_ (by first | omega | (simp <;> omega)) _)
  have zV : V.heap.size = w.heap.size + 2 := by rw [hV]; simp
  have c0 : V.heap[w.heap.size]? = some (.cells #[.slice a l.length c, .int .i64 now] 25 (0, 0)) := by
    rw [hV, Below.heap_alloc _ _ _ (by simp)]; exact heap_alloc_new _ _
  have c1 : V.heap[w.heap.size + 1]? = some (.cells #[.int .i64 st, .slice ra rs.length rc, .slice wa ws.length wc] 30 (0, 0)) := by
    rw [hV]
    have := heap_alloc_new (w.alloc (.cells #[.slice a l.length c, .int .i64 now] 25)) (.cells #[.int .i64 st, .slice ra rs.length rc, .slice wa ws.length wc] 30)
    simpa using this
  have KV : Hid (∀ W, Below V.heap.size V W → W.heap[w.heap.size]? = some (.cells #[.slice a l.length c, .int .i64 now] 25 (0, 0)) ∧ W.heap[w.heap.size + 1]? = some (.cells #[.int .i64 st, .slice ra rs.length rc, .slice wa ws.length wc] 30 (0, 0)) ∧ ChRow 0 W.heap.size W a l ∧ TxRow 0 W.heap.size W ra wa rs ws ∧ Below w.heap.size w W) := fun W h =>
    have hw := bV.trans (h.mono (by omega))
    ⟨(h.block _ (by omega)).trans c0, (h.block _ (by omega)).trans c1, ChRow.up hs hw, TxRow.up hr hw, hw⟩
  have HE : Hid (ChsBd 1048576 l) := hsb
  have HD : Hid (TxBd 1048576 rs ws) := hbd
  have x0 := fun o => row_cell c0 o
  have x1 := fun o => row_cell c1 o
  clear hs hr hbd hsb c0 c1 bV
  go_enter Try.func38, Try.ntmps38
  go_upto_region 1 with fail
  rw [← hV]
  clear hV
  go_wp2_with fail
  clear x0 x1
  go_loopw [5] (fun i w' => ∃ (k : Nat), k ≤ rs.length ∧ i = .int .i64 k ∧ Hid (Below V.heap.size V w') ∧ Hid (∀ i (hi : i < rs.length), i < k → chgB (chAt l rs[i].toNat) st = false)) (fun i _ => rs.length - (intOf i).toNat)
  case atStart => exact ⟨0, by omega, rfl, Below.refl _ _, fun i _ h => by omega⟩
  case round =>
    obtain ⟨wo, rfl⟩ : ∃ x, x = wr := ⟨_, rfl⟩
    obtain ⟨k, hk, rfl, HB, HN⟩ := hrel
    obtain ⟨t0, t1, t2, t3, t4⟩ := KV.out _ HB.out
    have x0 := fun o => row_cell t0 o
    have x1 := fun o => row_cell t1 o
    have Q : Hid _ := t4
    have RW : Hid _ := t3
    clear t0 t1 t2 t3 t4
    by_cases hlt : k < rs.length
    case neg =>
      have HF : Hid (false = confB l st rs ws) := by
        rw [Hid, confB, any_take_no (p := fun k => chgB (chAt l k.toNat) st) (fun i hi => HN.out i hi (by omega))]; rfl
      go_wp2_with fail
      go_ret
      exact ⟨ret_b HF.out, Q.out⟩
    obtain ⟨b, o, ha, _, hbl, d0⟩ := NuRow.cells RW.out.1 k hlt
    obtain ⟨q, hq⟩ : ∃ q : Nat, rs[k] = q := ⟨rs[k].toNat, by have := (readsB_at HK.out hlt).1; omega⟩
    have hq16 : q < l.length := by have := (readsB_at HK.out hlt).1; have := H16.out; omega
    have HCH : Hid (chAt l rs[k].toNat = l[q]) := by rw [Hid, hq, Int.toNat_natCast, chAt_eq hq16]
    have HCQ : Hid _ := hq
    subst ha
    rw [hq] at d0
    have hlt' : (k : Int) < rs.length := by omega
    have D0 : Hid _ := d0
    clear d0 hq
    go_upto_region 4 with fail
    have J0 : Below wo.heap.size wo wo.drew := (Below.refl _ _).drew
    obtain ⟨B, hB⟩ : ∃ B, B = chgB l[q] st := ⟨_, rfl⟩
    have HBB : Hid (B = chgB l[q] st) := hB
    clear hB x0 x1
    refine region_rel6 (n := 9) (by kernel_rfl) (by kernel_rfl) rfl (fun u => ⟨#[.agg #[.slice a l.length c, .int .i64 now], .agg #[.int .i64 st, .slice (some ⟨b, o, none⟩) rs.length rc, .slice wa ws.length wc], .pointer (some ⟨w.heap.size, 0, none⟩), .pointer (some ⟨w.heap.size + 1, 0, none⟩), u4, .int .i64 k, .int .i64 k, .pointer (some ⟨w.heap.size + 1, 1, none⟩), .slice (some ⟨b, o, none⟩) rs.length rc, .int .i64 rs.length, .bool true, u11, u12, u 13, u 14, u 15, u 16, u 17, u 18, u 19, u 20, u 21, u22, u23, u24, u25], []⟩) (fun n => match n with | 13 => u13 | 14 => u14 | 15 => u15 | 16 => u16 | 17 => u17 | 18 => u18 | 19 => u19 | 20 => u20 | 21 => u21 | _ => undef) (fun i => 13 + i) (fun i j _ _ h => by omega)
      (fun i v _ => match i with | 0 => v = .agg #[.slice a l.length c, .int .i64 now] | 1 => v = .pointer (some ⟨w.heap.size + 1, 1, none⟩) | 2 => v = .slice (some ⟨b, o, none⟩) rs.length rc | 3 => v = .int .i64 k | 4 => v = .pointer (some ⟨b, o + k, none⟩) | 5 => v = .int .i64 q | 6 => v = .pointer (some ⟨w.heap.size + 1, 0, none⟩) | 7 => v = .int .i64 st | _ => v = .bool B) (fun _ _ W => Below wo.heap.size wo W) J0 ?step ?last
    case step =>
      intro L u W i hi hLs hLi hj hdep
      have QW : Hid (Below V.heap.size V W) := HB.out.trans (hj.mono HB.out.size)
      obtain ⟨t0, t1, t2, t3, t4⟩ := KV.out _ QW.out
      have e0 := fun o => row_cell t0 o
      have e1 := fun o => row_cell t1 o
      have eb := (hj.cell (p := ⟨b, o + k, none⟩) hbl).trans D0.out
      have RS : Hid _ := t2
      have hzj := hj.size
      clear t0 t1 t2 t3 t4
      have hcase : i = 0 ∨ i = 1 ∨ i = 2 ∨ i = 3 ∨ i = 4 ∨ i = 5 ∨ i = 6 ∨ i = 7 ∨ i = 8 := by omega
      rcases hcase with rfl | rfl | rfl | rfl | rfl | rfl | rfl | rfl | rfl
      · refine wpOp_step rfl (fun K hK => ?_)
        clear hdep
        go_simp
        exact hK _ _ ⟨_, rfl, fun _ _ h => h, rfl, hj⟩
      · refine wpOp_step rfl (fun K hK => ?_)
        clear hdep
        go_simp
        exact hK _ _ ⟨_, rfl, fun _ _ h => h, rfl, hj⟩
      · have d1 : u 14 = .pointer (some ⟨w.heap.size + 1, 1, none⟩) := (hdep _ rfl ⟨1, .data⟩ (by simp) rfl).2
        refine wpOp_step rfl (fun K hK => ?_)
        clear hdep
        go_simp
        exact hK _ _ ⟨_, by simp [upd, d1], fun _ _ h => h, rfl, hj⟩
      · refine wpOp_step rfl (fun K hK => ?_)
        clear hdep
        go_simp
        exact hK _ _ ⟨_, rfl, fun _ _ h => h, rfl, hj⟩
      · have d2 : u 15 = .slice (some ⟨b, o, none⟩) rs.length rc := (hdep _ rfl ⟨2, .data⟩ (by simp) rfl).2
        have d3 : u 16 = .int .i64 k := (hdep _ rfl ⟨3, .data⟩ (by simp) rfl).2
        refine wpOp_step rfl (fun K hK => ?_)
        clear hdep
        go_simp
        exact hK _ _ ⟨_, by simp [upd, d2, d3], fun _ _ h => h, rfl, hj⟩
      · have d4 : u 17 = .pointer (some ⟨b, o + k, none⟩) := (hdep _ rfl ⟨4, .data⟩ (by simp) rfl).2
        refine wpOp_step rfl (fun K hK => ?_)
        clear hdep
        go_simp
        exact hK _ _ ⟨_, by simp [upd, d4], fun _ _ h => h, rfl, hj⟩
      · refine wpOp_step rfl (fun K hK => ?_)
        clear hdep
        go_simp
        exact hK _ _ ⟨_, rfl, fun _ _ h => h, rfl, hj⟩
      · have d6 : u 19 = .pointer (some ⟨w.heap.size + 1, 0, none⟩) := (hdep _ rfl ⟨6, .data⟩ (by simp) rfl).2
        refine wpOp_step rfl (fun K hK => ?_)
        clear hdep
        go_simp
        exact hK _ _ ⟨_, by simp [upd, d6], fun _ _ h => h, rfl, hj⟩
      · have d0 : u 13 = .agg #[.slice a l.length c, .int .i64 now] := (hdep _ rfl ⟨0, .data⟩ (by simp) rfl).2
        have d5 : u 18 = .int .i64 q := (hdep _ rfl ⟨5, .data⟩ (by simp) rfl).2
        have d7 : u 20 = .int .i64 st := (hdep _ rfl ⟨7, .data⟩ (by simp) rfl).2
        refine wpOp_step rfl (fun K hK => ?_)
        clear hdep e0 e1 eb
        go_simp
        refine (spec_changed a c l now st q _ RS.out HE.out hq16).mono ?_
        rintro e w8 ⟨rfl, hb8⟩
        exact hK _ _ ⟨.bool (chgB l[q] st), by simp [upd, d0, d5, d7], fun _ _ h => h, (by show Value.bool (chgB l[q] st) = .bool B; rw [HBB.out]), hj.trans (hb8.mono hzj)⟩
    case last =>
      intro L u W hLs hL hj hp
      have d8 : u 21 = .bool B := hp 8 (by omega)
      have QW : Hid (Below V.heap.size V W) := HB.out.trans (hj.mono HB.out.size)
      obtain ⟨t0, t1, t2, t3, t4⟩ := KV.out _ QW.out
      have e1 := fun o => row_cell t1 o
      have Q4 : Hid _ := t4
      clear t0 t1 t2 t3 t4 hp hj
      rw [d8]
      clear d8
      cases B
      · have HN2 : Hid (∀ i (hi : i < rs.length), i < k + 1 → chgB (chAt l rs[i].toNat) st = false) := fun i hi h2 => by
          by_cases e : i = k
          · subst e; rw [HCH.out, ← HBB.out]
          · exact HN.out i hi (by omega)
        go_wp2_with fail
        exact ⟨⟨k + 1, by omega, by go_num, QW, HN2⟩, by simp [intOf]; omega⟩
      · have HT : Hid (decide ((0 : Int) < ws.length) = confB l st rs ws) := by
          rw [Hid, confB, any_yes (p := fun k => chgB (chAt l k.toNat) st) hlt (by show chgB (chAt l rs[k].toNat) st = true; rw [HCH.out, ← HBB.out])]
          rw [Bool.true_and]
          by_cases h : 0 < ws.length
          · rw [decide_eq_true h, decide_eq_true (by omega)]
          · rw [decide_eq_false h, decide_eq_false (by omega)]
        go_wp2_with fail
        go_ret
        exact ⟨ret_b (by first | exact HT.out | (rw [← HT.out]; simp)), Q4.out⟩
def confR (l : Chs) (now st : Int) (rs : List Int) (ws : List Ve) : Bool := txnB l now st rs ws && confB l st rs ws
def txC (l : Chs) (now st : Int) (rs : List Int) (ws : List Ve) : Int := if txnB l now st rs ws = true then 0 else 1
set_option maxHeartbeats 2000000 in
theorem spec_conflicts (a ra wa : Option Addr) (c rc wc : Nat) (l : Chs) (now st : Int) (rs : List Int) (ws : List Ve) (w : World) (hs : ChRow 0 w.heap.size w a l) (hsb : ChsBd 1048576 l) (hr : TxRow 0 w.heap.size w ra wa rs ws) (hbd : TxBd 1048576 rs ws) (hcap : rs.length ≤ rc) :
    Calls Try.prog 15 #[.agg #[.slice a l.length c, .int .i64 now], .agg #[.int .i64 st, .slice ra rs.length rc, .slice wa ws.length wc]] w fun e w' => e = .returned (.tuple #[.bool (confR l now st rs ws), .int .i64 (txC l now st rs ws)]) ∧ Below w.heap.size w w' := by
  obtain ⟨V, hV⟩ : ∃ V, V = (w.alloc (.cells #[.slice a l.length c, .int .i64 now] 25)).alloc (.cells #[.int .i64 st, .slice ra rs.length rc, .slice wa ws.length wc] 30) := ⟨_, rfl⟩
  have bV : Below w.heap.size w V := by
    rw [hV]
    repeat (first | exact Below.refl _ _ | refine Below.alloc ?_ (by first | omega | (simp <;> omega)) _)
  have zV : V.heap.size = w.heap.size + 2 := by rw [hV]; simp
  have c0 : V.heap[w.heap.size]? = some (.cells #[.slice a l.length c, .int .i64 now] 25 (0, 0)) := by
    rw [hV, Below.heap_alloc _ _ _ (by simp)]; exact heap_alloc_new _ _
  have c1 : V.heap[w.heap.size + 1]? = some (.cells #[.int .i64 st, .slice ra rs.length rc, .slice wa ws.length wc] 30 (0, 0)) := by
    rw [hV]
    have := heap_alloc_new (w.alloc (.cells #[.slice a l.length c, .int .i64 now] 25)) (.cells #[.int .i64 st, .slice ra rs.length rc, .slice wa ws.length wc] 30)
    simpa using this
  have KV : Hid (∀ W, Below V.heap.size V W → W.heap[w.heap.size]? = some (.cells #[.slice a l.length c, .int .i64 now] 25 (0, 0)) ∧ W.heap[w.heap.size + 1]? = some (.cells #[.int .i64 st, .slice ra rs.length rc, .slice wa ws.length wc] 30 (0, 0)) ∧ ChRow 0 W.heap.size W a l ∧ TxRow 0 W.heap.size W ra wa rs ws ∧ Below w.heap.size w W) := fun W h =>
    have hw := bV.trans (h.mono (by omega))
    ⟨(h.block _ (by omega)).trans c0, (h.block _ (by omega)).trans c1, ChRow.up hs hw, TxRow.up hr hw, hw⟩
  have HE : Hid (ChsBd 1048576 l) := hsb
  have HD : Hid (TxBd 1048576 rs ws) := hbd
  have x0 := fun o => row_cell c0 o
  have x1 := fun o => row_cell c1 o
  clear hs hr hbd hsb c0 c1 bV
  go_enter Try.func15, Try.ntmps15
  go_upto_region 1 with fail
  rw [← hV]
  clear hV
  go_wp2_with fail
  refine (spec_txnOK a ra wa c rc wc l now st rs ws _ (KV.out _ (Below.refl _ _)).2.2.1 HE.out (KV.out _ (Below.refl _ _)).2.2.2.1 HD.out hcap).mono ?_
  rintro e w1 ⟨rfl, b1⟩
  have B1 : Hid (Below V.heap.size V w1) := b1
  obtain ⟨t0, t1, t2, t3, t4⟩ := KV.out _ b1
  have e0 := fun o => row_cell t0 o
  have e1 := fun o => row_cell t1 o
  have T2 : Hid _ := t2
  have T3 : Hid _ := t3
  have T4 : Hid _ := t4
  clear t0 t1 t2 t3 t4 b1 x0 x1
  cases hS : txnB l now st rs ws
  · have H1 : Hid (false = confR l now st rs ws) := by rw [Hid, confR, hS]; rfl
    have H2 : Hid (1 = txC l now st rs ws) := by rw [Hid, txC, hS]; rfl
    go_wp2_with fail
    go_ret2
    exact ⟨ret_b2 H1.out H2.out, T4.out⟩
  · have hal := txnB_all hS
    have H16 : Hid (l.length = 16) := (storeB_all hal.1).1
    have HK : Hid (readsB rs = true) := hal.2.2.2
    have H1 : Hid (confB l st rs ws = confR l now st rs ws) := by rw [Hid, confR, hS]; rfl
    have H2 : Hid (0 = txC l now st rs ws) := by rw [Hid, txC, hS]; rfl
    clear hal
    go_wp2_with fail
    refine (spec_conf a ra wa c rc wc l now st rs ws _ T2.out HE.out T3.out HD.out hcap H16.out HK.out).mono ?_
    rintro e w2 ⟨rfl, b2⟩
    have Q2 : Hid _ := (KV.out _ (B1.out.trans (b2.mono B1.out.size))).2.2.2.2
    clear b2 e0 e1
    go_wp2_with fail
    go_ret2
    exact ⟨ret_b2 H1.out H2.out, Q2.out⟩
end Go.Proofs.Ytaeknfjmbjeloaa.G
