/- The specification's reader of schemas: what it holds while it reads. -/
import Derived.Test.YtnfoinmccigdfaaGreatDoorSsRows
import Derived.Test.YtnfoinmccigdfaaGreatDoorSchSpec
namespace Go.Proofs.YtnfoinmccigdfaaGreatDoor
open Go.ChangeShapes Go.WideShapes Go.ChangeAt Go.RowKit
set_option linter.unusedVariables false

theorem isB_word {l : List Tk} (h : TkOk l) {t : ByteArray} (hne : t.toList ≠ []) (i : Nat) : (isB 1 t l i = true ∧ (nmI l i).toList = t.toList) ∨ (isB 1 t l i = false ∧ (nmI l i).toList ≠ t.toList) := by
  unfold isB nmI nxT
  by_cases hi : i < l.length
  · rw [List.getElem?_eq_getElem hi, decide_eq_true hi]
    by_cases hk : l[i].k = 1
    · simp only [hk, if_true, Bool.true_and, beq_self_eq_true]
      by_cases ht : l[i].t.toList = t.toList
      · exact .inl ⟨by rw [beq_iff_eq]; exact ht, ht⟩
      · exact .inr ⟨by rw [beq_eq_false_iff_ne]; exact ht, ht⟩
    · have hkb : (l[i].k == 1) = false := by rw [beq_eq_false_iff_ne]; exact hk
      refine .inr ⟨by simp [hkb], ?_⟩
      simp only [hk, if_false]
      intro e
      exact hne (e.symm.trans (by rw [ByteArray.toList_eq]))
  · rw [List.getElem?_eq_none (by omega), decide_eq_false hi]
    refine .inr ⟨rfl, ?_⟩
    simp only
    rw [if_neg (by decide)]
    intro e
    exact hne (e.symm.trans (by rw [ByteArray.toList_eq]))
/-- A type: what its first looks tell. -/
theorem td_looks {l : List Tk} (h : TkOk l) {i : Nat} {b1 b2 b3 : Bool} (h1 : b1 = isB 1 ⟨#[116, 121, 112, 101]⟩ l i) (h2 : b2 = nmB l (i + 1)) (h3 : b3 = isB 4 ⟨#[123]⟩ l (adv b2 (i + 1))) :
    ((b3 && (b2 && b1)) = false → TdR l i none) ∧ ((b3 && (b2 && b1)) = true → (adv b3 (adv b2 (i + 1)) = i + 1 + 1 + 1 ∧ (Many (rbrc l) (FdR l) (i + 1 + 1 + 1) none → TdR l i none) ∧ ∀ fs j, Many (rbrc l) (FdR l) (i + 1 + 1 + 1) (some (fs, j)) → TdR l i (some (⟨nmI l (i + 1), fs⟩, j)))) := by
  rcases isB_word h (t := ⟨#[116, 121, 112, 101]⟩) (by rw [ByteArray.toList_eq]; simp) i with ⟨e1, e1'⟩ | ⟨e1, e1'⟩
  · rw [e1] at h1
    subst h1
    rcases nmB_nm h (i + 1) with ⟨e2, e2'⟩ | ⟨e2, e2'⟩
    · rw [e2] at h2
      subst h2
      rw [isB_tk h] at h3
      cases b3 with
      | false => exact ⟨fun _ => .inr ⟨e1', .inr ⟨e2', .inl ⟨h3.symm, rfl⟩⟩⟩, fun q => by simp at q⟩
      | true => exact ⟨fun q => by simp at q, fun _ => ⟨rfl, fun hm => .inr ⟨e1', .inr ⟨e2', .inr ⟨h3.symm, none, hm, .inl ⟨rfl, rfl⟩⟩⟩⟩, fun fs j hm => .inr ⟨e1', .inr ⟨e2', .inr ⟨h3.symm, _, hm, .inr ⟨fs, j, rfl, rfl⟩⟩⟩⟩⟩⟩
    · rw [e2] at h2
      subst h2
      exact ⟨fun _ => .inr ⟨e1', .inl ⟨e2', rfl⟩⟩, fun q => by simp at q⟩
  · rw [e1] at h1
    subst h1
    exact ⟨fun _ => .inl ⟨e1', rfl⟩, fun q => by simp at q⟩
structure PsS (w0 : World) (L R S : Nat) (a : Option Addr) (c : Nat) (l : List Tk) (j : Nat) (ok : Bool) (V : Value) (ts : List Ty) (W : World) : Prop where
  rd : RsSt W L a c l j ok false
  r : W.heap[R]? = some (.cells #[.slice none 0 0] 24 (0, 0))
  bx : W.heap[S]? = some (.cells #[V] 24 (0, 0))
  gr : w0.grownBy W (some L)
  ts : TdsAt w0.heap.size W V ts
  hL : L < w0.heap.size
  hR : R < L
  hS : w0.heap.size ≤ S
theorem PsS.call {w0 : World} {L R S c j j' : Nat} {ok ok' : Bool} {a : Option Addr} {l : List Tk} {V : Value} {ts : List Ty} {W W' : World} (h : PsS w0 L R S a c l j ok V ts W) (hr : RsSt W' L a c l j' ok' false) (hg : W.grownBy W' (some L)) : PsS w0 L R S a c l j' ok' V ts W' :=
  ⟨hr, grown_keeps h.r (Array.getElem?_eq_some_iff.1 h.r).1 hg (by have := h.hR; omega), grown_keeps h.bx (Array.getElem?_eq_some_iff.1 h.bx).1 hg (by have := h.hL; have := h.hS; omega), grown_trans h.gr hg, h.ts.grow hg h.hL, h.hL, h.hR, h.hS⟩
theorem PsS.at_ {w0 : World} {L R S c j : Nat} {ok : Bool} {a : Option Addr} {l : List Tk} {V : Value} {ts : List Ty} {W : World} (h : PsS w0 L R S a c l j ok V ts W) (j' : Nat) : PsS w0 L R S a c l j' ok V ts (W.setCell ⟨L, 1, none⟩ (.int .i64 j')) :=
  h.call (h.rd.at_ j') (grown_set (grown_refl W _) _ _)
theorem PsS.ok_ {w0 : World} {L R S c j : Nat} {ok : Bool} {a : Option Addr} {l : List Tk} {V : Value} {ts : List Ty} {W : World} (h : PsS w0 L R S a c l j ok V ts W) (b : Bool) : PsS w0 L R S a c l j b V ts (W.setCell ⟨L, 2, none⟩ (.bool b)) :=
  h.call (h.rd.ok_ b) (grown_set (grown_refl W _) _ _)
/-- The type that was read is appended. -/
theorem PsS.push {w0 : World} {L R S c j cV cv N : Nat} {ok : Bool} {a aV av : Option Addr} {l : List Tk} {ts : List Ty} {Y : World} (h : PsS w0 L R S a c l j ok (.slice aV ts.length cV) ts Y) {nm : ByteArray} {ps : List (G.Fd × Value)} (hf : FdsAt N Y (.slice av ps.length cv) ps) (hwd : w0.heap.size ≤ N) (hN : ∀ i (hi : i < ts.length) g, blkF ts[i].2.1 ts[i].2.2 g → g < N) (hl : ts.length + 1 ≤ 1048576) :
    ∃ g8 cap8 W8, (Builtin.append_ #[22, 22] 22 #[.slice aV ts.length cV, .slice (some ⟨Y.heap.size, 0, none⟩) 1 1]).run Tryz.prog (Y.alloc (.cells #[.string nm, .slice av ps.length cv] 49)) = .ok (.slice (some ⟨g8, 0, none⟩) (ts.length + 1) cap8) W8 ∧
      PsS w0 L R S a c l j ok (.slice (some ⟨g8, 0, none⟩) (ts ++ [(nm, Value.slice av ps.length cv, ps)]).length cap8) (ts ++ [(nm, Value.slice av ps.length cv, ps)]) (W8.setCell ⟨S, 0, none⟩ (.slice (some ⟨g8, 0, none⟩) (ts.length + 1) cap8)) ∧ W8.heap[S]? = some (.cells #[.slice aV ts.length cV] 24 (0, 0)) := by
  obtain ⟨ig, hig, hzg, hsg, hbg⟩ := info_tdd
  obtain ⟨U, hU⟩ : ∃ U, U = Y.alloc (.cells #[.string nm, .slice av ps.length cv] 49) := ⟨_, rfl⟩
  have BU : Below Y.heap.size Y U := by rw [hU]; exact (Below.refl _ _).alloc (Nat.le_refl _) _
  have cU : U.heap[Y.heap.size]? = some (.cells #[.string nm, .slice av ps.length cv] 49 (0, 0)) := by rw [hU]; exact heap_alloc_new _ _
  have gs := h.gr.size
  have hsz := BU.size
  have O3 : U.ownsRow w0.heap.size 49 2 (.slice aV ts.length cV) ts.length (tdVs ts) := own_keepT h.ts.own fun g hg => BU.block g (World.ownsRow.lt h.ts.own g hg).2
  obtain ⟨g8, cap8, W8, hrun, o8, gr8, hat8, hlt8⟩ := run_append_lies (P := Tryz.prog) U 22 22 w0.heap.size 49 ig _ 2 40 Tryz.underlying22 hig hzg hsg hbg rfl (by decide) (.slice aV ts.length cV) ts.length (tdVs ts) O3 ⟨Y.heap.size, 0, none⟩ 1 1 [.string nm, .slice av ps.length cv] rfl (fun t u ht => by
    rw [add_plain]
    have := row_cell cU (0 + t)
    rw [this, ← ht]
    simp) (fun u hu => by
      simp only [List.mem_cons, List.not_mem_nil, or_false] at hu
      rcases hu with rfl | rfl <;> rfl) (by omega) (by unfold maxLen; omega) (by omega) (by omega) _ rfl
  rw [← hU]
  have off : ∀ g, (Value.slice aV ts.length cV).ownBlock = some g → w0.heap.size ≤ g := fun g hg => (World.ownsRow.lt O3 g hg).1
  have kp : ∀ g, g < Y.heap.size → (Value.slice aV ts.length cV).ownBlock ≠ some g → W8.heap[g]? = Y.heap[g]? := fun g h1 h2 => (gr8.block g (by omega) (fun e => h2 e.symm)).trans (BU.block g h1)
  have hL := h.hL
  have hS := h.hS
  have hR := h.hR
  have nty : ∀ g cs, Y.heap[g]? = some (.cells cs 24 (0, 0)) → (Value.slice aV ts.length cV).ownBlock ≠ some g := fun g cs hc he => by
    rcases h.ts.own.2 with ⟨e1, _⟩ | ⟨g1, c1, u1, e1, _, q1, _⟩
    · rw [e1] at he; simp [Value.ownBlock] at he
    · rw [e1] at he
      simp only [Value.ownBlock, Option.some.injEq] at he
      rw [he, hc] at q1
      simp at q1
  have hS8 : W8.heap[S]? = some (.cells #[.slice aV ts.length cV] 24 (0, 0)) := (kp S (Array.getElem?_eq_some_iff.1 h.bx).1 (nty S _ h.bx)).trans h.bx
  have T8 := h.ts.push hN hwd hf BU gr8 o8
  have nS : ∀ {b : Nat} {e : TypeId} {sz n : Nat} {v : Value} {xs : List Value}, W8.ownsRow b e sz v n xs → e ≠ 24 → ∀ g, v.ownBlock = some g → g ≠ S := fun ho hne g hg => by
    rintro rfl
    rcases ho.2 with ⟨e1, _⟩ | ⟨g1, c1, u1, e1, _, q1, _⟩
    · rw [e1] at hg; simp [Value.ownBlock] at hg
    · rw [e1] at hg
      simp only [Value.ownBlock, Option.some.injEq] at hg
      rw [hg, hS8] at q1
      simp only [Option.some.injEq, Obj.cells.injEq] at q1
      exact hne q1.2.1.symm
  refine ⟨g8, cap8, W8, hrun, ?_, hS8⟩
  have hlen : (ts ++ [(nm, Value.slice av ps.length cv, ps)]).length = ts.length + 1 := by simp
  refine ⟨(h.rd.keep fun g hg => kp g (by have := h.rd.lt; omega) (fun e => by have := off g e; omega)).keep fun g hg => heap_setCell_other _ _ _ _ (by show g ≠ S; omega), ?_, ?_, grown_new (grown_append (grown_below h.gr BU) gr8 off) hS _, ?_, hL, hR, hS⟩
  · rw [heap_setCell_other _ _ _ _ (by show R ≠ S; omega)]
    exact (kp R (Array.getElem?_eq_some_iff.1 h.r).1 (nty R _ h.r)).trans h.r
  · rw [hlen]
    have := row_set hS8 0 (.slice (some ⟨g8, 0, none⟩) (ts.length + 1) cap8)
    simpa using this
  · rw [hlen]
    refine ⟨own_keepT T8.own fun g hg => heap_setCell_other _ _ _ _ (nS T8.own (by decide) g hg), fun t ht => ?_, T8.apart⟩
    have hf8 := T8.each t ht
    exact ⟨own_keepT hf8.own fun g hg => heap_setCell_other _ _ _ _ (nS hf8.own (by decide) g hg), fun s hs => own_keepT (hf8.each s hs) fun g hg => heap_setCell_other _ _ _ _ (nS (hf8.each s hs) (by decide) g hg), hf8.apart⟩
structure TsS (wt : World) (L X : Nat) (a : Option Addr) (c : Nat) (l : List Tk) (j : Nat) (ok : Bool) (nm : ByteArray) (v : Value) (ps : List (G.Fd × Value)) (W : World) : Prop where
  rd : RsSt W L a c l j ok false
  bx : W.heap[X]? = some (.cells #[.string nm, v] 49 (0, 0))
  gr : wt.grownBy W (some L)
  fs : FdsAt wt.heap.size W v ps
  hL : L < wt.heap.size
  hX : wt.heap.size ≤ X
theorem TsS.call {wt : World} {L X c j j' : Nat} {ok ok' : Bool} {a : Option Addr} {l : List Tk} {nm : ByteArray} {v : Value} {ps : List (G.Fd × Value)} {W W' : World} (h : TsS wt L X a c l j ok nm v ps W) (hr : RsSt W' L a c l j' ok' false) (hg : W.grownBy W' (some L)) : TsS wt L X a c l j' ok' nm v ps W' :=
  ⟨hr, grown_keeps h.bx (Array.getElem?_eq_some_iff.1 h.bx).1 hg (by have := h.hL; have := h.hX; omega), grown_trans h.gr hg, h.fs.grow hg h.hL, h.hL, h.hX⟩
theorem TsS.same {wt : World} {L X c j : Nat} {ok : Bool} {a : Option Addr} {l : List Tk} {nm : ByteArray} {v : Value} {ps : List (G.Fd × Value)} {W : World} (h : TsS wt L X a c l j ok nm v ps W) : TsS wt L X a c l j ok nm v ps W.drew :=
  h.call (h.rd.keep fun _ _ => rfl) (grown_drew (grown_refl W _))
/-- What was read of a field: it, or a fault. -/
def FdSaid (l : List Tk) (k : Nat) (x : G.Fd) (q : Nat) (ok : Bool) : Prop := q ≤ l.length + 1 ∧ (ok = true → q ≤ l.length ∧ FdR l k (some (x, q))) ∧ (ok = false → FdR l k none)
structure GotS (wt wd : World) (L X : Nat) (a : Option Addr) (c : Nat) (l : List Tk) (k : Nat) (nm : ByteArray) (v : Value) (ps : List (G.Fd × Value)) (x : G.Fd) (q : Nat) (ok : Bool) (aA : Option Addr) (cA : Nat) (W : World) : Prop where
  st : TsS wt L X a c l q ok nm v ps W
  fd : FdSaid l k x q ok
  av : W.ownsRow wd.heap.size 79 2 (.slice aA x.args.length cA) x.args.length (agVs x.args)
structure PutS (wt : World) (L X : Nat) (a : Option Addr) (c : Nat) (l : List Tk) (k : Nat) (nm : ByteArray) (v : Value) (ps : List (G.Fd × Value)) (x : G.Fd) (q : Nat) (ok : Bool) (aA : Option Addr) (cA g8 cap8 : Nat) (W : World) : Prop where
  rd : RsSt W L a c l q ok false
  bx : W.heap[X]? = some (.cells #[.string nm, v] 49 (0, 0))
  gr : wt.grownBy W (some L)
  fs : FdsAt wt.heap.size W (.slice (some ⟨g8, 0, none⟩) (ps.length + 1) cap8) (ps ++ [(x, .slice aA x.args.length cA)])
  fd : FdSaid l k x q ok
theorem GotS.put {wt wd : World} {L X c k q cA cv : Nat} {ok : Bool} {a aA av : Option Addr} {l : List Tk} {nm : ByteArray} {ps : List (G.Fd × Value)} {x : G.Fd} {W : World} (h : GotS wt wd L X a c l k nm (.slice av ps.length cv) ps x q ok aA cA W) (hwd : wt.heap.size ≤ wd.heap.size) (hN : ∀ i (hi : i < ps.length) g, ps[i].2.ownBlock = some g → g < wd.heap.size) (hl : ps.length + 1 ≤ 1048576) :
    ∃ g8 cap8 W8, (Builtin.append_ #[47, 47] 47 #[.slice av ps.length cv, .slice (some ⟨W.heap.size, 0, none⟩) 1 1]).run Tryz.prog (W.alloc (.cells (fdC x aA cA) 53)) = .ok (.slice (some ⟨g8, 0, none⟩) (ps.length + 1) cap8) W8 ∧ PutS wt L X a c l k nm (.slice av ps.length cv) ps x q ok aA cA g8 cap8 W8 := by
  obtain ⟨ig, hig, hzg, hsg, hbg⟩ := info_fdd
  obtain ⟨U, hU⟩ : ∃ U, U = W.alloc (.cells (fdC x aA cA) 53) := ⟨_, rfl⟩
  have BU : Below W.heap.size W U := by rw [hU]; exact (Below.refl _ _).alloc (Nat.le_refl _) _
  have cU : U.heap[W.heap.size]? = some (.cells (fdC x aA cA) 53 (0, 0)) := by rw [hU]; exact heap_alloc_new _ _
  have gs := h.st.gr.size
  have hsz := BU.size
  have O3 : U.ownsRow wt.heap.size 53 5 (.slice av ps.length cv) ps.length (fdVs ps) := own_keepT h.st.fs.own fun g hg => BU.block g (World.ownsRow.lt h.st.fs.own g hg).2
  obtain ⟨g8, cap8, W8, hrun, o8, gr8, hat8, hlt8⟩ := run_append_lies (P := Tryz.prog) U 47 47 wt.heap.size 53 ig _ 5 64 Tryz.underlying47 hig hzg hsg hbg rfl (by decide) (.slice av ps.length cv) ps.length (fdVs ps) O3 ⟨W.heap.size, 0, none⟩ 1 1 (fdC x aA cA).toList rfl (fun t u ht => by
    rw [add_plain]
    have := row_cell cU (0 + t)
    rw [this, ← ht]
    simp) (fun u hu => by
      simp only [List.mem_cons, List.not_mem_nil, or_false] at hu
      rcases hu with rfl | rfl | rfl | rfl | rfl <;> rfl) (by omega) (by unfold maxLen; omega) (by omega) (by omega) _ rfl
  rw [← hU]
  refine ⟨g8, cap8, W8, hrun, ?_⟩
  have off : ∀ g, (Value.slice av ps.length cv).ownBlock = some g → wt.heap.size ≤ g := fun g hg => (World.ownsRow.lt O3 g hg).1
  have kp : ∀ g, g < W.heap.size → (Value.slice av ps.length cv).ownBlock ≠ some g → W8.heap[g]? = W.heap[g]? := fun g h1 h2 => (gr8.block g (by omega) (fun e => h2 e.symm)).trans (BU.block g h1)
  have hL := h.st.hL
  have nty : ∀ g cs, W.heap[g]? = some (.cells cs 49 (0, 0)) → (Value.slice av ps.length cv).ownBlock ≠ some g := fun g cs hc he => by
    rcases h.st.fs.own.2 with ⟨e1, _⟩ | ⟨g1, c1, u1, e1, _, q1, _⟩
    · rw [e1] at he; simp [Value.ownBlock] at he
    · rw [e1] at he
      simp only [Value.ownBlock, Option.some.injEq] at he
      rw [he, hc] at q1
      simp at q1
  refine ⟨h.st.rd.keep fun g hg => kp g (by have := h.st.rd.lt; omega) (fun e => by have := off g e; omega), (kp X (Array.getElem?_eq_some_iff.1 h.st.bx).1 (nty X _ h.st.bx)).trans h.st.bx, grown_append (grown_below h.st.gr BU) gr8 off, ?_, h.fd⟩
  exact h.st.fs.push hN hwd h.av BU gr8 o8
/-- The round's drawing region: what is done, and the world then. -/
def TsJ (wt wd : World) (L X : Nat) (a : Option Addr) (c : Nat) (l : List Tk) (k : Nat) (nm : ByteArray) (v : Value) (ps : List (G.Fd × Value)) (D : Array Bool) (u : Nat → Value) (W : World) : Prop :=
  (D.getD 3 false = false ∧ D.getD 4 false = false ∧ D.getD 5 false = false ∧ W = wd) ∨
  (D.getD 3 false = true ∧ D.getD 4 false = false ∧ D.getD 5 false = false ∧ ∃ x q ok aA cA, GotS wt wd L X a c l k nm v ps x q ok aA cA W ∧ u 66 = .agg (fdC x aA cA)) ∨
  (D.getD 3 false = true ∧ D.getD 4 false = true ∧ D.getD 5 false = false ∧ ∃ x q ok aA cA W3, GotS wt wd L X a c l k nm v ps x q ok aA cA W3 ∧ W = W3.alloc (.cells (fdC x aA cA) 53) ∧ u 67 = .slice (some ⟨W3.heap.size, 0, none⟩) 1 1) ∨
  (D.getD 3 false = true ∧ D.getD 4 false = true ∧ D.getD 5 false = true ∧ ∃ x q ok aA cA g8 cap8, PutS wt L X a c l k nm v ps x q ok aA cA g8 cap8 W ∧ u 68 = .slice (some ⟨g8, 0, none⟩) (ps.length + 1) cap8)
theorem TsJ.other {wt wd : World} {L X c k : Nat} {a : Option Addr} {l : List Tk} {nm : ByteArray} {v : Value} {ps : List (G.Fd × Value)} {D : Array Bool} {u : Nat → Value} {W : World} (h : TsJ wt wd L X a c l k nm v ps D u W) {i d : Nat} {y : Value} (h3 : i ≠ 3) (h4 : i ≠ 4) (h5 : i ≠ 5) (d1 : d ≠ 66) (d2 : d ≠ 67) (d3 : d ≠ 68) : TsJ wt wd L X a c l k nm v ps (D.setIfInBounds i true) (G.upd u d y) W := by
  unfold TsJ at h ⊢
  rw [getD_set_ne false h3, getD_set_ne false h4, getD_set_ne false h5, G.upd_ne _ _ (Ne.symm d1), G.upd_ne _ _ (Ne.symm d2), G.upd_ne _ _ (Ne.symm d3)]
  exact h
theorem TsJ.box {wt wd : World} {L X c k : Nat} {a : Option Addr} {l : List Tk} {nm : ByteArray} {v : Value} {ps : List (G.Fd × Value)} {D : Array Bool} {u : Nat → Value} {W : World} (h : TsJ wt wd L X a c l k nm v ps D u W) (hb : wd.heap[X]? = some (.cells #[.string nm, v] 49 (0, 0))) : W.heap[X]? = some (.cells #[.string nm, v] 49 (0, 0)) := by
  rcases h with ⟨_, _, _, rfl⟩ | ⟨_, _, _, x, q, ok, aA, cA, g, _⟩ | ⟨_, _, _, x, q, ok, aA, cA, W3, g, rfl, _⟩ | ⟨_, _, _, x, q, ok, aA, cA, g8, cap8, g, _⟩
  · exact hb
  · exact g.st.bx
  · rw [Below.heap_alloc _ _ _ (by have := (Array.getElem?_eq_some_iff.1 g.st.bx).1; omega)]; exact g.st.bx
  · exact g.bx
/-- What reading a text as a schema tells. -/
def PaR (lx : List Tk × Int) (tds : List G.Td) (code : Int) : Prop :=
  (lx.2 ≠ 0 ∧ tds = [] ∧ code = lx.2) ∨ (lx.2 = 0 ∧ ((Many (eofB lx.1) (TdR lx.1) 0 none ∧ tds = [] ∧ code = 3) ∨ ∃ xs k, Many (eofB lx.1) (TdR lx.1) 0 (some (xs, k)) ∧ ((¬ G.SchOK xs ∧ tds = [] ∧ code = 1) ∨ (G.SchOK xs ∧ tds = xs ∧ code = 0))))
theorem PaR.one {lx : List Tk × Int} {t t' : List G.Td} {c c' : Int} (h : PaR lx t c) (h' : PaR lx t' c') : t = t' ∧ c = c' := by
  rcases h with ⟨h1, rfl, rfl⟩ | ⟨h1, h2⟩ <;> rcases h' with ⟨g1, rfl, rfl⟩ | ⟨g1, g2⟩
  · exact ⟨rfl, rfl⟩
  · exact absurd g1 h1
  · exact absurd h1 g1
  · rcases h2 with ⟨h2, rfl, rfl⟩ | ⟨xs, k, h2, h3⟩ <;> rcases g2 with ⟨g2, rfl, rfl⟩ | ⟨xs', k', g2, g3⟩
    · exact ⟨rfl, rfl⟩
    · cases Many.det (one := TdR lx.1) (fun i r r' q q' => TdR.det q q') h2 g2
    · cases Many.det (one := TdR lx.1) (fun i r r' q q' => TdR.det q q') h2 g2
    · cases Many.det (one := TdR lx.1) (fun i r r' q q' => TdR.det q q') h2 g2
      rcases h3 with ⟨h4, rfl, rfl⟩ | ⟨h4, rfl, rfl⟩ <;> rcases g3 with ⟨g4, rfl, rfl⟩ | ⟨g4, rfl, rfl⟩
      · exact ⟨rfl, rfl⟩
      · exact absurd g4 h4
      · exact absurd h4 g4
      · exact ⟨rfl, rfl⟩
/-- It is told, in memory of its own. -/
def PaIs (lx : List Tk × Int) (w : World) (e : Ending) (w' : World) : Prop :=
  ∃ (tds : List G.Td) (a : Option Addr) (c : Nat) (code : Int) (bs : List Nat), e = .returned (.tuple #[.agg #[.slice a tds.length c], .int .i64 code]) ∧ PaR lx tds code ∧ G.TdOwn w' a tds bs ∧ bs.Nodup ∧ (∀ g ∈ bs, w.heap.size ≤ g ∧ g < w'.heap.size) ∧ Below w.heap.size w w'
end Go.Proofs.YtnfoinmccigdfaaGreatDoor
