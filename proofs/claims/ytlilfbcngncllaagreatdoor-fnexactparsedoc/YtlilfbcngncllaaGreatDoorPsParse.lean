/- The specification reads a document: written by wip/tools/psparse.py. -/
import Derived.Test.YtlilfbcngncllaaGreatDoorPsDef
import Derived.Test.YtlilfbcngncllaaGreatDoorPdImpl
import Derived.Test.YtlilfbcngncllaaGreatDoorDocSpecOK
namespace Go.Proofs.YtlilfbcngncllaaGreatDoor
open Go.ChangeShapes Go.WideShapes Go.ChangeAt Go.RowKit
set_option linter.unusedVariables false

/-- Definitions that are read behind what was read. -/
structure LpD (P : PR (List De)) (l : List Tk) (ok dp : Bool) (ds : List De) (k : Nat) : Prop where
  le : k ≤ l.length + 1
  yes : ok = true → dp = false ∧ k ≤ l.length ∧ ds.length ≤ k ∧ ((ds = [] ∧ P = (pDoc (l.drop k)).preD []) ∨ (ds ≠ [] ∧ P = (pTl (l.drop k)).preD ds))
  no : ok = false → (P = .form ∧ dp = false) ∨ (P = .deep ∧ dp = true)
theorem LpD.more {P : PR (List De)} {l : List Tk} {dp : Bool} {ds : List De} {k : Nat} (H : LpD P l true dp ds k) (hc : k < l.length ∨ ds = []) : P = (pDoc (l.drop k)).preD ds := by
  obtain ⟨_, hk, _, ⟨e, hP⟩ | ⟨e, hP⟩⟩ := H.yes rfl
  · rw [hP, e]
  · rw [hP]
    unfold pTl
    rw [if_neg (by simp only [List.length_drop]; rcases hc with h | h; omega; exact absurd h e)]
theorem LpD.step {P : PR (List De)} {l : List Tk} {dp ok' dp' : Bool} {ds : List De} {x : De} {k j : Nat} (H : LpD P l true dp ds k) (hc : k < l.length ∨ ds = []) (A : Af (pDef (l.drop k)) l true dp ok' dp' x j) : LpD P l ok' dp' (ds ++ [x]) j ∧ (ok' = true → k < j) := by
  have hP := H.more hc
  obtain ⟨hd, hk, hl, _⟩ := H.yes rfl
  refine ⟨⟨A.le, fun q => ?_, fun q => ?_⟩, fun q => ?_⟩
  · obtain ⟨_, h2, h3, h4⟩ := A.yes q
    have := drop_lt (r := l) h3 (pDef_len h4)
    exact ⟨h2.trans hd, h3, by simp; omega, .inr ⟨by simp, hP.trans (pDoc_ok h4 ds)⟩⟩
  · rcases A.no q with ⟨e, _⟩ | ⟨_, e, e2⟩ | ⟨_, e, e2⟩
    · cases e
    · exact .inl ⟨hP.trans (pDoc_form e ds), e2.trans hd⟩
    · exact .inr ⟨hP.trans (pDoc_deep e ds), e2⟩
  · obtain ⟨_, _, h3, h4⟩ := A.yes q
    exact drop_lt (r := l) h3 (pDef_len h4)
theorem LpD.end_ {P : PR (List De)} {l : List Tk} {dp : Bool} {ds : List De} {k : Nat} (H : LpD P l true dp ds k) (hk : ¬ k < l.length) (hn : ds ≠ []) : P = .ok ds (l.drop k) := by
  obtain ⟨_, hk2, _, ⟨e, hP⟩ | ⟨e, hP⟩⟩ := H.yes rfl
  · exact absurd e hn
  · rw [hP]
    unfold pTl
    rw [if_pos (by simp only [List.length_drop]; omega)]
    simp [PR.preD]
/-- A document while the specification reads it. -/
structure PcS (w : World) (L R A : Nat) (a : Option Addr) (c : Nat) (l : List Tk) (j : Nat) (ok dp : Bool) (V : Value) (W : World) : Prop where
  rd : RsSt W L a c l j ok dp
  r : W.heap[R]? = some (.cells #[.slice none 0 0] 24 (0, 0))
  bx : W.heap[A]? = some (.cells #[V] 24 (0, 0))
  gr : w.grownBy W (some L)
  hL : L < w.heap.size
  hR : R < L
  hA : L < A
theorem PcS.call {w : World} {L R A c : Nat} {a : Option Addr} {l : List Tk} {j j' : Nat} {ok dp ok' dp' : Bool} {V : Value} {W W' : World} (h : PcS w L R A a c l j ok dp V W) (hr : RsSt W' L a c l j' ok' dp') (hg : W.grownBy W' (some L)) : PcS w L R A a c l j' ok' dp' V W' :=
  ⟨hr, grown_keeps h.r (Array.getElem?_eq_some_iff.1 h.r).1 hg (by have := h.hL; have := h.hR; omega), grown_keeps h.bx (Array.getElem?_eq_some_iff.1 h.bx).1 hg (by have := h.hL; have := h.hR; have := h.hA; omega), grown_trans h.gr hg, h.hL, h.hR, h.hA⟩
theorem PcS.same {w : World} {L R A c : Nat} {a : Option Addr} {l : List Tk} {j : Nat} {ok dp : Bool} {V : Value} {W : World} (h : PcS w L R A a c l j ok dp V W) : PcS w L R A a c l j ok dp V W.drew :=
  h.call (h.rd.keep fun _ _ => rfl) (grown_drew (grown_refl W _))
structure GotS (w wd : World) (L R A : Nat) (a : Option Addr) (c : Nat) (l : List Tk) (k : Nat) (dp : Bool) (V : Value) (ds : List De) (x : De) (q : Nat) (okx dpx : Bool) (a5 : Option Addr) (c5 : Nat) (W : World) : Prop where
  st : PcS w L R A a c l q okx dpx V W
  old : DcO w.heap.size R A wd.heap.size V ds W
  td : Af (pDef (l.drop k)) l true dp okx dpx x q
  row : RowB wd.heap.size W (.slice a5 x.sels.len c5) x.sels
structure PutS (w wd : World) (L R A : Nat) (a : Option Addr) (c : Nat) (l : List Tk) (k : Nat) (dp : Bool) (V : Value) (ds : List De) (x : De) (q : Nat) (okx dpx : Bool) (g8 cap8 : Nat) (W : World) : Prop where
  st : PcS w L R A a c l q okx dpx V W
  new : DcO w.heap.size R A W.heap.size (.slice (some ⟨g8, 0, none⟩) (ds.length + 1) cap8) (ds ++ [x]) W
  td : Af (pDef (l.drop k)) l true dp okx dpx x q
theorem GotS.put {w wd : World} {L R A c k q c5 cV : Nat} {dp okx dpx : Bool} {a a5 aV : Option Addr} {l : List Tk} {ds : List De} {x : De} {W : World} (h : GotS w wd L R A a c l k dp (.slice aV ds.length cV) ds x q okx dpx a5 c5 W) (hwd : w.heap.size ≤ wd.heap.size) (hAd : A < wd.heap.size) (hl : ds.length + 1 ≤ 1048577) :
    ∃ g8 cap8 W8, (Builtin.append_ #[22, 22] 22 #[(.slice aV ds.length cV), .slice (some ⟨W.heap.size, 0, none⟩) 1 1]).run Tryz.prog (W.alloc (.cells (deC x a5 c5) 47)) = .ok (.slice (some ⟨g8, 0, none⟩) (ds.length + 1) cap8) W8 ∧ PutS w wd L R A a c l k dp (.slice aV ds.length cV) ds x q okx dpx g8 cap8 W8 := by
  obtain ⟨ig, hig, hzg, hsg, hbg⟩ := info_defS
  obtain ⟨U, hU⟩ : ∃ U, U = W.alloc (.cells (deC x a5 c5) 47) := ⟨_, rfl⟩
  have BU : Below W.heap.size W U := by rw [hU]; exact (Below.refl _ _).alloc (Nat.le_refl _) _
  have cU : U.heap[W.heap.size]? = some (.cells (deC x a5 c5) 47 (0, 0)) := by rw [hU]; exact heap_alloc_new _ _
  have gs := h.st.gr.size
  have hsz := BU.size
  have hL := h.st.hL
  have hR := h.st.hR
  have hRW := (Array.getElem?_eq_some_iff.1 h.st.r).1
  have hA := h.st.hA
  have hAW := (Array.getElem?_eq_some_iff.1 h.st.bx).1
  obtain ⟨vs, bs, K, F⟩ := h.old
  obtain ⟨ws, bk, RK⟩ := h.row
  have KU := K.keep hsz fun g hg => BU.block g (K.all g hg).2
  obtain ⟨g8, cap8, W8, hrun, o8, gr8, hat8, hlt8⟩ := run_append_lies (P := Tryz.prog) U 22 22 w.heap.size 47 ig _ 4 64 Tryz.underlying22 hig hzg hsg hbg rfl (by decide) (.slice aV ds.length cV) ds.length vs KU.own ⟨W.heap.size, 0, none⟩ 1 1 (deC x a5 c5).toList rfl (fun t u ht => by
    rw [add_plain]
    have := row_cell cU (0 + t)
    rw [this, ← ht]
    simp) (fun u hu => by
      simp only [List.mem_cons, List.not_mem_nil, or_false] at hu
      rcases hu with rfl | rfl | rfl | rfl <;> rfl) (by omega) (by unfold maxLen; omega) (by omega) (by omega) _ rfl
  rw [← hU]
  refine ⟨g8, cap8, W8, hrun, ?_⟩
  have far : ∀ g, (Value.slice aV ds.length cV).ownBlock = some g → w.heap.size ≤ g ∧ g ≠ R ∧ g ≠ A := fun g hg => ⟨(World.ownsRow.lt K.own g hg).1, (F g (List.mem_append_left _ (mem_blk hg))).1, (F g (List.mem_append_left _ (mem_blk hg))).2.1⟩
  have kp : ∀ g, g < W.heap.size → (Value.slice aV ds.length cV).ownBlock ≠ some g → W8.heap[g]? = W.heap[g]? := fun g h1 h2 => (gr8.block g (by omega) (fun e => h2 e.symm)).trans (BU.block g h1)
  have P := DocK.push (x := x) (n8 := ds.length + 1) (c8 := cap8) K (fun g hg => (F g hg).2.2) hwd RK BU gr8 hat8 (by rw [List.length_append]; exact o8)
  have hzU : U.heap.size = W.heap.size + 1 := by rw [hU]; simp
  refine ⟨⟨h.st.rd.keep fun g hg => kp g (by have := h.st.rd.lt; omega) (fun e => by have := (far g e).1; omega), (kp R hRW (fun e => (far R e).2.1 rfl)).trans h.st.r, (kp A hAW (fun e => (far A e).2.2 rfl)).trans h.st.bx, grown_append (grown_below h.st.gr BU) gr8 (fun g e => (far g e).1), hL, hR, hA⟩, ⟨_, _, P, fun g hg => ⟨?_, ?_, (P.all g hg).2⟩⟩, h.td⟩
  all_goals
    rcases List.mem_append.1 hg with hg | hg
    · have e8 : g = g8 := by simpa [blk, Value.ownBlock] using hg
      rcases hat8 with e | e
      · rw [e8]; first | exact (far g8 e).2.1 | exact (far g8 e).2.2
      · omega
    · rcases List.mem_append.1 hg with hg | hg
      · first | exact (F g (List.mem_append_right _ hg)).1 | exact (F g (List.mem_append_right _ hg)).2.1
      · have := (RK.all g hg).1; omega
def PsJ (w wd : World) (L R A : Nat) (a : Option Addr) (c : Nat) (l : List Tk) (k : Nat) (dp : Bool) (V : Value) (ds : List De) (D : Array Bool) (u : Nat → Value) (W : World) : Prop :=
  (D.getD 3 false = false ∧ D.getD 4 false = false ∧ D.getD 5 false = false ∧ W = wd) ∨
  (D.getD 3 false = true ∧ D.getD 4 false = false ∧ D.getD 5 false = false ∧ ∃ x q okx dpx a5 c5, GotS w wd L R A a c l k dp V ds x q okx dpx a5 c5 W ∧ u 44 = .agg (deC x a5 c5)) ∨
  (D.getD 3 false = true ∧ D.getD 4 false = true ∧ D.getD 5 false = false ∧ ∃ x q okx dpx a5 c5 W3, GotS w wd L R A a c l k dp V ds x q okx dpx a5 c5 W3 ∧ W = W3.alloc (.cells (deC x a5 c5) 47) ∧ u 45 = .slice (some ⟨W3.heap.size, 0, none⟩) 1 1) ∨
  (D.getD 3 false = true ∧ D.getD 4 false = true ∧ D.getD 5 false = true ∧ ∃ x q okx dpx g8 cap8, PutS w wd L R A a c l k dp V ds x q okx dpx g8 cap8 W ∧ u 46 = .slice (some ⟨g8, 0, none⟩) (ds.length + 1) cap8)
theorem PsJ.other {w wd : World} {L R A c k : Nat} {a : Option Addr} {l : List Tk} {dp : Bool} {V : Value} {ds : List De} {D : Array Bool} {u : Nat → Value} {W : World} (h : PsJ w wd L R A a c l k dp V ds D u W) {i d : Nat} {y : Value} (h3 : i ≠ 3) (h4 : i ≠ 4) (h5 : i ≠ 5) (d1 : d ≠ 44) (d2 : d ≠ 45) (d3 : d ≠ 46) : PsJ w wd L R A a c l k dp V ds (D.setIfInBounds i true) (G.upd u d y) W := by
  unfold PsJ at h ⊢
  rw [getD_set_ne false h3, getD_set_ne false h4, getD_set_ne false h5, G.upd_ne _ _ (Ne.symm d1), G.upd_ne _ _ (Ne.symm d2), G.upd_ne _ _ (Ne.symm d3)]
  exact h
theorem PsJ.box {w wd : World} {L R A c k : Nat} {a : Option Addr} {l : List Tk} {dp : Bool} {V : Value} {ds : List De} {D : Array Bool} {u : Nat → Value} {W : World} (h : PsJ w wd L R A a c l k dp V ds D u W) (hb : wd.heap[A]? = some (.cells #[V] 24 (0, 0))) : W.heap[A]? = some (.cells #[V] 24 (0, 0)) := by
  rcases h with ⟨_, _, _, rfl⟩ | ⟨_, _, _, x, q, okx, dpx, a5, c5, g, _⟩ | ⟨_, _, _, x, q, okx, dpx, a5, c5, W3, g, rfl, _⟩ | ⟨_, _, _, x, q, okx, dpx, g8, cap8, g, _⟩
  · exact hb
  · exact g.st.bx
  · rw [Below.heap_alloc _ _ _ (by have := (Array.getElem?_eq_some_iff.1 g.st.bx).1; omega)]; exact g.st.bx
  · exact g.st.bx
set_option maxHeartbeats 16000000 in
set_option maxRecDepth 40000 in
theorem spec_l02Parse (s : ByteArray) (w : World) (hs : s.size ≤ 65536) : Calls Tryz.prog 9 #[.string s] w (DpIs (lexB s) w) := by
  have hlb : lexB s = lexR s 0 [] := by unfold lexB; rw [if_neg (by omega)]
  obtain ⟨V, hV⟩ : ∃ V, V = w.alloc (.cells #[.slice none 0 0] 24) := ⟨_, rfl⟩
  have BV : Hid (Below w.heap.size w V) := by rw [Hid, hV]; exact (Below.refl _ _).alloc (Nat.le_refl _) _
  have cV : Hid (V.heap[w.heap.size]? = some (.cells #[.slice none 0 0] 24 (0, 0))) := by rw [Hid, hV]; exact heap_alloc_new _ _
  have zV : w.heap.size < V.heap.size := by rw [hV]; simp
  have HQ : Hid _ := spec_lex s V hs
  rw [← hlb] at HQ
  obtain ⟨l, cd, hl⟩ : ∃ l cd, lexB s = (l, cd) := ⟨_, _, rfl⟩
  rw [hl] at HQ ⊢
  have HLX : Hid (TkG l ∧ l.length ≤ 4000 ∧ TkBd2 65540 l) := lexB_g hl
  have hll := HLX.out.2.1
  have HG : Hid (TkG l) := HLX.out.1
  clear hl hlb hs
  go_enter Tryz.func9, Tryz.ntmps9
  go_upto_region 1 with fail
  rw [← hV]
  clear hV
  go_wp2_with fail
  refine Calls.mono HQ.out ?_
  rintro e w1 ⟨a, c, rfl, o1, b1⟩
  have z1 := b1.size
  have B1 : Hid (Below w.heap.size w w1) := BV.out.trans (b1.mono (by omega))
  have C1 : Hid (w1.heap[w.heap.size]? = some (.cells #[.slice none 0 0] 24 (0, 0))) := (b1.block _ zV).trans cV.out
  have RT : Hid (TkRow 0 w1.heap.size w1 a l) := (own_tkRow o1).out (Nat.zero_le _) (Nat.le_refl _) (fun _ _ _ h => h)
  clear o1 b1 HQ BV cV
  by_cases hc0 : cd = 0
  case neg =>
    have hcb : (cd != 0) = true := by rw [bne_iff_ne]; exact hc0
    have HE : Hid (DpR (l, cd) [] cd) := .inl ⟨hc0, rfl, rfl⟩
    have x1 := fun o => row_cell C1.out o
    have f1 := fun o => row_frozen C1.out o
    go_wp2_with fail
    refine bodyPost_ret (v := .tuple #[.agg #[.slice none 0 0], .int .i64 cd]) (by simp [results, Tryz.results9, go_sem, x1]) rfl ⟨[], none, 0, cd, [], [], rfl, HE.out, docK_nil _ _, ?_⟩
    repeat (refine Below.setCell ?_ (by simp) _)
    exact B1.out
  subst hc0
  obtain ⟨w0, hw0⟩ : ∃ z, z = w1.alloc (.cells #[.slice a l.length c, .int .i64 0, .bool true, .bool false] 44) := ⟨_, rfl⟩
  obtain ⟨U, hU⟩ : ∃ z, z = (w0.alloc (.cells #[] 47)).alloc (.cells #[.slice (some ⟨w1.heap.size + 1, 0, none⟩) 0 0] 24) := ⟨_, rfl⟩
  have z0 : w0.heap.size = w1.heap.size + 1 := by rw [hw0]; simp
  have B0 : Below w1.heap.size w1 w0 := by rw [hw0]; exact (Below.refl _ _).alloc (Nat.le_refl _) _
  have BU : Below w0.heap.size w0 U := by rw [hU]; exact ((Below.refl _ _).alloc (Nat.le_refl _) _).alloc (by simp) _
  have zU : w0.heap.size + 2 ≤ U.heap.size := by rw [hU]; simp
  have cr : w0.heap[w1.heap.size]? = some (.cells #[.slice a l.length c, .int .i64 0, .bool true, .bool false] 44 (0, 0)) := by rw [hw0]; exact heap_alloc_new _ _
  have ce : U.heap[w1.heap.size + 1]? = some (.cells #[] 47 (0, 0)) := by
    rw [hU, Below.heap_alloc _ _ _ (by simp; omega), ← z0]; exact heap_alloc_new _ _
  have cs : U.heap[w1.heap.size + 1 + 1]? = some (.cells #[.slice (some ⟨w1.heap.size + 1, 0, none⟩) 0 0] 24 (0, 0)) := by
    rw [hU, ← z0]
    have := heap_alloc_new (w0.alloc (.cells #[] 47)) (.cells #[.slice (some ⟨w0.heap.size, 0, none⟩) 0 0] 24)
    simpa using this
  go_upto_region 6 with fail
  rw [← hw0, ← hU]
  have BW0 : Hid (Below w.heap.size w w0) := B1.out.trans (B0.mono B1.out.size)
  have hR0 := (Array.getElem?_eq_some_iff.1 C1.out).1
  have P0 : Hid (PcS w0 w1.heap.size w.heap.size (w1.heap.size + 1 + 1) a c l 0 true false (.slice (some ⟨w1.heap.size + 1, 0, none⟩) ([] : List De).length 0) U) :=
    ⟨⟨(BU.block _ (by omega)).trans cr, RT.out.same fun g hg => (BU.block g (by omega)).trans (B0.block g hg)⟩, (BU.block _ (by omega)).trans ((B0.block _ hR0).trans C1.out), cs, grown_below (grown_refl _ _) BU, by omega, hR0, by omega⟩
  have O0 : Hid (DcO w0.heap.size w.heap.size (w1.heap.size + 1 + 1) U.heap.size (.slice (some ⟨w1.heap.size + 1, 0, none⟩) ([] : List De).length 0) [] U) := by
    refine ⟨[], [], ⟨⟨rfl, .inr ⟨w1.heap.size + 1, 0, #[], rfl, by omega, ce, Nat.le_refl _, Nat.zero_le _, rfl, rfl⟩⟩, ⟨rfl, rfl⟩, by rw [List.append_nil]; exact blk_nd _, fun g hg => by simp at hg⟩, fun g hg => ?_⟩
    rw [List.append_nil] at hg
    have := blk_mem hg
    simp only [Value.ownBlock, Option.some.injEq] at this
    omega
  obtain ⟨A, hA⟩ : ∃ z, z = w1.heap.size + 1 + 1 := ⟨_, rfl⟩
  obtain ⟨aZ, haZ⟩ : ∃ z : Option Addr, z = some ⟨w1.heap.size + 1, 0, none⟩ := ⟨_, rfl⟩
  obtain ⟨L, hLL⟩ : ∃ z, z = w1.heap.size := ⟨_, rfl⟩
  rw [← hA, ← haZ] at P0 O0 ⊢
  rw [← hLL] at P0 ⊢
  have HWL : Hid (w.heap.size < L) := by rw [Hid, hLL]; exact hR0
  have hLw : L < w0.heap.size := by omega
  have HA0 : Hid (w0.heap.size ≤ A) := by rw [Hid, hA]; omega
  have HZ0 : Hid (w.heap.size ≤ w0.heap.size) := BW0.out.size
  clear hw0 hU z0 B0 BU zU cr ce cs RT C1 B1 hA haZ hLL z1 zV hR0
  obtain ⟨P, HP⟩ : ∃ z, Hid (z = pDoc l) := ⟨_, rfl⟩
  have L0 : Hid (LpD P l true false [] 0) := ⟨by omega, fun _ => ⟨rfl, Nat.zero_le _, Nat.le_refl _, .inl ⟨rfl, by rw [HP.out, preD_nil]; rfl⟩⟩, fun q => (by cases q)⟩
  go_loopw [40] (fun _ w' => ∃ (ds : List De) (aV : Option Addr) (cV k : Nat) (ok dp : Bool), k ≤ l.length + 1 ∧ Hid (PcS w0 L w.heap.size A a c l k ok dp (.slice aV ds.length cV) w') ∧ Hid (DcO w0.heap.size w.heap.size A w'.heap.size (.slice aV ds.length cV) ds w') ∧ Hid (LpD P l ok dp ds k)) (fun _ w' => rsM (l.length + 3) w' L)
  case atStart => exact ⟨[], aZ, 0, 0, true, false, Nat.zero_le _, P0, O0, L0⟩
  case round =>
    obtain ⟨ds, aV, cV, k, ok, dp, hk, HS, HO, HL⟩ := hrel
    obtain ⟨wo, rfl⟩ : ∃ z, z = wr := ⟨_, rfl⟩
    clear P0 O0 L0
    have xL := fun o => row_cell HS.out.rd.cell o
    have BX : Hid (Below w.heap.size w wo) := BW0.out.grown HS.out.gr BW0.out.size (fun k e => by simp only [Option.some.injEq] at e; have := HWL.out; omega)
    cases ok with
    | false =>
      have xR := fun o => row_cell HS.out.r o
      have fR := fun o => row_frozen HS.out.r o
      have hRL := HS.out.hR
      rcases HL.out.no rfl with ⟨hP, hdp⟩ | ⟨hP, hdp⟩
      · have HE : Hid (DpR (l, 0) [] 3) := .inr ⟨rfl, .inl ⟨by rw [← HP.out]; exact hP, rfl, rfl⟩⟩
        subst hdp
        clear hP HS HO HL
        go_wp2_with fail
        refine bodyPost_ret (v := .tuple #[.agg #[.slice none 0 0], .int .i64 3]) (by simp [results, Tryz.results9, go_sem, xR]) rfl ⟨[], none, 0, 3, [], [], rfl, HE.out, docK_nil _ _, ?_⟩
        repeat (refine Below.setCell ?_ (by simp) _)
        exact BX.out
      · have HE : Hid (DpR (l, 0) [] 8) := .inr ⟨rfl, .inr (.inl ⟨by rw [← HP.out]; exact hP, rfl, rfl⟩)⟩
        subst hdp
        clear hP HS HO HL
        go_wp2_with fail
        refine bodyPost_ret (v := .tuple #[.agg #[.slice none 0 0], .int .i64 8]) (by simp [results, Tryz.results9, go_sem, xR]) rfl ⟨[], none, 0, 8, [], [], rfl, HE.out, docK_nil _ _, ?_⟩
        repeat (refine Below.setCell ?_ (by simp) _)
        exact BX.out
    | true =>
      have hdp := (HL.out.yes rfl).1
      subst hdp
      have HPO : Hid (rsM (l.length + 3) wo L = l.length + 3 - k) := rsM_true HS.out.rd
      have hk2 : k ≤ l.length := (HL.out.yes rfl).2.1
      have hdk : ds.length ≤ k := (HL.out.yes rfl).2.2.1
      have xA := fun o => row_cell HS.out.bx o
      by_cases hgo : k < l.length ∨ ds = []
      case neg =>
        have hltn : ¬ k < l.length := fun q => hgo (.inl q)
        have hdn : ds ≠ [] := fun q => hgo (.inr q)
        have hltI : ¬ (k : Int) < l.length := by omega
        have hdec : decide (k < l.length) = false := decide_eq_false hltn
        have hlen : ((ds.length : Int) == 0) = false := by
          cases ds with
          | nil => exact absurd rfl hdn
          | cons x y => simp; omega
        have hlen2 : ¬ ds.length = 0 := by intro q; exact hdn (List.length_eq_zero_iff.1 q)
        have hP := HL.out.end_ hltn hdn
        obtain ⟨vs, bs, K, F⟩ := HO.out
        have HBD : Hid (DefsBd 1048576 ds) := by
          rw [HP.out] at hP
          exact pDoc_bd hP ⟨by omega, fun t ht => by have := HLX.out.2.2 t ht; omega⟩
        have HQS : Hid _ := spec_doc aV cV ds wo ((K.row).wide (Nat.zero_le _) (Nat.le_refl _)) HBD.out.1 HBD.out.2
        have HPP : Hid (pDoc l = .ok ds (l.drop k)) := by rw [Hid, ← HP.out]; exact hP
        have HK : Hid (DocK w0.heap.size wo (.slice aV ds.length cV) ds vs bs ∧ ∀ g ∈ blk (.slice aV ds.length cV) ++ bs, g ≠ w.heap.size ∧ g ≠ A ∧ g < wo.heap.size) := ⟨K, F⟩
        clear hP K F HL HO hgo
        go_wp2_with fail
        refine Calls.mono HQS.out ?_
        rintro e w3 ⟨rfl, hb3⟩
        have P3 : Hid (PcS w0 L w.heap.size A a c l k true false (.slice aV ds.length cV) w3) := HS.out.call (HS.out.rd.below hb3) (grown_below (grown_refl wo _) hb3)
        have B3 : Hid (Below w.heap.size w w3) := BX.out.trans (hb3.mono BX.out.size)
        have K3 : Hid (DocK w0.heap.size w3 (.slice aV ds.length cV) ds vs bs) := HK.out.1.keep hb3.size fun g hg => hb3.block g (HK.out.1.all g hg).2
        have xR := fun o => row_cell P3.out.r o
        have fR := fun o => row_frozen P3.out.r o
        have yA := fun o => row_cell P3.out.bx o
        have hRL := P3.out.hR
        obtain ⟨bb, HBB⟩ : ∃ z, Hid (z = docB ds) := ⟨_, rfl⟩
        rw [← HBB.out]
        clear hb3 HQS HS xL xA
        cases bb with
        | false =>
          have HE : Hid (DpR (l, 0) [] 6) := .inr ⟨rfl, .inr (.inr ⟨_, _, HPP.out, .inr ⟨HBB.out.symm, rfl, rfl⟩⟩)⟩
          go_wp2_with fail
          refine bodyPost_ret (v := .tuple #[.agg #[.slice none 0 0], .int .i64 6]) (by simp [results, Tryz.results9, go_sem, xR]) rfl ⟨[], none, 0, 6, [], [], rfl, HE.out, docK_nil _ _, ?_⟩
          repeat (refine Below.setCell ?_ (by simp) _)
          exact B3.out
        | true =>
          have HE : Hid (DpR (l, 0) ds 0) := .inr ⟨rfl, .inr (.inr ⟨_, _, HPP.out, .inl ⟨HBB.out.symm, rfl, rfl⟩⟩)⟩
          go_wp2_with fail
          refine bodyPost_ret (v := .tuple #[.agg #[.slice aV ds.length cV], .int .i64 0]) (by simp [results, Tryz.results9, go_sem, xR]) rfl ⟨ds, aV, cV, 0, vs, bs, rfl, HE.out, ?_, ?_⟩
          · refine (docK_low K3.out HZ0.out).keep (by simp) fun g hg => ?_
            have h1 := (HK.out.2 g hg).1
            exact heap_setCell_other _ _ _ _ (by show g ≠ w.heap.size; exact h1)
          · repeat (refine Below.setCell ?_ (by simp) _)
            exact B3.out
      case pos =>
        have HGO : Hid (k < l.length ∨ ds = []) := hgo
        obtain ⟨wd, hwd⟩ : ∃ z : World, z = wo.drew := ⟨_, rfl⟩
        have SD : Hid (PcS w0 L w.heap.size A a c l k true false (.slice aV ds.length cV) wd) := by rw [Hid, hwd]; exact HS.out.same
        have OD : Hid (DcO w0.heap.size w.heap.size A wd.heap.size (.slice aV ds.length cV) ds wd) := by rw [Hid, hwd]; exact (HO.out.grow (grown_drew (grown_refl wo _)) hLw).at_
        have HWD : Hid (wd = wo.drew) := hwd
        have hwz := SD.out.gr.size
        have hAd := (Array.getElem?_eq_some_iff.1 SD.out.bx).1
        clear hwd HS HO
        have hcase : (k < l.length) ∨ (¬ k < l.length ∧ ds.length = 0) := by
          by_cases h : k < l.length
          · exact .inl h
          · rcases hgo with q | q
            · exact absurd q h
            · exact .inr ⟨h, by rw [q]; rfl⟩
        clear hgo
        rcases hcase with hlt | ⟨hltn, hd0⟩
        case inl =>
          have hltI : (k : Int) < l.length := by omega
          have hdec : decide (k < l.length) = true := decide_eq_true hlt
          go_upto_region 7 with fail
          refine G.region_rel5 (n := 7) (k := 1) (by omega) (by kernel_rfl) (by kernel_rfl) (by kernel_rfl) (fun u => ⟨#[.string s, undef, .pointer (some ⟨w.heap.size, 0, none⟩), .int .i64 0, .slice a l.length c, .int .i64 0, .pointer (some ⟨L, 0, none⟩), .pointer (some ⟨A, 0, none⟩), .tuple #[.slice a l.length c, .int .i64 0], .string s, .tuple #[.slice a l.length c, .int .i64 0], .slice a l.length c, .int .i64 0, .int .i64 0, .bool false, undef, undef, .slice a l.length c, .agg #[.slice a l.length c, .int .i64 0, .bool true, .bool false], .pointer (some ⟨L, 0, none⟩), .slice aZ 0 0, .agg #[.slice aZ 0 0], .pointer (some ⟨L, 0, none⟩), .pointer (some ⟨L, 0, none⟩), .pointer (some ⟨L, 2, none⟩), .bool true, .bool true, .pointer (some ⟨L, 0, none⟩), .pointer (some ⟨L, 0, none⟩), .pointer (some ⟨L, 1, none⟩), .int .i64 k, .slice a l.length c, .int .i64 l.length, .bool true, .bool true, undef, undef, undef, undef, .bool true, .bool true, u 41, u 42, u 43, u 44, u 45, u 46, u 47, undef, undef, undef, undef, undef, undef, undef, undef, undef, undef, undef, undef, undef, undef, undef, undef], []⟩) (fun nz => match nz with | 41 => u41 | 42 => u42 | 43 => u43 | 44 => u44 | 45 => u45 | 46 => u46 | 47 => u47 | _ => undef) (fun iz => iz + 41) (fun iz jz _ _ h => by omega)
            (fun iz y _ => match iz with | 0 => y = .pointer (some ⟨A, 0, none⟩) | 1 => y = .slice aV ds.length cV | 2 => y = .pointer (some ⟨L, 0, none⟩) | 6 => y = .pointer (some ⟨A, 0, none⟩) | _ => True) (fun D u W => PsJ w0 wd L w.heap.size A a c l k false (.slice aV ds.length cV) ds D u W) (.inl ⟨by simp, by simp, by simp, HWD.out.symm⟩) ?step ?last
          case step =>
            intro D u W iq hi hLs hLi hj hdep
            have HJ : Hid (PsJ w0 wd L w.heap.size A a c l k false (.slice aV ds.length cV) ds D u W) := hj
            have HLI : Hid _ := hLi
            have xA := fun o => row_cell (hj.box SD.out.bx) o
            have hcase : iq = 0 ∨ iq = 1 ∨ iq = 2 ∨ iq = 3 ∨ iq = 4 ∨ iq = 5 ∨ iq = 6 := by omega
            clear hj hLi hi hLs
            rcases hcase with rfl | rfl | rfl | rfl | rfl | rfl | rfl
            · clear hdep
              refine wpOp_step rfl (fun K hK => ?_)
              go_simp
              exact hK _ _ ⟨.pointer (some ⟨A, 0, none⟩), by simp [G.upd], fun _ _ h => h, rfl, HJ.out.other (by decide) (by decide) (by decide) (by decide) (by decide) (by decide)⟩
            · have d0 : u 41 = .pointer (some ⟨A, 0, none⟩) := (hdep _ rfl ⟨0, .data⟩ (by simp) rfl).2
              clear hdep
              refine wpOp_step rfl (fun K hK => ?_)
              go_simp
              exact hK _ _ ⟨.slice aV ds.length cV, by simp [G.upd, d0], fun _ _ h => h, rfl, HJ.out.other (by decide) (by decide) (by decide) (by decide) (by decide) (by decide)⟩
            · clear hdep
              refine wpOp_step rfl (fun K hK => ?_)
              go_simp
              exact hK _ _ ⟨.pointer (some ⟨L, 0, none⟩), by simp [G.upd], fun _ _ h => h, rfl, HJ.out.other (by decide) (by decide) (by decide) (by decide) (by decide) (by decide)⟩
            · have d2 : u 43 = .pointer (some ⟨L, 0, none⟩) := (hdep _ rfl ⟨2, .data⟩ (by simp) rfl).2
              obtain ⟨b4, b5, hW⟩ : D.getD 4 false = false ∧ D.getD 5 false = false ∧ W = wd := by
                have h3 := getD_notT HLI.out
                rcases HJ.out with ⟨_, h4, h5, e⟩ | ⟨h, _⟩ | ⟨h, _⟩ | ⟨h, _⟩
                · exact ⟨h4, h5, e⟩
                all_goals rw [h3] at h; cases h
              clear hdep HJ xA
              replace hW := hW.symm
              subst hW
              have HQF : Hid _ := ps_def L c k a l false wd SD.out.rd HG.out hk2
              refine wpOp_step rfl (fun K hK => ?_)
              go_simp
              refine Calls.mono HQF.out ?_
              rintro e w4 ⟨x, q, b5', e5, okx, dpx, rfl, ox, sx, hx, g4⟩
              refine hK _ _ ⟨.agg (deC x b5' e5), by simp [G.upd, d2, deC], fun _ _ h => h, trivial, .inr (.inl ⟨getD_putT HLI.out, ?_, ?_, x, q, okx, dpx, b5', e5, ⟨SD.out.call sx g4, OD.out.grow g4 hLw, hx, ox⟩, by rw [G.upd_at]⟩)⟩
              · rw [getD_set_ne false (by decide)]; exact b4
              · rw [getD_set_ne false (by decide)]; exact b5
            · have l3 := (hdep _ rfl ⟨3, .data⟩ (by simp) rfl).1
              obtain ⟨b5, x, q, okx, dpx, b5', e5, hgot, d3⟩ : D.getD 5 false = false ∧ ∃ x q okx dpx a5 c5, GotS w0 wd L w.heap.size A a c l k false (.slice aV ds.length cV) ds x q okx dpx a5 c5 W ∧ u 44 = .agg (deC x a5 c5) := by
                have h4 := getD_notT HLI.out
                rcases HJ.out with ⟨h, _⟩ | ⟨_, _, h5, e⟩ | ⟨_, h, _⟩ | ⟨_, h, _⟩
                · rw [l3] at h; cases h
                · exact ⟨h5, e⟩
                all_goals rw [h4] at h; cases h
              have HGOT : Hid _ := hgot
              clear hdep HJ xA hgot
              refine wpOp_step rfl (fun K hK => ?_)
              go_simp
              refine hK _ _ ⟨.slice (some ⟨W.heap.size, 0, none⟩) 1 1, by simp [G.upd, d3], fun _ _ h => h, trivial, .inr (.inr (.inl ⟨?_, getD_putT HLI.out, ?_, x, q, okx, dpx, b5', e5, W, HGOT.out, rfl, by rw [G.upd_at]⟩))⟩
              · rw [getD_set_ne false (by decide)]; exact l3
              · rw [getD_set_ne false (by decide)]; exact b5
            · have l4 := (hdep _ rfl ⟨4, .data⟩ (by simp) rfl).1
              have d1 : u 42 = .slice aV ds.length cV := (hdep _ rfl ⟨1, .data⟩ (by simp) rfl).2
              obtain ⟨l3, x, q, okx, dpx, b5', e5, W3, hgot, hW, d4⟩ : D.getD 3 false = true ∧ ∃ x q okx dpx a5 c5 W3, GotS w0 wd L w.heap.size A a c l k false (.slice aV ds.length cV) ds x q okx dpx a5 c5 W3 ∧ W = W3.alloc (.cells (deC x a5 c5) 47) ∧ u 45 = .slice (some ⟨W3.heap.size, 0, none⟩) 1 1 := by
                have h5 := getD_notT HLI.out
                rcases HJ.out with ⟨_, h, _⟩ | ⟨_, h, _⟩ | ⟨h3, _, _, e⟩ | ⟨_, _, h, _⟩
                · rw [l4] at h; cases h
                · rw [l4] at h; cases h
                · exact ⟨h3, e⟩
                · rw [h5] at h; cases h
              obtain ⟨g8, cap8, W8, hrun, hput⟩ := hgot.put hwz hAd (by omega)
              clear hdep HJ xA
              subst hW
              refine wpOp_step rfl (fun K hK => ?_)
              refine wp_append_runT (.tmp 42) (.tmp 45) _ rfl _ _ _ _ d1 d4 hrun ?_
              refine hK _ _ ⟨.slice (some ⟨g8, 0, none⟩) (ds.length + 1) cap8, by simp [Act.put, G.upd, d1, d4], fun _ _ h => h, trivial, .inr (.inr (.inr ⟨?_, ?_, getD_putT HLI.out, x, q, okx, dpx, g8, cap8, hput, by rw [G.upd_at]⟩))⟩
              · rw [getD_set_ne false (by decide)]; exact l3
              · rw [getD_set_ne false (by decide)]; exact l4
            · clear hdep
              refine wpOp_step rfl (fun K hK => ?_)
              go_simp
              exact hK _ _ ⟨.pointer (some ⟨A, 0, none⟩), by simp [G.upd], fun _ _ h => h, rfl, HJ.out.other (by decide) (by decide) (by decide) (by decide) (by decide) (by decide)⟩
          case last =>
            intro D u W hLs hD hj hp
            obtain ⟨x, q, okx, dpx, g8, cap8, hput, d5⟩ : ∃ x q okx dpx g8 cap8, PutS w0 wd L w.heap.size A a c l k false (.slice aV ds.length cV) ds x q okx dpx g8 cap8 W ∧ u 46 = .slice (some ⟨g8, 0, none⟩) (ds.length + 1) cap8 := by
              rcases hj with ⟨h, _⟩ | ⟨_, h, _⟩ | ⟨_, _, h, _⟩ | ⟨_, _, _, e⟩
              · rw [hD 3 (by omega)] at h; cases h
              · rw [hD 4 (by omega)] at h; cases h
              · rw [hD 5 (by omega)] at h; cases h
              · exact e
            have d6 : u 47 = .pointer (some ⟨A, 0, none⟩) := hp 6 (by omega)
            have HST : Hid _ := HL.out.step HGO.out hput.td
            have SN : Hid (PcS w0 L w.heap.size A a c l q okx dpx (.slice (some ⟨g8, 0, none⟩) (ds ++ [x]).length cap8) (W.setCell ⟨A, 0, none⟩ (.slice (some ⟨g8, 0, none⟩) (ds.length + 1) cap8))) := by
              have h1 := SD.out.hL
              have h2 := SD.out.hA
              refine ⟨hput.st.rd.keep fun g hg => heap_setCell_other _ _ _ _ (by show g ≠ A; omega), ?_, ?_, grown_new hput.st.gr HA0.out _, h1, SD.out.hR, h2⟩
              · rw [heap_setCell_other _ _ _ _ (by have := HWL.out; show w.heap.size ≠ A; omega)]; exact hput.st.r
              · have := row_set hput.st.bx 0 (.slice (some ⟨g8, 0, none⟩) (ds.length + 1) cap8)
                simpa using this
            have ON : Hid (DcO w0.heap.size w.heap.size A (W.setCell ⟨A, 0, none⟩ (.slice (some ⟨g8, 0, none⟩) (ds.length + 1) cap8)).heap.size (.slice (some ⟨g8, 0, none⟩) (ds ++ [x]).length cap8) (ds ++ [x]) (W.setCell ⟨A, 0, none⟩ (.slice (some ⟨g8, 0, none⟩) (ds.length + 1) cap8))) := by
              obtain ⟨vs, bs, K, F⟩ := hput.new
              rw [show (ds ++ [x]).length = ds.length + 1 by simp]
              have K2 := K.set (k := 0) (N := A) (.slice (some ⟨g8, 0, none⟩) (ds.length + 1) cap8) fun g hg => (F g hg).2.1
              exact ⟨vs, bs, K2, fun g hg => ⟨(F g hg).1, (F g hg).2.1, (K2.all g hg).2⟩⟩
            have HP8 : Hid (rsM (l.length + 3) (W.setCell ⟨A, 0, none⟩ (.slice (some ⟨g8, 0, none⟩) (ds.length + 1) cap8)) L < l.length + 3 - k) := rsM_any SN.out.rd (by omega) HST.out.2
            have HL8 : Hid (LpD P l okx dpx (ds ++ [x]) q) := HST.out.1
            have yA := fun o => row_cell hput.st.bx o
            have fA := fun o => row_frozen hput.st.bx o
            clear hp hj hD hput SD OD
            unfold G.wpTail
            refine wpOp_step rfl (fun K hK => ?_)
            go_simp
            refine hK _ _ ?_
            clear hK
            unfold G.wpTail
            go_wp2_with fail
            exact ⟨⟨ds ++ [x], some ⟨g8, 0, none⟩, cap8, q, okx, dpx, HST.out.1.le, SN, ON, HL8⟩, by rw [HPO.out]; exact HP8.out⟩
        case inr =>
          have hltI : ¬ (k : Int) < l.length := by omega
          have hdec : decide (k < l.length) = false := decide_eq_false hltn
          have hlen : ((ds.length : Int) == 0) = true := by rw [hd0]; rfl
          clear hd0
          go_upto_region 7 with fail
          refine G.region_rel5 (n := 7) (k := 1) (by omega) (by kernel_rfl) (by kernel_rfl) (by kernel_rfl) (fun u => ⟨#[.string s, undef, .pointer (some ⟨w.heap.size, 0, none⟩), .int .i64 0, .slice a l.length c, .int .i64 0, .pointer (some ⟨L, 0, none⟩), .pointer (some ⟨A, 0, none⟩), .tuple #[.slice a l.length c, .int .i64 0], .string s, .tuple #[.slice a l.length c, .int .i64 0], .slice a l.length c, .int .i64 0, .int .i64 0, .bool false, undef, undef, .slice a l.length c, .agg #[.slice a l.length c, .int .i64 0, .bool true, .bool false], .pointer (some ⟨L, 0, none⟩), .slice aZ 0 0, .agg #[.slice aZ 0 0], .pointer (some ⟨L, 0, none⟩), .pointer (some ⟨L, 0, none⟩), .pointer (some ⟨L, 2, none⟩), .bool true, .bool true, .pointer (some ⟨L, 0, none⟩), .pointer (some ⟨L, 0, none⟩), .pointer (some ⟨L, 1, none⟩), .int .i64 k, .slice a l.length c, .int .i64 l.length, .bool false, .bool false, .pointer (some ⟨A, 0, none⟩), .slice aV ds.length cV, .int .i64 ds.length, .bool true, .bool true, .bool true, u 41, u 42, u 43, u 44, u 45, u 46, u 47, undef, undef, undef, undef, undef, undef, undef, undef, undef, undef, undef, undef, undef, undef, undef, undef], []⟩) (fun nz => match nz with | 41 => u41 | 42 => u42 | 43 => u43 | 44 => u44 | 45 => u45 | 46 => u46 | 47 => u47 | _ => undef) (fun iz => iz + 41) (fun iz jz _ _ h => by omega)
            (fun iz y _ => match iz with | 0 => y = .pointer (some ⟨A, 0, none⟩) | 1 => y = .slice aV ds.length cV | 2 => y = .pointer (some ⟨L, 0, none⟩) | 6 => y = .pointer (some ⟨A, 0, none⟩) | _ => True) (fun D u W => PsJ w0 wd L w.heap.size A a c l k false (.slice aV ds.length cV) ds D u W) (.inl ⟨by simp, by simp, by simp, HWD.out.symm⟩) ?step ?last
          case step =>
            intro D u W iq hi hLs hLi hj hdep
            have HJ : Hid (PsJ w0 wd L w.heap.size A a c l k false (.slice aV ds.length cV) ds D u W) := hj
            have HLI : Hid _ := hLi
            have xA := fun o => row_cell (hj.box SD.out.bx) o
            have hcase : iq = 0 ∨ iq = 1 ∨ iq = 2 ∨ iq = 3 ∨ iq = 4 ∨ iq = 5 ∨ iq = 6 := by omega
            clear hj hLi hi hLs
            rcases hcase with rfl | rfl | rfl | rfl | rfl | rfl | rfl
            · clear hdep
              refine wpOp_step rfl (fun K hK => ?_)
              go_simp
              exact hK _ _ ⟨.pointer (some ⟨A, 0, none⟩), by simp [G.upd], fun _ _ h => h, rfl, HJ.out.other (by decide) (by decide) (by decide) (by decide) (by decide) (by decide)⟩
            · have d0 : u 41 = .pointer (some ⟨A, 0, none⟩) := (hdep _ rfl ⟨0, .data⟩ (by simp) rfl).2
              clear hdep
              refine wpOp_step rfl (fun K hK => ?_)
              go_simp
              exact hK _ _ ⟨.slice aV ds.length cV, by simp [G.upd, d0], fun _ _ h => h, rfl, HJ.out.other (by decide) (by decide) (by decide) (by decide) (by decide) (by decide)⟩
            · clear hdep
              refine wpOp_step rfl (fun K hK => ?_)
              go_simp
              exact hK _ _ ⟨.pointer (some ⟨L, 0, none⟩), by simp [G.upd], fun _ _ h => h, rfl, HJ.out.other (by decide) (by decide) (by decide) (by decide) (by decide) (by decide)⟩
            · have d2 : u 43 = .pointer (some ⟨L, 0, none⟩) := (hdep _ rfl ⟨2, .data⟩ (by simp) rfl).2
              obtain ⟨b4, b5, hW⟩ : D.getD 4 false = false ∧ D.getD 5 false = false ∧ W = wd := by
                have h3 := getD_notT HLI.out
                rcases HJ.out with ⟨_, h4, h5, e⟩ | ⟨h, _⟩ | ⟨h, _⟩ | ⟨h, _⟩
                · exact ⟨h4, h5, e⟩
                all_goals rw [h3] at h; cases h
              clear hdep HJ xA
              replace hW := hW.symm
              subst hW
              have HQF : Hid _ := ps_def L c k a l false wd SD.out.rd HG.out hk2
              refine wpOp_step rfl (fun K hK => ?_)
              go_simp
              refine Calls.mono HQF.out ?_
              rintro e w4 ⟨x, q, b5', e5, okx, dpx, rfl, ox, sx, hx, g4⟩
              refine hK _ _ ⟨.agg (deC x b5' e5), by simp [G.upd, d2, deC], fun _ _ h => h, trivial, .inr (.inl ⟨getD_putT HLI.out, ?_, ?_, x, q, okx, dpx, b5', e5, ⟨SD.out.call sx g4, OD.out.grow g4 hLw, hx, ox⟩, by rw [G.upd_at]⟩)⟩
              · rw [getD_set_ne false (by decide)]; exact b4
              · rw [getD_set_ne false (by decide)]; exact b5
            · have l3 := (hdep _ rfl ⟨3, .data⟩ (by simp) rfl).1
              obtain ⟨b5, x, q, okx, dpx, b5', e5, hgot, d3⟩ : D.getD 5 false = false ∧ ∃ x q okx dpx a5 c5, GotS w0 wd L w.heap.size A a c l k false (.slice aV ds.length cV) ds x q okx dpx a5 c5 W ∧ u 44 = .agg (deC x a5 c5) := by
                have h4 := getD_notT HLI.out
                rcases HJ.out with ⟨h, _⟩ | ⟨_, _, h5, e⟩ | ⟨_, h, _⟩ | ⟨_, h, _⟩
                · rw [l3] at h; cases h
                · exact ⟨h5, e⟩
                all_goals rw [h4] at h; cases h
              have HGOT : Hid _ := hgot
              clear hdep HJ xA hgot
              refine wpOp_step rfl (fun K hK => ?_)
              go_simp
              refine hK _ _ ⟨.slice (some ⟨W.heap.size, 0, none⟩) 1 1, by simp [G.upd, d3], fun _ _ h => h, trivial, .inr (.inr (.inl ⟨?_, getD_putT HLI.out, ?_, x, q, okx, dpx, b5', e5, W, HGOT.out, rfl, by rw [G.upd_at]⟩))⟩
              · rw [getD_set_ne false (by decide)]; exact l3
              · rw [getD_set_ne false (by decide)]; exact b5
            · have l4 := (hdep _ rfl ⟨4, .data⟩ (by simp) rfl).1
              have d1 : u 42 = .slice aV ds.length cV := (hdep _ rfl ⟨1, .data⟩ (by simp) rfl).2
              obtain ⟨l3, x, q, okx, dpx, b5', e5, W3, hgot, hW, d4⟩ : D.getD 3 false = true ∧ ∃ x q okx dpx a5 c5 W3, GotS w0 wd L w.heap.size A a c l k false (.slice aV ds.length cV) ds x q okx dpx a5 c5 W3 ∧ W = W3.alloc (.cells (deC x a5 c5) 47) ∧ u 45 = .slice (some ⟨W3.heap.size, 0, none⟩) 1 1 := by
                have h5 := getD_notT HLI.out
                rcases HJ.out with ⟨_, h, _⟩ | ⟨_, h, _⟩ | ⟨h3, _, _, e⟩ | ⟨_, _, h, _⟩
                · rw [l4] at h; cases h
                · rw [l4] at h; cases h
                · exact ⟨h3, e⟩
                · rw [h5] at h; cases h
              obtain ⟨g8, cap8, W8, hrun, hput⟩ := hgot.put hwz hAd (by omega)
              clear hdep HJ xA
              subst hW
              refine wpOp_step rfl (fun K hK => ?_)
              refine wp_append_runT (.tmp 42) (.tmp 45) _ rfl _ _ _ _ d1 d4 hrun ?_
              refine hK _ _ ⟨.slice (some ⟨g8, 0, none⟩) (ds.length + 1) cap8, by simp [Act.put, G.upd, d1, d4], fun _ _ h => h, trivial, .inr (.inr (.inr ⟨?_, ?_, getD_putT HLI.out, x, q, okx, dpx, g8, cap8, hput, by rw [G.upd_at]⟩))⟩
              · rw [getD_set_ne false (by decide)]; exact l3
              · rw [getD_set_ne false (by decide)]; exact l4
            · clear hdep
              refine wpOp_step rfl (fun K hK => ?_)
              go_simp
              exact hK _ _ ⟨.pointer (some ⟨A, 0, none⟩), by simp [G.upd], fun _ _ h => h, rfl, HJ.out.other (by decide) (by decide) (by decide) (by decide) (by decide) (by decide)⟩
          case last =>
            intro D u W hLs hD hj hp
            obtain ⟨x, q, okx, dpx, g8, cap8, hput, d5⟩ : ∃ x q okx dpx g8 cap8, PutS w0 wd L w.heap.size A a c l k false (.slice aV ds.length cV) ds x q okx dpx g8 cap8 W ∧ u 46 = .slice (some ⟨g8, 0, none⟩) (ds.length + 1) cap8 := by
              rcases hj with ⟨h, _⟩ | ⟨_, h, _⟩ | ⟨_, _, h, _⟩ | ⟨_, _, _, e⟩
              · rw [hD 3 (by omega)] at h; cases h
              · rw [hD 4 (by omega)] at h; cases h
              · rw [hD 5 (by omega)] at h; cases h
              · exact e
            have d6 : u 47 = .pointer (some ⟨A, 0, none⟩) := hp 6 (by omega)
            have HST : Hid _ := HL.out.step HGO.out hput.td
            have SN : Hid (PcS w0 L w.heap.size A a c l q okx dpx (.slice (some ⟨g8, 0, none⟩) (ds ++ [x]).length cap8) (W.setCell ⟨A, 0, none⟩ (.slice (some ⟨g8, 0, none⟩) (ds.length + 1) cap8))) := by
              have h1 := SD.out.hL
              have h2 := SD.out.hA
              refine ⟨hput.st.rd.keep fun g hg => heap_setCell_other _ _ _ _ (by show g ≠ A; omega), ?_, ?_, grown_new hput.st.gr HA0.out _, h1, SD.out.hR, h2⟩
              · rw [heap_setCell_other _ _ _ _ (by have := HWL.out; show w.heap.size ≠ A; omega)]; exact hput.st.r
              · have := row_set hput.st.bx 0 (.slice (some ⟨g8, 0, none⟩) (ds.length + 1) cap8)
                simpa using this
            have ON : Hid (DcO w0.heap.size w.heap.size A (W.setCell ⟨A, 0, none⟩ (.slice (some ⟨g8, 0, none⟩) (ds.length + 1) cap8)).heap.size (.slice (some ⟨g8, 0, none⟩) (ds ++ [x]).length cap8) (ds ++ [x]) (W.setCell ⟨A, 0, none⟩ (.slice (some ⟨g8, 0, none⟩) (ds.length + 1) cap8))) := by
              obtain ⟨vs, bs, K, F⟩ := hput.new
              rw [show (ds ++ [x]).length = ds.length + 1 by simp]
              have K2 := K.set (k := 0) (N := A) (.slice (some ⟨g8, 0, none⟩) (ds.length + 1) cap8) fun g hg => (F g hg).2.1
              exact ⟨vs, bs, K2, fun g hg => ⟨(F g hg).1, (F g hg).2.1, (K2.all g hg).2⟩⟩
            have HP8 : Hid (rsM (l.length + 3) (W.setCell ⟨A, 0, none⟩ (.slice (some ⟨g8, 0, none⟩) (ds.length + 1) cap8)) L < l.length + 3 - k) := rsM_any SN.out.rd (by omega) HST.out.2
            have HL8 : Hid (LpD P l okx dpx (ds ++ [x]) q) := HST.out.1
            have yA := fun o => row_cell hput.st.bx o
            have fA := fun o => row_frozen hput.st.bx o
            clear hp hj hD hput SD OD
            unfold G.wpTail
            refine wpOp_step rfl (fun K hK => ?_)
            go_simp
            refine hK _ _ ?_
            clear hK
            unfold G.wpTail
            go_wp2_with fail
            exact ⟨⟨ds ++ [x], some ⟨g8, 0, none⟩, cap8, q, okx, dpx, HST.out.1.le, SN, ON, HL8⟩, by rw [HPO.out]; exact HP8.out⟩
end Go.Proofs.YtlilfbcngncllaaGreatDoor
