/- The answer's rows, as they are read. -/
import Derived.Test.YtlilfbcngncllaaGreatDoorPdDefs
import Derived.Test.YtlilfbcngncllaaGreatDoorGRegionFive
import Derived.Test.YtlilfbcngncllaaGreatDoorPdVal
import Derived.Test.YtlilfbcngncllaaGreatDoorLexLoop
import Derived.Laws.OwnMore
namespace Go.Proofs.YtlilfbcngncllaaGreatDoor
open Go.ChangeShapes Go.WideShapes Go.ChangeAt Go.RowKit
set_option linter.unusedVariables false

theorem getD_notT {L : Array Bool} {i : Nat} (h : L.getD i true = false) : L.getD i false = false := by
  have := G.getD_lt h
  simp only [Array.getD, this, dite_true] at h ⊢
  exact h
theorem getD_putT {L : Array Bool} {i : Nat} (h : L.getD i true = false) : (L.setIfInBounds i true).getD i false = true := by
  have := G.getD_lt h
  simp [Array.getD, this]
theorem wp_append_runT {P : Program} {o : Oper} {a : Act} {K : Act → World → Prop} {Q : Exit → Act → World → Prop} {w : World} (s x : Operand) (t : TypeId)
    (ho : o.op = .call { callee := .builtin .append, args := #[s, x], argTypes := #[t, t] }) (sv xv rv : Value) (w' : World) (hs : a.eval s = sv) (hx : a.eval x = xv)
    (hr : (Builtin.append_ #[t, t] o.type #[sv, xv]).run P w = .ok rv w') (h : K (a.put o.dst rv) w') : o.wp P a w K Q := by
  unfold Oper.wp execOp
  simp only [ho, resolve, invoke, builtin, Sem.run_bind, Sem.run_pure, Result.andThen_ok, List.map_toArray, List.map_cons, List.map_nil, hs, hx, hr]
  exact h
/-- A document while it is read. -/
structure DcS (w : World) (L R A : Nat) (a : Option Addr) (c : Nat) (l : List Tk) (j : Nat) (V : Value) (W : World) : Prop where
  rd : RdSt 37 #[.int .i64 ((0 : Nat) : Int)] W L a c l j
  r : W.heap[R]? = some (.cells #[.slice none 0 0] 24 (0, 0))
  bx : W.heap[A]? = some (.cells #[V] 24 (0, 0))
  gr : w.grownBy W (some L)
  hL : L < w.heap.size
  hR : w.heap.size ≤ R
  hA : R < A
theorem DcS.call {w : World} {L R A c : Nat} {a : Option Addr} {l : List Tk} {j j' : Nat} {V : Value} {W W' : World} (h : DcS w L R A a c l j V W) (hr : RdSt 37 #[.int .i64 ((0 : Nat) : Int)] W' L a c l j') (hg : W.grownBy W' (some L)) : DcS w L R A a c l j' V W' :=
  ⟨hr, grown_keeps h.r (Array.getElem?_eq_some_iff.1 h.r).1 hg (by have := h.hL; have := h.hR; omega), grown_keeps h.bx (Array.getElem?_eq_some_iff.1 h.bx).1 hg (by have := h.hL; have := h.hR; have := h.hA; omega), grown_trans h.gr hg, h.hL, h.hR, h.hA⟩
theorem DcS.same {w : World} {L R A c : Nat} {a : Option Addr} {l : List Tk} {j : Nat} {V : Value} {W : World} (h : DcS w L R A a c l j V W) : DcS w L R A a c l j V W.drew :=
  h.call (h.rd.keep fun _ _ => rfl) (grown_drew (grown_refl W _))
/-- Its definitions' row: off the two blocks, below M. -/
def DcO (base R A M : Nat) (V : Value) (ds : List De) (W : World) : Prop := ∃ vs bs, DocK base W V ds vs bs ∧ ∀ g ∈ blk V ++ bs, g ≠ R ∧ g ≠ A ∧ g < M
theorem DcO.grow {base R A M L : Nat} {V : Value} {ds : List De} {W W' : World} (h : DcO base R A M V ds W) (hg : W.grownBy W' (some L)) (hL : L < base) : DcO base R A M V ds W' := by
  obtain ⟨vs, bs, k, f⟩ := h
  exact ⟨vs, bs, k.grow hg hL, f⟩
theorem DcO.at_ {base R A M : Nat} {V : Value} {ds : List De} {W : World} (h : DcO base R A M V ds W) : DcO base R A W.heap.size V ds W := by
  obtain ⟨vs, bs, k, f⟩ := h
  exact ⟨vs, bs, k, fun g hg => ⟨(f g hg).1, (f g hg).2.1, (k.all g hg).2⟩⟩
/-- A document is told, or a fault. -/
def DocP (L : Nat) (l : List Tk) (R : PR (List De)) (w : World) (e : Ending) (w' : World) : Prop :=
  ((∃ ds r a' c' vs bs, R = .ok ds r ∧ e = .returned (.agg #[.slice a' ds.length c']) ∧ DocK w.heap.size w' (.slice a' ds.length c') ds vs bs) ∨ (R = .form ∧ badF e) ∨ (R = .deep ∧ deepF e)) ∧ w.grownBy w' (some L)
theorem results_doc (tmps : Array Value) (W : World) (N : Nat) (cs : Array Value) (h2 : tmps.getD 2 undef = .pointer (some ⟨N, 0, none⟩)) (hrow : W.heap[N]? = some (.cells cs 24 (0, 0))) (hsz : cs.size = 1) :
    (results Tryz.f13 tmps).run Tryz.prog W = .ok (.agg cs) W := by
  have c39 : (Tryz.prog.info? 24).map (·.size) = some 1 := by kernel_rfl
  exact results_cell_row Tryz.results13 tmps W N 24 cs (0, 0) _ h2 hrow Tryz.underlying24 rfl (by rw [hsz]; exact c39)
theorem info_defS : ∃ i, Tryz.prog.info? 47 = some i ∧ i.zero = some (.agg #[.int .i64 0, .string ⟨#[]⟩, .string ⟨#[]⟩, .slice none 0 0]) ∧ i.size = 4 ∧ i.bytes = 64 := by
  exact info_partsS (by kernel_rfl)
abbrev deC (x : De) (a5 : Option Addr) (c5 : Nat) : Array Value := #[.int .i64 x.k, .string x.nm, .string x.on, .slice a5 x.sels.len c5]
structure GotD (w wd : World) (L R A : Nat) (a : Option Addr) (c : Nat) (l : List Tk) (k : Nat) (V : Value) (ds : List De) (x : De) (q : Nat) (a5 : Option Addr) (c5 : Nat) (W : World) : Prop where
  st : DcS w L R A a c l q V W
  old : DcO w.heap.size R A wd.heap.size V ds W
  td : pDef (l.drop k) = .ok x (l.drop q)
  row : RowB wd.heap.size W (.slice a5 x.sels.len c5) x.sels
structure PutD (w wd : World) (L R A : Nat) (a : Option Addr) (c : Nat) (l : List Tk) (k : Nat) (V : Value) (ds : List De) (x : De) (q : Nat) (g8 cap8 : Nat) (W : World) : Prop where
  st : DcS w L R A a c l q V W
  new : DcO w.heap.size R A W.heap.size (.slice (some ⟨g8, 0, none⟩) (ds.length + 1) cap8) (ds ++ [x]) W
  td : pDef (l.drop k) = .ok x (l.drop q)
theorem GotD.put {w wd : World} {L R A c k q c5 cV : Nat} {a a5 aV : Option Addr} {l : List Tk} {ds : List De} {x : De} {W : World} (h : GotD w wd L R A a c l k (.slice aV ds.length cV) ds x q a5 c5 W) (hwd : w.heap.size ≤ wd.heap.size) (hAd : A < wd.heap.size) (hl : ds.length + 1 ≤ 1048577) :
    ∃ g8 cap8 W8, (Builtin.append_ #[22, 22] 22 #[(.slice aV ds.length cV), .slice (some ⟨W.heap.size, 0, none⟩) 1 1]).run Tryz.prog (W.alloc (.cells (deC x a5 c5) 47)) = .ok (.slice (some ⟨g8, 0, none⟩) (ds.length + 1) cap8) W8 ∧ PutD w wd L R A a c l k (.slice aV ds.length cV) ds x q g8 cap8 W8 := by
  obtain ⟨ig, hig, hzg, hsg, hbg⟩ := info_defS
  obtain ⟨U, hU⟩ : ∃ U, U = W.alloc (.cells (deC x a5 c5) 47) := ⟨_, rfl⟩
  have BU : Below W.heap.size W U := by rw [hU]; exact (Below.refl _ _).alloc (Nat.le_refl _) _
  have cU : U.heap[W.heap.size]? = some (.cells (deC x a5 c5) 47 (0, 0)) := by rw [hU]; exact heap_alloc_new _ _
  have gs := h.st.gr.size
  have hsz := BU.size
  have hL := h.st.hL
  have hR := h.st.hR
  have hA := h.st.hA
  have hAW := (Array.getElem?_eq_some_iff.1 h.st.bx).1
  obtain ⟨vs, bs, K, F⟩ := h.old
  obtain ⟨ws, bk, RK⟩ := h.row
  have KU := K.keep hsz fun g hg => BU.block g (K.all g hg).2
  obtain ⟨g8, cap8, W8, hrun, o8, gr8, hat8, hlt8⟩ := run_append_lies (P := Tryz.prog) U 22 22 w.heap.size 47 ig _ 4 64 Tryz.underlying22 hig hzg hsg hbg rfl (by decide) (.slice aV ds.length cV) ds.length vs KU.own ⟨W.heap.size, 0, none⟩ 1 1 (deC x a5 c5).toList rfl (fun t u ht => by
    rw [add_plain]
    have := row_cell cU (0 + t)
    rw [this, ← ht]
    simp) (fun u hu => by
      simp only [List.mem_cons, List.not_mem_nil, or_false] at hu
      rcases hu with rfl | rfl | rfl | rfl <;> rfl) (by omega) (by unfold maxLen; omega) (by omega) (by omega) _ rfl
  rw [← hU]
  refine ⟨g8, cap8, W8, hrun, ?_⟩
  have far : ∀ g, (Value.slice aV ds.length cV).ownBlock = some g → w.heap.size ≤ g ∧ g ≠ R ∧ g ≠ A := fun g hg => ⟨(World.ownsRow.lt K.own g hg).1, (F g (List.mem_append_left _ (mem_blk hg))).1, (F g (List.mem_append_left _ (mem_blk hg))).2.1⟩
  have kp : ∀ g, g < W.heap.size → (Value.slice aV ds.length cV).ownBlock ≠ some g → W8.heap[g]? = W.heap[g]? := fun g h1 h2 => (gr8.block g (by omega) (fun e => h2 e.symm)).trans (BU.block g h1)
  have P := DocK.push (x := x) (n8 := ds.length + 1) (c8 := cap8) K (fun g hg => (F g hg).2.2) hwd RK BU gr8 hat8 (by rw [List.length_append]; exact o8)
  have hzU : U.heap.size = W.heap.size + 1 := by rw [hU]; simp
  refine ⟨⟨h.st.rd.keep fun g hg => kp g (by have := h.st.rd.lt; omega) (fun e => by have := (far g e).1; omega), (kp R (by omega) (fun e => (far R e).2.1 rfl)).trans h.st.r, (kp A hAW (fun e => (far A e).2.2 rfl)).trans h.st.bx, grown_append (grown_below h.st.gr BU) gr8 (fun g e => (far g e).1), hL, hR, hA⟩, ⟨_, _, P, fun g hg => ⟨?_, ?_, (P.all g hg).2⟩⟩, h.td⟩
  all_goals
    rcases List.mem_append.1 hg with hg | hg
    · have e8 : g = g8 := by simpa [blk, Value.ownBlock] using hg
      rcases hat8 with e | e
      · rw [e8]; first | exact (far g8 e).2.1 | exact (far g8 e).2.2
      · omega
    · rcases List.mem_append.1 hg with hg | hg
      · first | exact (F g (List.mem_append_right _ hg)).1 | exact (F g (List.mem_append_right _ hg)).2.1
      · have := (RK.all g hg).1; omega
def DcJ (w wd : World) (L R A : Nat) (a : Option Addr) (c : Nat) (l : List Tk) (k : Nat) (V : Value) (ds : List De) (D : Array Bool) (u : Nat → Value) (W : World) : Prop :=
  (D.getD 3 false = false ∧ D.getD 4 false = false ∧ D.getD 5 false = false ∧ W = wd) ∨
  (D.getD 3 false = true ∧ D.getD 4 false = false ∧ D.getD 5 false = false ∧ ∃ x q a5 c5, GotD w wd L R A a c l k V ds x q a5 c5 W ∧ u 16 = .agg (deC x a5 c5)) ∨
  (D.getD 3 false = true ∧ D.getD 4 false = true ∧ D.getD 5 false = false ∧ ∃ x q a5 c5 W3, GotD w wd L R A a c l k V ds x q a5 c5 W3 ∧ W = W3.alloc (.cells (deC x a5 c5) 47) ∧ u 17 = .slice (some ⟨W3.heap.size, 0, none⟩) 1 1) ∨
  (D.getD 3 false = true ∧ D.getD 4 false = true ∧ D.getD 5 false = true ∧ ∃ x q g8 cap8, PutD w wd L R A a c l k V ds x q g8 cap8 W ∧ u 18 = .slice (some ⟨g8, 0, none⟩) (ds.length + 1) cap8)
theorem DcJ.other {w wd : World} {L R A c k : Nat} {a : Option Addr} {l : List Tk} {V : Value} {ds : List De} {D : Array Bool} {u : Nat → Value} {W : World} (h : DcJ w wd L R A a c l k V ds D u W) {i d : Nat} {y : Value} (h3 : i ≠ 3) (h4 : i ≠ 4) (h5 : i ≠ 5) (d1 : d ≠ 16) (d2 : d ≠ 17) (d3 : d ≠ 18) : DcJ w wd L R A a c l k V ds (D.setIfInBounds i true) (G.upd u d y) W := by
  unfold DcJ at h ⊢
  rw [getD_set_ne false h3, getD_set_ne false h4, getD_set_ne false h5, G.upd_ne _ _ (Ne.symm d1), G.upd_ne _ _ (Ne.symm d2), G.upd_ne _ _ (Ne.symm d3)]
  exact h
theorem DcJ.box {w wd : World} {L R A c k : Nat} {a : Option Addr} {l : List Tk} {V : Value} {ds : List De} {D : Array Bool} {u : Nat → Value} {W : World} (h : DcJ w wd L R A a c l k V ds D u W) (hb : wd.heap[A]? = some (.cells #[V] 24 (0, 0))) : W.heap[A]? = some (.cells #[V] 24 (0, 0)) := by
  rcases h with ⟨_, _, _, rfl⟩ | ⟨_, _, _, x, q, a5, c5, g, _⟩ | ⟨_, _, _, x, q, a5, c5, W3, g, rfl, _⟩ | ⟨_, _, _, x, q, g8, cap8, g, _⟩
  · exact hb
  · exact g.st.bx
  · rw [Below.heap_alloc _ _ _ (by have := (Array.getElem?_eq_some_iff.1 g.st.bx).1; omega)]; exact g.st.bx
  · exact g.st.bx
set_option maxHeartbeats 8000000 in
theorem pd_doc (L c i : Nat) (a : Option Addr) (l : List Tk) (w : World) (h : RdSt 37 #[.int .i64 ((0 : Nat) : Int)] w L a c l i) (hl : TkG l) :
    Calls Tryz.prog 13 #[.pointer (some ⟨L, 0, none⟩)] w (DocP L l (pDoc (l.drop i)) w) := by
  obtain ⟨P, HP⟩ : ∃ P, Hid (P = (pDoc (l.drop i)).preD []) := ⟨_, rfl⟩
  rw [show pDoc (l.drop i) = P by rw [HP.out, preD_nil]]
  have HG : Hid _ := hl
  have HLN : Hid (l.length ≤ 1048576) := hl.len
  obtain ⟨V, hV⟩ : ∃ V, V = w.alloc (.cells #[.slice none 0 0] 24) := ⟨_, rfl⟩
  have BV : Below w.heap.size w V := by rw [hV]; exact (Below.refl _ _).alloc (Nat.le_refl _) _
  have cV : V.heap[w.heap.size]? = some (.cells #[.slice none 0 0] 24 (0, 0)) := by rw [hV]; exact heap_alloc_new _ _
  have zV : V.heap.size = w.heap.size + 1 := by rw [hV]; simp
  have hLw := h.lt
  have HSV : Hid (RdSt 37 #[.int .i64 ((0 : Nat) : Int)] V L a c l i) := h.below BV
  have HQ : Hid _ := pd_def L c i a l V HSV.out hl
  have GV : Hid (w.grownBy V (some L)) := grown_below (grown_refl w _) BV
  have HCV : Hid _ := cV
  clear h BV cV hl
  go_enter Tryz.func13, Tryz.ntmps13
  go_upto_region 1 with fail
  rw [← hV]
  clear hV
  go_wp2_with fail
  refine Calls.mono HQ.out ?_
  rintro e w1 ⟨⟨x0, j, a5, c5, hx, rfl, row, s1⟩ | ⟨hx, rfl⟩ | ⟨hx, rfl⟩, g1⟩
  case inr.inl =>
    have HE : Hid (P = .form) := HP.out.trans (pDoc_form hx [])
    have G1 : Hid (w.grownBy w1 (some L)) := grown_trans GV.out g1
    clear g1 HQ hx
    go_wp2_with fail
    exact ⟨rfl, .inr (.inl ⟨HE.out, rfl⟩), G1.out⟩
  case inr.inr =>
    have HE : Hid (P = .deep) := HP.out.trans (pDoc_deep hx [])
    have G1 : Hid (w.grownBy w1 (some L)) := grown_trans GV.out g1
    clear g1 HQ hx
    go_wp2_with fail
    exact ⟨rfl, .inr (.inr ⟨HE.out, rfl⟩), G1.out⟩
  obtain ⟨ws, bk, R1⟩ := row
  obtain ⟨U, hU⟩ : ∃ U, U = w1.alloc (.cells (deC x0 a5 c5) 47) := ⟨_, rfl⟩
  have z1 := g1.size
  have zU : U.heap.size = w1.heap.size + 1 := by rw [hU]; simp
  have BU : Below w1.heap.size w1 U := by rw [hU]; exact (Below.refl _ _).alloc (Nat.le_refl _) _
  obtain ⟨X, hX⟩ : ∃ X, X = U.alloc (.cells #[.slice (some ⟨w1.heap.size, 0, none⟩) 1 1] 24) := ⟨_, rfl⟩
  have BX : Below U.heap.size U X := by rw [hX]; exact (Below.refl _ _).alloc (Nat.le_refl _) _
  have cX : X.heap[w1.heap.size + 1]? = some (.cells #[.slice (some ⟨w1.heap.size, 0, none⟩) 1 1] 24 (0, 0)) := by rw [hX, ← zU]; exact heap_alloc_new _ _
  have C1 : w1.heap[w.heap.size]? = some (.cells #[.slice none 0 0] 24 (0, 0)) := grown_keeps HCV.out (by omega) g1 (by omega)
  have BUX : Below w1.heap.size w1 X := BU.trans (BX.mono (by omega))
  have SX : Hid (DcS w L w.heap.size (w1.heap.size + 1) a c l j (.slice (some ⟨w1.heap.size, 0, none⟩) 1 1) X) :=
    ⟨s1.below BUX, (BUX.block _ (by omega)).trans C1, cX, grown_below (grown_trans GV.out g1) BUX, hLw, Nat.le_refl _, by omega⟩
  have OX : Hid (DcO w.heap.size w.heap.size (w1.heap.size + 1) X.heap.size (.slice (some ⟨w1.heap.size, 0, none⟩) [x0].length 1) [x0] X) := by
    have K0 := DocK.first (x := x0) (R1.low (b := w.heap.size) (by omega)) (by omega)
    rw [← hU] at K0
    have K1 := K0.keep BX.size fun g hg => BX.block g (K0.all g hg).2
    refine ⟨_, _, K1, fun g hg => ⟨?_, ?_, (K1.all g hg).2⟩⟩
    · rcases List.mem_append.1 hg with hg | hg
      · have e8 : g = w1.heap.size := by simpa [blk, Value.ownBlock] using hg
        omega
      · have := (R1.all g hg).1; omega
    · have := (K0.all g hg).2; omega
  have HT : Hid (P = (pTl (l.drop j)).preD [x0]) := HP.out.trans (pDoc_ok hx [])
  have hj := s1.le
  have HJ1 : Hid (1 ≤ j) := by have := drop_lt (r := l) hj (pDef_len hx); unfold Hid; omega
  have HUX : Hid (U = _) := hU
  clear hx s1 g1 HQ BU BX cX C1 BUX R1 HP GV HCV HSV hU zV
  obtain ⟨A, hA⟩ : ∃ z, z = w1.heap.size + 1 := ⟨_, rfl⟩
  rw [← hA] at SX OX
  have HAA : Hid (A = w1.heap.size + 1) := hA
  clear hA
  go_wp2_with fail
  rw [← HUX.out, ← hX, ← HAA.out]
  clear hX HUX
  go_loopw [12] (fun _ w' => ∃ (k : Nat) (ds : List De) (aV : Option Addr) (cV : Nat), ds.length ≤ k ∧ k ≤ l.length ∧ Hid (DcS w L w.heap.size A a c l k (.slice aV ds.length cV) w') ∧ Hid (DcO w.heap.size w.heap.size A w'.heap.size (.slice aV ds.length cV) ds w') ∧ Hid (P = (pTl (l.drop k)).preD ds)) (fun _ w' => l.length - rdPos w' L)
  case atStart => exact ⟨j, [x0], _, 1, HJ1.out, hj, SX, OX, HT⟩
  case round =>
    obtain ⟨k, ds, aV, cV, hpk, hk, HS, HO, HM⟩ := hrel
    obtain ⟨wo, rfl⟩ : ∃ z, z = wr := ⟨_, rfl⟩
    have HQ : Hid _ := rd_ended 37 #[.int .i64 ((0 : Nat) : Int)] L c k a l wo HS.out.rd
    have HPO : Hid (rdPos wo L = k) := rdPos_of HS.out.rd
    obtain ⟨r, HR⟩ : ∃ r, Hid (r = decide (k = l.length)) := ⟨_, rfl⟩
    rw [← HR.out] at HQ
    go_wp2_with fail
    refine Calls.mono HQ.out ?_
    rintro e w3 ⟨rfl, n3, hw3⟩
    have S3 : Hid (DcS w L w.heap.size A a c l k (.slice aV ds.length cV) w3) := by rw [Hid, hw3]; exact HS.out.call (HS.out.rd.drewN n3) (grown_drewN wo n3 _)
    have O3 : Hid (DcO w.heap.size w.heap.size A w3.heap.size (.slice aV ds.length cV) ds w3) := by rw [Hid, hw3]; exact (HO.out.grow (grown_drewN wo n3 _) hLw).at_
    clear HQ HS HO hw3
    cases r with
    | true =>
      have hkl : k = l.length := of_decide_eq_true HR.out.symm
      have HE : Hid (P = .ok ds (l.drop k)) := by
        rw [Hid, HM.out]
        unfold pTl
        rw [if_pos (by simp only [List.length_drop]; omega)]
        simp [PR.preD]
      clear HM HR hkl
      have yA := fun o => row_cell S3.out.bx o
      have yR := fun o => row_cell S3.out.r o
      have fR := fun o => row_frozen S3.out.r o
      go_wp2_with fail
      obtain ⟨vs, bs, K, F⟩ := O3.out
      refine bodyPost_ret (v := .agg #[.slice aV ds.length cV]) (results_doc _ _ w.heap.size _ rfl (row_set S3.out.r 0 (.slice aV ds.length cV)) rfl) rfl ⟨.inl ⟨ds, _, aV, cV, vs, bs, HE.out, rfl, ?_⟩, ?_⟩
      · exact K.set _ fun g hg => (F g hg).1
      · repeat (refine grown_new ?_ (Nat.le_refl _) _)
        exact S3.out.gr
    | false =>
      have hkl : k ≠ l.length := of_decide_eq_false HR.out.symm
      have HM1 : Hid (P = (pDoc (l.drop k)).preD ds) := by
        rw [Hid, HM.out]
        unfold pTl
        rw [if_neg (by simp only [List.length_drop]; omega)]
      clear HM HR
      go_upto_region 3 with fail
      obtain ⟨wd, hwd⟩ : ∃ z : World, z = w3.drew := ⟨_, rfl⟩
      have SD : Hid (DcS w L w.heap.size A a c l k (.slice aV ds.length cV) wd) := by rw [Hid, hwd]; exact S3.out.same
      have OD : Hid (DcO w.heap.size w.heap.size A wd.heap.size (.slice aV ds.length cV) ds wd) := by rw [Hid, hwd]; exact (O3.out.grow (grown_drew (grown_refl w3 _)) hLw).at_
      have HWD : Hid (wd = w3.drew) := hwd
      have hwz := SD.out.gr.size
      have hAd := (Array.getElem?_eq_some_iff.1 SD.out.bx).1
      clear hwd S3 O3
      refine G.region_rel5 (n := 7) (k := 1) (by omega) (by kernel_rfl) (by kernel_rfl) (by kernel_rfl) (fun u => ⟨#[.pointer (some ⟨L, 0, none⟩), undef, .pointer (some ⟨w.heap.size, 0, none⟩), .pointer (some ⟨A, 0, none⟩), .pointer (some ⟨L, 0, none⟩), .agg #[.int .i64 x0.k, .string x0.nm, .string x0.on, .slice a5 x0.sels.len c5], .slice (some ⟨w1.heap.size, 0, none⟩) 1 1, .agg #[.slice (some ⟨w1.heap.size, 0, none⟩) 1 1], .pointer (some ⟨L, 0, none⟩), .pointer (some ⟨L, 0, none⟩), .pointer (some ⟨L, 0, none⟩), .bool false, .bool true, u 13, u 14, u 15, u 16, u 17, u 18, u 19, undef], []⟩) (fun nz => match nz with | 13 => u13 | 14 => u14 | 15 => u15 | 16 => u16 | 17 => u17 | 18 => u18 | 19 => u19 | _ => undef) (fun iz => iz + 13) (fun iz jz _ _ h => by omega)
        (fun iz y _ => match iz with | 0 => y = .pointer (some ⟨A, 0, none⟩) | 1 => y = .slice aV ds.length cV | 2 => y = .pointer (some ⟨L, 0, none⟩) | 6 => y = .pointer (some ⟨A, 0, none⟩) | _ => True) (fun D u W => DcJ w wd L w.heap.size A a c l k (.slice aV ds.length cV) ds D u W) (.inl ⟨by simp, by simp, by simp, HWD.out.symm⟩) ?step ?last
      case step =>
        intro D u W iq hi hLs hLi hj hdep
        have HJ : Hid (DcJ w wd L w.heap.size A a c l k (.slice aV ds.length cV) ds D u W) := hj
        have HLI : Hid _ := hLi
        have xA := fun o => row_cell (hj.box SD.out.bx) o
        have hcase : iq = 0 ∨ iq = 1 ∨ iq = 2 ∨ iq = 3 ∨ iq = 4 ∨ iq = 5 ∨ iq = 6 := by omega
        clear hj hLi hi hLs
        rcases hcase with rfl | rfl | rfl | rfl | rfl | rfl | rfl
        · clear hdep
          refine wpOp_step rfl (fun K hK => ?_)
          go_simp
          exact hK _ _ ⟨.pointer (some ⟨A, 0, none⟩), by simp [G.upd], fun _ _ h => h, rfl, HJ.out.other (by decide) (by decide) (by decide) (by decide) (by decide) (by decide)⟩
        · have d0 : u 13 = .pointer (some ⟨A, 0, none⟩) := (hdep _ rfl ⟨0, .data⟩ (by simp) rfl).2
          clear hdep
          refine wpOp_step rfl (fun K hK => ?_)
          go_simp
          exact hK _ _ ⟨.slice aV ds.length cV, by simp [G.upd, d0], fun _ _ h => h, rfl, HJ.out.other (by decide) (by decide) (by decide) (by decide) (by decide) (by decide)⟩
        · clear hdep
          refine wpOp_step rfl (fun K hK => ?_)
          go_simp
          exact hK _ _ ⟨.pointer (some ⟨L, 0, none⟩), by simp [G.upd], fun _ _ h => h, rfl, HJ.out.other (by decide) (by decide) (by decide) (by decide) (by decide) (by decide)⟩
        · have d2 : u 15 = .pointer (some ⟨L, 0, none⟩) := (hdep _ rfl ⟨2, .data⟩ (by simp) rfl).2
          obtain ⟨b4, b5, hW⟩ : D.getD 4 false = false ∧ D.getD 5 false = false ∧ W = wd := by
            have h3 := getD_notT HLI.out
            rcases HJ.out with ⟨_, h4, h5, e⟩ | ⟨h, _⟩ | ⟨h, _⟩ | ⟨h, _⟩
            · exact ⟨h4, h5, e⟩
            all_goals rw [h3] at h; cases h
          clear hdep HJ xA
          replace hW := hW.symm
          subst hW
          have HQF : Hid _ := pd_def L c k a l wd SD.out.rd HG.out
          refine wpOp_step rfl (fun K hK => ?_)
          go_simp
          refine Calls.mono HQF.out ?_
          rintro e w4 ⟨⟨x, q, b5', e5, hx, rfl, ox, sx⟩ | ⟨hx, rfl⟩ | ⟨hx, rfl⟩, g4⟩
          · refine hK _ _ ⟨.agg (deC x b5' e5), by simp [G.upd, d2, deC], fun _ _ h => h, trivial, .inr (.inl ⟨getD_putT HLI.out, ?_, ?_, x, q, b5', e5, ⟨SD.out.call sx g4, OD.out.grow g4 hLw, hx, ox⟩, by rw [G.upd_at]⟩)⟩
            · rw [getD_set_ne false (by decide)]; exact b4
            · rw [getD_set_ne false (by decide)]; exact b5
          · have HE : Hid (P = .form) := HM1.out.trans (pDoc_form hx ds)
            have G4 : Hid (w.grownBy w4 (some L)) := grown_trans SD.out.gr g4
            exact ⟨rfl, .inr (.inl ⟨HE.out, rfl⟩), G4.out⟩
          · have HE : Hid (P = .deep) := HM1.out.trans (pDoc_deep hx ds)
            have G4 : Hid (w.grownBy w4 (some L)) := grown_trans SD.out.gr g4
            exact ⟨rfl, .inr (.inr ⟨HE.out, rfl⟩), G4.out⟩
        · have l3 := (hdep _ rfl ⟨3, .data⟩ (by simp) rfl).1
          obtain ⟨b5, x, q, b5', e5, hgot, d3⟩ : D.getD 5 false = false ∧ ∃ x q a5 c5, GotD w wd L w.heap.size A a c l k (.slice aV ds.length cV) ds x q a5 c5 W ∧ u 16 = .agg (deC x a5 c5) := by
            have h4 := getD_notT HLI.out
            rcases HJ.out with ⟨h, _⟩ | ⟨_, _, h5, e⟩ | ⟨_, h, _⟩ | ⟨_, h, _⟩
            · rw [l3] at h; cases h
            · exact ⟨h5, e⟩
            all_goals rw [h4] at h; cases h
          have HGOT : Hid _ := hgot
          clear hdep HJ xA hgot
          refine wpOp_step rfl (fun K hK => ?_)
          go_simp
          refine hK _ _ ⟨.slice (some ⟨W.heap.size, 0, none⟩) 1 1, by simp [G.upd, d3], fun _ _ h => h, trivial, .inr (.inr (.inl ⟨?_, getD_putT HLI.out, ?_, x, q, b5', e5, W, HGOT.out, rfl, by rw [G.upd_at]⟩))⟩
          · rw [getD_set_ne false (by decide)]; exact l3
          · rw [getD_set_ne false (by decide)]; exact b5
        · have l4 := (hdep _ rfl ⟨4, .data⟩ (by simp) rfl).1
          have d1 : u 14 = .slice aV ds.length cV := (hdep _ rfl ⟨1, .data⟩ (by simp) rfl).2
          obtain ⟨l3, x, q, b5', e5, W3, hgot, hW, d4⟩ : D.getD 3 false = true ∧ ∃ x q a5 c5 W3, GotD w wd L w.heap.size A a c l k (.slice aV ds.length cV) ds x q a5 c5 W3 ∧ W = W3.alloc (.cells (deC x a5 c5) 47) ∧ u 17 = .slice (some ⟨W3.heap.size, 0, none⟩) 1 1 := by
            have h5 := getD_notT HLI.out
            rcases HJ.out with ⟨_, h, _⟩ | ⟨_, h, _⟩ | ⟨h3, _, _, e⟩ | ⟨_, _, h, _⟩
            · rw [l4] at h; cases h
            · rw [l4] at h; cases h
            · exact ⟨h3, e⟩
            · rw [h5] at h; cases h
          have hln := HLN.out
          obtain ⟨g8, cap8, W8, hrun, hput⟩ := hgot.put hwz hAd (by omega)
          clear hdep HJ xA hln
          subst hW
          refine wpOp_step rfl (fun K hK => ?_)
          refine wp_append_runT (.tmp 14) (.tmp 17) _ rfl _ _ _ _ d1 d4 hrun ?_
          refine hK _ _ ⟨.slice (some ⟨g8, 0, none⟩) (ds.length + 1) cap8, by simp [Act.put, G.upd, d1, d4], fun _ _ h => h, trivial, .inr (.inr (.inr ⟨?_, ?_, getD_putT HLI.out, x, q, g8, cap8, hput, by rw [G.upd_at]⟩))⟩
          · rw [getD_set_ne false (by decide)]; exact l3
          · rw [getD_set_ne false (by decide)]; exact l4
        · clear hdep
          refine wpOp_step rfl (fun K hK => ?_)
          go_simp
          exact hK _ _ ⟨.pointer (some ⟨A, 0, none⟩), by simp [G.upd], fun _ _ h => h, rfl, HJ.out.other (by decide) (by decide) (by decide) (by decide) (by decide) (by decide)⟩
      case last =>
        intro D u W hLs hD hj hp
        obtain ⟨x, q, g8, cap8, hput, d5⟩ : ∃ x q g8 cap8, PutD w wd L w.heap.size A a c l k (.slice aV ds.length cV) ds x q g8 cap8 W ∧ u 18 = .slice (some ⟨g8, 0, none⟩) (ds.length + 1) cap8 := by
          rcases hj with ⟨h, _⟩ | ⟨_, h, _⟩ | ⟨_, _, h, _⟩ | ⟨_, _, _, e⟩
          · rw [hD 3 (by omega)] at h; cases h
          · rw [hD 4 (by omega)] at h; cases h
          · rw [hD 5 (by omega)] at h; cases h
          · exact e
        have d6 : u 19 = .pointer (some ⟨A, 0, none⟩) := hp 6 (by omega)
        have hq := hput.st.rd.le
        have hkq : k < q := drop_lt (r := l) hq (pDef_len hput.td)
        have HM2 : Hid (P = (pTl (l.drop q)).preD (ds ++ [x])) := HM1.out.trans (pDoc_ok hput.td ds)
        have SN : Hid (DcS w L w.heap.size A a c l q (.slice (some ⟨g8, 0, none⟩) (ds ++ [x]).length cap8) (W.setCell ⟨A, 0, none⟩ (.slice (some ⟨g8, 0, none⟩) (ds.length + 1) cap8))) := by
          have h1 := SD.out.hL
          have h2 := SD.out.hA
          refine ⟨hput.st.rd.keep fun g hg => heap_setCell_other _ _ _ _ (by show g ≠ A; omega), ?_, ?_, grown_new hput.st.gr (by omega) _, h1, SD.out.hR, h2⟩
          · rw [heap_setCell_other _ _ _ _ (by show w.heap.size ≠ A; omega)]; exact hput.st.r
          · have := row_set hput.st.bx 0 (.slice (some ⟨g8, 0, none⟩) (ds.length + 1) cap8)
            simpa using this
        have ON : Hid (DcO w.heap.size w.heap.size A (W.setCell ⟨A, 0, none⟩ (.slice (some ⟨g8, 0, none⟩) (ds.length + 1) cap8)).heap.size (.slice (some ⟨g8, 0, none⟩) (ds ++ [x]).length cap8) (ds ++ [x]) (W.setCell ⟨A, 0, none⟩ (.slice (some ⟨g8, 0, none⟩) (ds.length + 1) cap8))) := by
          obtain ⟨vs, bs, K, F⟩ := hput.new
          rw [show (ds ++ [x]).length = ds.length + 1 by simp]
          have K2 := K.set (k := 0) (N := A) (.slice (some ⟨g8, 0, none⟩) (ds.length + 1) cap8) fun g hg => (F g hg).2.1
          exact ⟨vs, bs, K2, fun g hg => ⟨(F g hg).1, (F g hg).2.1, (K2.all g hg).2⟩⟩
        have HP8 : Hid (rdPos (W.setCell ⟨A, 0, none⟩ (.slice (some ⟨g8, 0, none⟩) (ds.length + 1) cap8)) L = q) := rdPos_of SN.out.rd
        have yA := fun o => row_cell hput.st.bx o
        have fA := fun o => row_frozen hput.st.bx o
        clear hp hj hD hput HM1 SD OD
        unfold G.wpTail
        refine wpOp_step rfl (fun K hK => ?_)
        go_simp
        refine hK _ _ ?_
        clear hK
        unfold G.wpTail
        go_wp2_with fail
        exact ⟨⟨q, ds ++ [x], some ⟨g8, 0, none⟩, cap8, by simp; omega, hq, SN, ON, HM2⟩, by rw [HP8.out, HPO.out]; omega⟩
end Go.Proofs.YtlilfbcngncllaaGreatDoor
namespace Go.Proofs.YtlilfbcngncllaaGreatDoor
open Go.ChangeShapes Go.WideShapes Go.ChangeAt Go.RowKit
set_option linter.unusedVariables false

theorem tokAt_g {s : ByteArray} {p : Nat} {t : Tk} {e : Nat} (ht : tokAt s p = some (t, e)) : tokB t.k t.n t.t = true ∧ t.t.size ≤ s.size + 3 := by
  have hx : ∀ a b, (s.extract a b).size ≤ s.size + 3 := fun a b => by rw [ByteArray.size_extract]; omega
  unfold tokAt at ht
  split at ht
  · split at ht
    · rename_i hn
      simp only [Option.some.injEq, Prod.mk.injEq] at ht
      obtain ⟨rfl, _⟩ := ht
      refine ⟨?_, hx _ _⟩
      unfold tokB
      rw [if_pos (.inr rfl)]
      simpa using hn
    · cases ht
  · split at ht
    · split at ht
      · rename_i hn
        simp only [Option.some.injEq, Prod.mk.injEq] at ht
        obtain ⟨rfl, _⟩ := ht
        refine ⟨?_, hx _ _⟩
        unfold tokB
        rw [if_pos (.inl rfl)]
        simpa using hn
      · cases ht
    · split at ht
      · obtain ⟨n, h1, hn⟩ := Option.map_eq_some_iff.1 ht
        simp only [Prod.mk.injEq] at hn
        obtain ⟨rfl, _⟩ := hn
        refine ⟨?_, Nat.zero_le _⟩
        have := (numT_some h1).2
        unfold tokB
        rw [if_neg (by simp), if_pos rfl, this, tl_lit #[]]
        rfl
      · split at ht
        · split at ht
          · simp only [Option.some.injEq, Prod.mk.injEq] at ht
            obtain ⟨rfl, _⟩ := ht
            refine ⟨?_, by show 3 ≤ s.size + 3; omega⟩
            unfold tokB
            rw [if_neg (by simp), if_neg (by simp), if_pos rfl, tl_lit #[46, 46, 46]]
            rfl
          · cases ht
        · split at ht
          · rename_i hn
            simp only [Option.some.injEq, Prod.mk.injEq] at ht
            obtain ⟨rfl, _⟩ := ht
            refine ⟨?_, hx _ _⟩
            unfold tokB
            rw [if_neg (by simp), if_neg (by simp), if_pos rfl]
            simpa using hn
          · cases ht
def TkOk2 (l : List Tk) : Prop := ∀ t ∈ l, tokB t.k t.n t.t = true
def TkBd2 (m : Nat) (l : List Tk) : Prop := ∀ t ∈ l, t.t.size ≤ m
theorem lexF_g (s : ByteArray) : ∀ f i acc, TkOk2 acc → TkBd2 (s.size + 3) acc → acc.length ≤ 4000 → TkOk2 (lexF s f i acc).1 ∧ TkBd2 (s.size + 3) (lexF s f i acc).1 ∧ (lexF s f i acc).1.length ≤ 4000
  | 0, i, acc, h, hb, hl => ⟨h, hb, hl⟩
  | f + 1, i, acc, h, hb, hl => by
    unfold lexF
    split
    · cases ht : tokAt s (pb s i false) with
      | none => exact ⟨fun t ht => by simp at ht, fun t ht => by simp at ht, by simp⟩
      | some x =>
        obtain ⟨t, e⟩ := x
        have h1 := tokAt_g ht
        simp only
        split
        · exact ⟨fun t ht => by simp at ht, fun t ht => by simp at ht, by simp⟩
        · refine lexF_g s f e _ ?_ ?_ (by simp; omega)
          · intro y hy
            rcases List.mem_append.1 hy with hy | hy
            · exact h y hy
            · rw [List.mem_singleton.1 hy]; exact h1.1
          · intro y hy
            rcases List.mem_append.1 hy with hy | hy
            · exact hb y hy
            · rw [List.mem_singleton.1 hy]; exact h1.2
    · exact ⟨h, hb, hl⟩
/-- The tokens of a text. -/
theorem lexB_g {s : ByteArray} {l : List Tk} {c : Int} (h : lexB s = (l, c)) : TkG l ∧ l.length ≤ 4000 ∧ TkBd2 65540 l := by
  unfold lexB at h
  split at h
  · simp only [Prod.mk.injEq] at h
    obtain ⟨rfl, _⟩ := h
    exact ⟨⟨fun t ht => by simp at ht, fun t ht => by simp at ht, by simp⟩, by simp, fun t ht => by simp at ht⟩
  · have h2 := lexF_g s (s.size + 1 - 0) 0 [] (fun t ht => by simp at ht) (fun t ht => by simp at ht) (by simp)
    unfold lexR at h
    rw [h] at h2
    have h3 : TkBd2 65540 l := fun t ht => by have := h2.2.1 t ht; omega
    exact ⟨⟨h2.1, fun t ht => by have := h3 t ht; omega, by have h4 : l.length ≤ 4000 := h2.2.2; omega⟩, h2.2.2, h3⟩
/-- Rows of their own are rows that can be read. -/
theorem flat_at {α : Type} {f : α → List Value} {z : Nat} (hz : ∀ x, (f x).length = z) : ∀ (l : List α) (i : Nat) (x : α), l[i]? = some x → ∀ j, j < z → (l.flatMap f)[i * z + j]? = (f x)[j]?
  | [], i, x, h, _, _ => by simp at h
  | y :: l, 0, x, h, j, hj => by
    simp only [List.getElem?_cons_zero, Option.some.injEq] at h
    subst h
    rw [List.flatMap_cons, Nat.zero_mul, Nat.zero_add, List.getElem?_append_left (by rw [hz]; exact hj)]
  | y :: l, i + 1, x, h, j, hj => by
    rw [List.getElem?_cons_succ] at h
    rw [List.flatMap_cons, List.getElem?_append_right (by rw [hz, Nat.succ_mul]; omega), hz, show (i + 1) * z + j - z = i * z + j by rw [Nat.succ_mul]; omega]
    exact flat_at hz l i x h j hj
theorem own_rowP {α : Type} {f : α → List Value} {z : Nat} (hz : ∀ x, (f x).length = z) {at_ : (Nat → Option Value) → Nat → α → Prop} {W : World} {base c : Nat} {e : TypeId} {a : Option Addr} {l : List α} (ho : W.ownsRow base e z (.slice a l.length c) l.length (l.flatMap f))
    (hat : ∀ (rd : Nat → Option Value) o x, x ∈ l → (∀ j, j < z → rd (o + j) = (f x)[j]?) → at_ rd o x) : G.Row at_ z base W.heap.size W a l := by
  rcases ho.2 with ⟨_, h0⟩ | ⟨g, cap, cur, hv, hb, hc, _, _, _, _⟩
  · exact .inl (List.length_eq_zero_iff.1 h0)
  · simp only [Value.slice.injEq] at hv
    obtain ⟨rfl, _, rfl⟩ := hv
    refine .inr ⟨g, 0, rfl, hb, (Array.getElem?_eq_some_iff.1 hc).1, fun i x hx => hat _ _ x (List.mem_of_getElem? hx) fun j hj => ?_⟩
    have hi : i < l.length := (List.getElem?_eq_some_iff.1 hx).1
    rw [Nat.zero_add, ← flat_at hz l i x hx j hj]
    have hlt : i * z + j < l.length * z := by
      have : (i + 1) * z ≤ l.length * z := Nat.mul_le_mul_right _ hi
      rw [Nat.succ_mul] at this
      omega
    exact ho.cellAt (i * z + j) hlt
theorem tvs_flat (l : List Tk) : tvs l = l.flatMap tv := rfl
theorem own_tkRow {W : World} {base c : Nat} {a : Option Addr} {l : List Tk} (ho : W.ownsRow base 66 3 (.slice a l.length c) l.length (tvs l)) : TkRow base W.heap.size W a l :=
  own_rowP (f := tv) (fun x => rfl) (by rw [← tvs_flat]; exact ho) fun rd o x _ h => ⟨h 0 (by omega), h 1 (by omega), h 2 (by omega)⟩
end Go.Proofs.YtlilfbcngncllaaGreatDoor
namespace Go.Proofs.YtlilfbcngncllaaGreatDoor
open Go.ChangeShapes Go.WideShapes Go.ChangeAt Go.RowKit
set_option linter.unusedVariables false

theorem owns_slice {W : World} {base z n : Nat} {e : TypeId} {v : Value} {xs : List Value} (ho : W.ownsRow base e z v n xs) : ∃ a c, v = .slice a n c := by
  rcases ho.2 with ⟨rfl, rfl⟩ | ⟨g, cap, cur, rfl, _⟩
  · exact ⟨_, _, rfl⟩
  · exact ⟨_, _, rfl⟩
theorem owns_len {W : World} {base z n : Nat} {e : TypeId} {v : Value} {xs : List Value} (ho : W.ownsRow base e z v n xs) : xs.length = n * z := ho.1
theorem ar_row {lo : Nat} {W : World} {v : Value} {l : List Ar} (ho : W.ownsRow 0 103 4 v l.length (arVs l)) (hb : ∀ g, v.ownBlock = some g → lo ≤ g) : ∃ a c, v = .slice a l.length c ∧ ArRow lo W.heap.size W a l := by
  obtain ⟨a, c, rfl⟩ := owns_slice ho
  exact ⟨a, c, rfl, own_rowP (f := arC) (fun x => rfl) (owns_base ho hb) fun rd o x _ h => ⟨h 0 (by omega), h 1 (by omega), h 2 (by omega), h 3 (by omega)⟩⟩
theorem di_row {lo : Nat} {W : World} {v : Value} {l : List Di} (ho : W.ownsRow 0 105 4 v l.length (diVs l)) (hb : ∀ g, v.ownBlock = some g → lo ≤ g) : ∃ a c, v = .slice a l.length c ∧ DiRow lo W.heap.size W a l := by
  obtain ⟨a, c, rfl⟩ := owns_slice ho
  exact ⟨a, c, rfl, own_rowP (f := diC) (fun x => rfl) (owns_base ho hb) fun rd o x _ h => ⟨h 0 (by omega), h 1 (by omega), h 2 (by omega), h 3 (by omega)⟩⟩
theorem KidB.len {W : World} : ∀ {l : Sels} {vs : List Value} {bs : List Nat}, KidB W l vs bs → vs.length = l.len * 6
  | .nil, _, _, ⟨h, _⟩ => by rw [h]; rfl
  | .cons h sub rest, _, _, ⟨va, vd, vsub, vr, ws, bk, br, hv, _, _, _, _, _, k2⟩ => by
    rw [hv, List.length_append, KidB.len k2]
    simp only [Sels.len, List.length_cons, List.length_nil]
    omega
theorem kid_pre {lo : Nat} {W : World} : ∀ {l : Sels} {vs : List Value} {bs : List Nat} {rd : Nat → Option Value} {o : Nat}, KidB W l vs bs → (∀ g ∈ bs, lo ≤ g) → (∀ j, j < vs.length → rd (o + j) = vs[j]?) → SelPre lo W.heap.size W l rd o l.len
  | .nil, _, _, _, _, _, _, _ => trivial
  | .cons h sub rest, vs, bs, rd, o, ⟨va, vd, vsub, vr, ws, bk, br, hv, hb, o1, o2, o3, k1, k2⟩, hg, hr => by
    have hm : ∀ g, (g ∈ blk va ∨ g ∈ blk vd ∨ g ∈ blk vsub ∨ g ∈ bk) ∨ g ∈ br → lo ≤ g := fun g hx => hg g (by rw [hb]; simpa only [List.mem_append] using hx)
    obtain ⟨a3, c3, rfl, r3⟩ := ar_row (lo := lo) o1 fun g e => hm g (.inl (.inl (mem_blk e)))
    obtain ⟨a4, c4, rfl, r4⟩ := di_row (lo := lo) o2 fun g e => hm g (.inl (.inr (.inl (mem_blk e))))
    obtain ⟨a5, c5, rfl⟩ := owns_slice o3
    have hlen : vs.length = 6 + vr.length := by rw [hv, List.length_append]; rfl
    have at_ : ∀ j, j < 6 → rd (o + j) = ([.int .i64 h.k, .string h.al, .string h.nm, .slice a3 h.args.length c3, .slice a4 h.dirs.length c4, .slice a5 sub.len c5] : List Value)[j]? := fun j hj => by
      rw [hr j (by omega), hv, List.getElem?_append_left (by simpa using hj)]
    refine .inr ⟨⟨at_ 0 (by omega), at_ 1 (by omega), at_ 2 (by omega), ⟨a3, c3, at_ 3 (by omega), r3⟩, ⟨a4, c4, at_ 4 (by omega), r4⟩⟩, ⟨a5, c5, at_ 5 (by omega), ?_⟩, ?_⟩
    · rcases o3.2 with ⟨_, h0⟩ | ⟨g, cap, cur, hv5, _, hc, _, _, _, _⟩
      · left
        cases sub with
        | nil => rfl
        | cons x y z => simp only [Sels.len] at h0; omega
      · simp only [Value.slice.injEq] at hv5
        obtain ⟨rfl, _, rfl⟩ := hv5
        refine .inr ⟨g, 0, rfl, hm g (.inl (.inr (.inr (.inl (mem_blk rfl))))), (Array.getElem?_eq_some_iff.1 hc).1, kid_pre k1 (fun g hx => hm g (.inl (.inr (.inr (.inr hx))))) fun j hj => ?_⟩
        rw [Nat.zero_add]
        exact o3.cellAt j (by rw [← owns_len o3]; exact hj)
    · simp only [Sels.len, Nat.add_sub_cancel]
      refine kid_pre k2 (fun g hx => hm g (.inr hx)) fun j hj => ?_
      have := hr (6 + j) (by omega)
      rw [hv, List.getElem?_append_right (by simp)] at this
      rw [show o + 6 + j = o + (6 + j) by omega, this]
      congr 1
      simp
theorem RowK.row {base : Nat} {W : World} {a : Option Addr} {n c : Nat} {l : Sels} {ws : List Value} {bk : List Nat} (h : RowK base W (.slice a n c) l ws bk) : SelRow base W.heap.size W a l := by
  rcases h.own.2 with ⟨_, h0⟩ | ⟨g, cap, cur, hv, hb, hc, _, _, _, _⟩
  · left
    cases l with
    | nil => rfl
    | cons x y z => simp only [Sels.len] at h0; omega
  · simp only [Value.slice.injEq] at hv
    obtain ⟨rfl, rfl, rfl⟩ := hv
    refine .inr ⟨g, 0, rfl, hb, (Array.getElem?_eq_some_iff.1 hc).1, kid_pre h.k (fun g hg => (h.inn g hg).1) fun j hj => ?_⟩
    rw [Nat.zero_add]
    exact h.own.cellAt j (by rw [← owns_len h.own]; exact hj)
theorem DefK.at_ {W : World} {lo : Nat} : ∀ {l : List De} {vs : List Value} {bs : List Nat}, DefK W l vs bs → (∀ g ∈ bs, lo ≤ g) → ∀ i x, l[i]? = some x → ∃ a c, (∀ j, j < 4 → vs[i * 4 + j]? = ([.int .i64 x.k, .string x.nm, .string x.on, .slice a x.sels.len c] : List Value)[j]?) ∧ SelRow lo W.heap.size W a x.sels
  | [], _, _, _, _, i, x, hx => by simp at hx
  | y :: r, vs, bs, ⟨V, vr, ws, bk, br, hv, hb, o, k, kr⟩, hg, 0, x, hx => by
    simp only [List.getElem?_cons_zero, Option.some.injEq] at hx
    subst hx
    obtain ⟨a, c, rfl⟩ := owns_slice o
    have hm : ∀ g, (g ∈ blk (.slice a y.sels.len c) ∨ g ∈ bk) ∨ g ∈ br → lo ≤ g := fun g hx => hg g (by rw [hb]; simpa only [List.mem_append] using hx)
    refine ⟨a, c, fun j hj => by rw [hv, List.getElem?_append_left (by simp; omega)]; congr 1; omega, ?_⟩
    rcases o.2 with ⟨_, h0⟩ | ⟨g, cap, cur, hv5, _, hc, _, _, _, _⟩
    · left
      cases hs : y.sels with
      | nil => rfl
      | cons p q z => rw [hs] at h0; simp only [Sels.len] at h0; omega
    · simp only [Value.slice.injEq] at hv5
      obtain ⟨rfl, _, rfl⟩ := hv5
      refine .inr ⟨g, 0, rfl, hm g (.inl (.inl (mem_blk rfl))), (Array.getElem?_eq_some_iff.1 hc).1, kid_pre k (fun g hx => hm g (.inl (.inr hx))) fun j hj => ?_⟩
      rw [Nat.zero_add]
      exact o.cellAt j (by rw [← owns_len o]; exact hj)
  | y :: r, vs, bs, ⟨V, vr, ws, bk, br, hv, hb, o, k, kr⟩, hg, i + 1, x, hx => by
    obtain ⟨a, c, h1, h2⟩ := DefK.at_ kr (fun g hx => hg g (by rw [hb]; exact List.mem_append_right _ hx)) i x (by simpa using hx)
    refine ⟨a, c, fun j hj => ?_, h2⟩
    rw [← h1 j hj, hv, List.getElem?_append_right (by simp; omega)]
    congr 1
    simp
    omega
/-- The answer is rows that can be read. -/
theorem DocK.row {base : Nat} {W : World} {a : Option Addr} {n c : Nat} {l : List De} {vs : List Value} {bs : List Nat} (h : DocK base W (.slice a n c) l vs bs) : DeRow base W.heap.size W a l := by
  rcases h.own.2 with ⟨_, h0⟩ | ⟨g, cap, cur, hv, hb, hc, _, _, _, _⟩
  · exact .inl (List.length_eq_zero_iff.1 h0)
  · simp only [Value.slice.injEq] at hv
    obtain ⟨rfl, rfl, rfl⟩ := hv
    refine .inr ⟨g, 0, rfl, hb, (Array.getElem?_eq_some_iff.1 hc).1, fun i x hx => ?_⟩
    obtain ⟨a5, c5, h1, h2⟩ := h.k.at_ (fun g hg => (h.inn g hg).1) i x hx
    have hi : i < l.length := (List.getElem?_eq_some_iff.1 hx).1
    have at_ : ∀ j, j < 4 → W.cell? ⟨g, 0 + i * 4 + j, none⟩ = ([.int .i64 x.k, .string x.nm, .string x.on, .slice a5 x.sels.len c5] : List Value)[j]? := fun j hj => by
      rw [Nat.zero_add, ← h1 j hj]
      exact h.own.cellAt _ (by omega)
    exact ⟨at_ 0 (by omega), at_ 1 (by omega), at_ 2 (by omega), a5, c5, at_ 3 (by omega), h2⟩
end Go.Proofs.YtlilfbcngncllaaGreatDoor
