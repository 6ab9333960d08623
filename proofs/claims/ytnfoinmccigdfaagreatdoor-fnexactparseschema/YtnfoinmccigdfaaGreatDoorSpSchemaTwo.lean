/- The program's reader of schemas: all of it. -/
import Derived.Test.YtnfoinmccigdfaaGreatDoorSpSchema
namespace Go.Proofs.YtnfoinmccigdfaaGreatDoor
open Go.ChangeShapes Go.WideShapes Go.ChangeAt Go.RowKit
set_option linter.unusedVariables false

/-- A schema while it is read. -/
structure ScS (ex : Array Value) (w : World) (L R A : Nat) (a : Option Addr) (c : Nat) (l : List Tk) (j : Nat) (V : Value) (ts : List Ty) (W : World) : Prop where
  rd : RdSt 37 ex W L a c l j
  r : W.heap[R]? = some (.cells #[.slice none 0 0] 24 (0, 0))
  bx : W.heap[A]? = some (.cells #[V] 24 (0, 0))
  gr : w.grownBy W (some L)
  ts : TdsAt w.heap.size W V ts
  hL : L < w.heap.size
  hR : w.heap.size ≤ R
  hA : R < A
theorem ScS.call {ex : Array Value} {w : World} {L R A c j j' : Nat} {a : Option Addr} {l : List Tk} {V : Value} {ts : List Ty} {W W' : World} (h : ScS ex w L R A a c l j V ts W) (hr : RdSt 37 ex W' L a c l j') (hg : W.grownBy W' (some L)) : ScS ex w L R A a c l j' V ts W' :=
  ⟨hr, grown_keeps h.r (Array.getElem?_eq_some_iff.1 h.r).1 hg (by have := h.hL; have := h.hR; omega), grown_keeps h.bx (Array.getElem?_eq_some_iff.1 h.bx).1 hg (by have := h.hL; have := h.hR; have := h.hA; omega), grown_trans h.gr hg, h.ts.grow hg h.hL, h.hL, h.hR, h.hA⟩
theorem ScS.same {ex : Array Value} {w : World} {L R A c j : Nat} {a : Option Addr} {l : List Tk} {V : Value} {ts : List Ty} {W : World} (h : ScS ex w L R A a c l j V ts W) : ScS ex w L R A a c l j V ts W.drew :=
  h.call (h.rd.keep fun _ _ => rfl) (grown_drew (grown_refl W _))
def eofB (l : List Tk) (k : Nat) : Bool := decide (k = l.length)
/-- A schema is told, all of it rows of its own. -/
def SchIs (ex : Array Value) (L : Nat) (l : List Tk) (i : Nat) (w : World) (e : Ending) (w' : World) : Prop :=
  (∃ r, Many (eofB l) (TdR l) i r ∧ ((∃ ts j a' c', r = some (ts.map tyD, j) ∧ e = .returned (.agg #[.slice a' ts.length c']) ∧ TdsAt w.heap.size w' (.slice a' ts.length c') ts) ∨ (r = none ∧ badF e))) ∧ w.grownBy w' (some L)
theorem results_schema (tmps : Array Value) (W : World) (N : Nat) (cs : Array Value) (h2 : tmps.getD 2 undef = .pointer (some ⟨N, 0, none⟩)) (hrow : W.heap[N]? = some (.cells cs 24 (0, 0))) (hsz : cs.size = 1) :
    (results Tryz.f13 tmps).run Tryz.prog W = .ok (.agg cs) W := by
  have c39 : (Tryz.prog.info? 24).map (·.size) = some 1 := by kernel_rfl
  exact results_cell_row Tryz.results13 tmps W N 24 cs (0, 0) _ h2 hrow Tryz.underlying24 rfl (by rw [hsz]; exact c39)
theorem info_tdd : ∃ i, Tryz.prog.info? 49 = some i ∧ i.zero = some (.agg #[.string ⟨#[]⟩, .slice none 0 0]) ∧ i.size = 2 ∧ i.bytes = 40 := by
  exact info_partsS (by kernel_rfl)
abbrev tdC (nm : ByteArray) (ps : List (G.Fd × Value)) (av : Option Addr) (cv : Nat) : Array Value := #[.string nm, .slice av ps.length cv]
structure GotT (ex : Array Value) (w wd : World) (L R A : Nat) (a : Option Addr) (c : Nat) (l : List Tk) (k : Nat) (V : Value) (ts : List Ty) (nm : ByteArray) (ps : List (G.Fd × Value)) (q : Nat) (av : Option Addr) (cv : Nat) (W : World) : Prop where
  st : ScS ex w L R A a c l q V ts W
  td : TdR l k (some (⟨nm, ps.map (·.1)⟩, q))
  fs : FdsAt wd.heap.size W (.slice av ps.length cv) ps
structure PutT (ex : Array Value) (w wd : World) (L R A : Nat) (a : Option Addr) (c : Nat) (l : List Tk) (k : Nat) (V : Value) (ts : List Ty) (nm : ByteArray) (ps : List (G.Fd × Value)) (q : Nat) (av : Option Addr) (cv g8 cap8 : Nat) (W : World) : Prop where
  rd : RdSt 37 ex W L a c l q
  r : W.heap[R]? = some (.cells #[.slice none 0 0] 24 (0, 0))
  bx : W.heap[A]? = some (.cells #[V] 24 (0, 0))
  gr : w.grownBy W (some L)
  ts : TdsAt w.heap.size W (.slice (some ⟨g8, 0, none⟩) (ts.length + 1) cap8) (ts ++ [(nm, .slice av ps.length cv, ps)])
  td : TdR l k (some (⟨nm, ps.map (·.1)⟩, q))
theorem GotT.put {ex : Array Value} {w wd : World} {L R A c k q cv cV : Nat} {a av aV : Option Addr} {l : List Tk} {nm : ByteArray} {ts : List Ty} {ps : List (G.Fd × Value)} {W : World} (h : GotT ex w wd L R A a c l k (.slice aV ts.length cV) ts nm ps q av cv W) (hwd : w.heap.size ≤ wd.heap.size) (hN : ∀ i (hi : i < ts.length) g, blkF ts[i].2.1 ts[i].2.2 g → g < wd.heap.size) (hl : ts.length + 1 ≤ 1048576) :
    ∃ g8 cap8 W8, (Builtin.append_ #[22, 22] 22 #[.slice aV ts.length cV, .slice (some ⟨W.heap.size, 0, none⟩) 1 1]).run Tryz.prog (W.alloc (.cells (tdC nm ps av cv) 49)) = .ok (.slice (some ⟨g8, 0, none⟩) (ts.length + 1) cap8) W8 ∧ PutT ex w wd L R A a c l k (.slice aV ts.length cV) ts nm ps q av cv g8 cap8 W8 := by
  obtain ⟨ig, hig, hzg, hsg, hbg⟩ := info_tdd
  obtain ⟨U, hU⟩ : ∃ U, U = W.alloc (.cells (tdC nm ps av cv) 49) := ⟨_, rfl⟩
  have BU : Below W.heap.size W U := by rw [hU]; exact (Below.refl _ _).alloc (Nat.le_refl _) _
  have cU : U.heap[W.heap.size]? = some (.cells (tdC nm ps av cv) 49 (0, 0)) := by rw [hU]; exact heap_alloc_new _ _
  have gs := h.st.gr.size
  have hsz := BU.size
  have O3 : U.ownsRow w.heap.size 49 2 (.slice aV ts.length cV) ts.length (tdVs ts) := own_keepT h.st.ts.own fun g hg => BU.block g (World.ownsRow.lt h.st.ts.own g hg).2
  obtain ⟨g8, cap8, W8, hrun, o8, gr8, hat8, hlt8⟩ := run_append_lies (P := Tryz.prog) U 22 22 w.heap.size 49 ig _ 2 40 Tryz.underlying22 hig hzg hsg hbg rfl (by decide) (.slice aV ts.length cV) ts.length (tdVs ts) O3 ⟨W.heap.size, 0, none⟩ 1 1 (tdC nm ps av cv).toList rfl (fun t u ht => by
    rw [add_plain]
    have := row_cell cU (0 + t)
    rw [this, ← ht]
    simp) (fun u hu => by
      simp only [List.mem_cons, List.not_mem_nil, or_false] at hu
      rcases hu with rfl | rfl <;> rfl) (by omega) (by unfold maxLen; omega) (by omega) (by omega) _ rfl
  rw [← hU]
  refine ⟨g8, cap8, W8, hrun, ?_⟩
  have off : ∀ g, (Value.slice aV ts.length cV).ownBlock = some g → w.heap.size ≤ g := fun g hg => (World.ownsRow.lt O3 g hg).1
  have kp : ∀ g, g < W.heap.size → (Value.slice aV ts.length cV).ownBlock ≠ some g → W8.heap[g]? = W.heap[g]? := fun g h1 h2 => (gr8.block g (by omega) (fun e => h2 e.symm)).trans (BU.block g h1)
  have hL := h.st.hL
  have nty : ∀ g cs, W.heap[g]? = some (.cells cs 24 (0, 0)) → (Value.slice aV ts.length cV).ownBlock ≠ some g := fun g cs hc he => by
    rcases h.st.ts.own.2 with ⟨e1, _⟩ | ⟨g1, c1, u1, e1, _, q1, _⟩
    · rw [e1] at he; simp [Value.ownBlock] at he
    · rw [e1] at he
      simp only [Value.ownBlock, Option.some.injEq] at he
      rw [he, hc] at q1
      simp at q1
  refine ⟨h.st.rd.keep fun g hg => kp g (by have := h.st.rd.lt; omega) (fun e => by have := off g e; omega), (kp R (Array.getElem?_eq_some_iff.1 h.st.r).1 (nty R _ h.st.r)).trans h.st.r, (kp A (Array.getElem?_eq_some_iff.1 h.st.bx).1 (nty A _ h.st.bx)).trans h.st.bx, grown_append (grown_below h.st.gr BU) gr8 off, ?_, h.td⟩
  exact h.st.ts.push hN hwd h.fs BU gr8 o8
def ScJ (ex : Array Value) (w wd : World) (L R A : Nat) (a : Option Addr) (c : Nat) (l : List Tk) (k : Nat) (V : Value) (ts : List Ty) (D : Array Bool) (u : Nat → Value) (W : World) : Prop :=
  (D.getD 3 false = false ∧ D.getD 4 false = false ∧ D.getD 5 false = false ∧ W = wd) ∨
  (D.getD 3 false = true ∧ D.getD 4 false = false ∧ D.getD 5 false = false ∧ ∃ nm ps q av cv, GotT ex w wd L R A a c l k V ts nm ps q av cv W ∧ u 12 = .agg (tdC nm ps av cv)) ∨
  (D.getD 3 false = true ∧ D.getD 4 false = true ∧ D.getD 5 false = false ∧ ∃ nm ps q av cv W3, GotT ex w wd L R A a c l k V ts nm ps q av cv W3 ∧ W = W3.alloc (.cells (tdC nm ps av cv) 49) ∧ u 13 = .slice (some ⟨W3.heap.size, 0, none⟩) 1 1) ∨
  (D.getD 3 false = true ∧ D.getD 4 false = true ∧ D.getD 5 false = true ∧ ∃ nm ps q av cv g8 cap8, PutT ex w wd L R A a c l k V ts nm ps q av cv g8 cap8 W ∧ u 14 = .slice (some ⟨g8, 0, none⟩) (ts.length + 1) cap8)
theorem ScJ.other {ex : Array Value} {w wd : World} {L R A c k : Nat} {a : Option Addr} {l : List Tk} {V : Value} {ts : List Ty} {D : Array Bool} {u : Nat → Value} {W : World} (h : ScJ ex w wd L R A a c l k V ts D u W) {i d : Nat} {y : Value} (h3 : i ≠ 3) (h4 : i ≠ 4) (h5 : i ≠ 5) (d1 : d ≠ 12) (d2 : d ≠ 13) (d3 : d ≠ 14) : ScJ ex w wd L R A a c l k V ts (D.setIfInBounds i true) (G.upd u d y) W := by
  unfold ScJ at h ⊢
  rw [getD_set_ne false h3, getD_set_ne false h4, getD_set_ne false h5, G.upd_ne _ _ (Ne.symm d1), G.upd_ne _ _ (Ne.symm d2), G.upd_ne _ _ (Ne.symm d3)]
  exact h
theorem ScJ.box {ex : Array Value} {w wd : World} {L R A c k : Nat} {a : Option Addr} {l : List Tk} {V : Value} {ts : List Ty} {D : Array Bool} {u : Nat → Value} {W : World} (h : ScJ ex w wd L R A a c l k V ts D u W) (hb : wd.heap[A]? = some (.cells #[V] 24 (0, 0))) : W.heap[A]? = some (.cells #[V] 24 (0, 0)) := by
  rcases h with ⟨_, _, _, rfl⟩ | ⟨_, _, _, nm, ps, q, av, cv, g, _⟩ | ⟨_, _, _, nm, ps, q, av, cv, W3, g, rfl, _⟩ | ⟨_, _, _, nm, ps, q, av, cv, g8, cap8, g, _⟩
  · exact hb
  · exact g.st.bx
  · rw [Below.heap_alloc _ _ _ (by have := (Array.getElem?_eq_some_iff.1 g.st.bx).1; omega)]; exact g.st.bx
  · exact g.bx
theorem tdR_up {l : List Tk} {i j : Nat} {x : G.Td} (h : TdR l i (some (x, j))) : i < j := by
  rcases h with ⟨_, e⟩ | ⟨_, ⟨_, e⟩ | ⟨_, ⟨_, e⟩ | ⟨_, r', h1, ⟨_, e⟩ | ⟨fs, j1, e1, e⟩⟩⟩⟩
  · cases e
  · cases e
  · cases e
  · cases e
  · cases e
    have := many_up (fun i x j (ho : FdR l i (some (x, j))) => fdR_up ho) h1 fs j e1
    omega
set_option maxHeartbeats 8000000 in
theorem sp_schema (ex : Array Value) (L c i : Nat) (a : Option Addr) (l : List Tk) (w : World) (h : RdSt 37 ex w L a c l i) (hl : l.length + 1 ≤ 1048576) :
    Calls Tryz.prog 13 #[.pointer (some ⟨L, 0, none⟩)] w (SchIs ex L l i w) := by
  obtain ⟨V0, hV0⟩ : ∃ V, V = (w.alloc (.cells #[.slice none 0 0] 24)).alloc (.cells #[.slice none 0 0] 24) := ⟨_, rfl⟩
  have BV : Below w.heap.size w V0 := by rw [hV0]; exact ((Below.refl _ _).alloc (Nat.le_refl _) _).alloc (by simp) _
  have F0 : Hid (ScS ex w L w.heap.size (w.heap.size + 1) a c l i (.slice none ([] : List Ty).length 0) [] V0) := by
    refine ⟨h.below BV, ?_, ?_, grown_below (grown_refl w _) BV, TdsAt.start _ _, h.lt, Nat.le_refl _, by omega⟩
    · rw [hV0, Below.heap_alloc _ _ _ (by simp)]; exact heap_alloc_new _ _
    · rw [hV0]
      have := heap_alloc_new (w.alloc (.cells #[.slice none 0 0] 24)) (.cells #[.slice none 0 0] 24)
      simpa using this
  have hi := h.le
  clear h BV
  obtain ⟨A, hA⟩ : ∃ z, z = w.heap.size + 1 := ⟨_, rfl⟩
  rw [← hA] at F0
  have HAA : Hid (A = w.heap.size + 1) := hA
  clear hA
  go_enter Tryz.func13, Tryz.ntmps13
  go_wp2_with fail
  rw [← hV0, ← HAA.out]
  clear hV0
  go_loopw [8] (fun _ w' => ∃ (k : Nat) (ts : List Ty) (aV : Option Addr) (cV : Nat), ts.length ≤ k ∧ k ≤ l.length ∧ Hid (ScS ex w L w.heap.size A a c l k (.slice aV ts.length cV) ts w') ∧ Hid (∀ r, Many (eofB l) (TdR l) k r → Many (eofB l) (TdR l) i (ahead (ts.map tyD) r))) (fun _ w' => l.length - rdPos w' L)
  case atStart => exact ⟨i, [], none, 0, Nat.zero_le _, hi, F0, fun r hr => by cases r with | none => exact hr | some p => exact hr⟩
  case round =>
    obtain ⟨k, ts, aV, cV, hpk, hk, HS, HM⟩ := hrel
    obtain ⟨wo, rfl⟩ : ∃ z, z = wr := ⟨_, rfl⟩
    have HQ : Hid _ := rd_ended 37 ex L c k a l wo HS.out.rd
    have HPO : Hid (rdPos wo L = k) := rdPos_of HS.out.rd
    obtain ⟨r, HR⟩ : ∃ r, Hid (r = eofB l k) := ⟨_, rfl⟩
    have HRD : Hid (decide (k = l.length) = r) := HR.out.symm
    rw [HRD.out] at HQ
    go_wp2_with fail
    refine Calls.mono HQ.out ?_
    rintro e w3 ⟨rfl, n3, hw3⟩
    have S3 : Hid (ScS ex w L w.heap.size A a c l k (.slice aV ts.length cV) ts w3) := by rw [Hid, hw3]; exact HS.out.call (HS.out.rd.drewN n3) (grown_drewN wo n3 _)
    clear HQ HS hw3 HRD
    cases r with
    | true =>
      have HE : Hid (Many (eofB l) (TdR l) i (some (ts.map tyD, k + 1))) := by
        have := HM.out _ (.stop HR.out.symm)
        simp only [ahead, List.append_nil] at this
        exact this
      clear HM HR
      have yA := fun o => row_cell S3.out.bx o
      have yR := fun o => row_cell S3.out.r o
      have fR := fun o => row_frozen S3.out.r o
      go_wp2_with fail
      refine bodyPost_ret (v := .agg #[.slice aV ts.length cV]) (results_schema _ _ w.heap.size _ rfl (row_set S3.out.r 0 (.slice aV ts.length cV)) rfl) rfl ⟨⟨_, HE.out, .inl ⟨ts, k + 1, aV, cV, rfl, rfl, ?_⟩⟩, ?_⟩
      · have nb : ∀ {b : Nat} {e : TypeId} {sz n : Nat} {v : Value} {xs : List Value}, w3.ownsRow b e sz v n xs → e ≠ 24 → ∀ g, v.ownBlock = some g → (w3.setCell ⟨w.heap.size, 0, none⟩ (.slice aV ts.length cV)).heap[g]? = w3.heap[g]? := fun ho hne g hg => by
          refine heap_setCell_other _ _ _ _ ?_
          show g ≠ w.heap.size
          rintro rfl
          rcases ho.2 with ⟨e1, _⟩ | ⟨g1, c1, u1, e1, _, q1, _⟩
          · rw [e1] at hg; simp [Value.ownBlock] at hg
          · rw [e1] at hg
            simp only [Value.ownBlock, Option.some.injEq] at hg
            rw [hg, S3.out.r] at q1
            simp only [Option.some.injEq, Obj.cells.injEq] at q1
            exact hne q1.2.1.symm
        refine ⟨own_keepT S3.out.ts.own (nb S3.out.ts.own (by decide)), fun t ht => ?_, S3.out.ts.apart⟩
        have hf := S3.out.ts.each t ht
        exact ⟨own_keepT hf.own (nb hf.own (by decide)), fun s hs => own_keepT (hf.each s hs) (nb (hf.each s hs) (by decide)), hf.apart⟩
      · repeat (refine grown_new ?_ (Nat.le_refl _) _)
        exact S3.out.gr
    | false =>
      go_upto_region 3 with fail
      obtain ⟨wd, hwd⟩ : ∃ z : World, z = w3.drew := ⟨_, rfl⟩
      have SD : Hid (ScS ex w L w.heap.size A a c l k (.slice aV ts.length cV) ts wd) := by rw [Hid, hwd]; exact S3.out.same
      have HWD : Hid (wd = w3.drew) := hwd
      have hwz := SD.out.gr.size
      have HNN : Hid (∀ t (ht : t < ts.length) g, blkF ts[t].2.1 ts[t].2.2 g → g < wd.heap.size) := fun t ht g hg => ((SD.out.ts.each t ht).blk hg).2
      clear hwd S3
      refine G.region_rel5 (n := 7) (k := 1) (by omega) (by kernel_rfl) (by kernel_rfl) (by kernel_rfl) (fun u => ⟨#[.pointer (some ⟨L, 0, none⟩), undef, .pointer (some ⟨w.heap.size, 0, none⟩), .pointer (some ⟨A, 0, none⟩), .pointer (some ⟨L, 0, none⟩), .pointer (some ⟨L, 0, none⟩), .pointer (some ⟨L, 0, none⟩), .bool false, .bool true, u 9, u 10, u 11, u 12, u 13, u 14, u 15, undef], []⟩) (fun nz => match nz with | 9 => u9 | 10 => u10 | 11 => u11 | 12 => u12 | 13 => u13 | 14 => u14 | 15 => u15 | _ => undef) (fun iz => iz + 9) (fun iz jz _ _ h => by omega)
        (fun iz y _ => match iz with | 0 => y = .pointer (some ⟨A, 0, none⟩) | 1 => y = .slice aV ts.length cV | 2 => y = .pointer (some ⟨L, 0, none⟩) | 6 => y = .pointer (some ⟨A, 0, none⟩) | _ => True) (fun D u W => ScJ ex w wd L w.heap.size A a c l k (.slice aV ts.length cV) ts D u W) (.inl ⟨by simp, by simp, by simp, HWD.out.symm⟩) ?step ?last
      case step =>
        intro D u W iq hi hLs hLi hj hdep
        have HJ : Hid (ScJ ex w wd L w.heap.size A a c l k (.slice aV ts.length cV) ts D u W) := hj
        have HLI : Hid _ := hLi
        have xA := fun o => row_cell (hj.box SD.out.bx) o
        have hcase : iq = 0 ∨ iq = 1 ∨ iq = 2 ∨ iq = 3 ∨ iq = 4 ∨ iq = 5 ∨ iq = 6 := by omega
        clear hj hLi hi hLs
        rcases hcase with rfl | rfl | rfl | rfl | rfl | rfl | rfl
        · clear hdep
          refine wpOp_step rfl (fun K hK => ?_)
          go_simp
          exact hK _ _ ⟨.pointer (some ⟨A, 0, none⟩), by simp [G.upd], fun _ _ h => h, rfl, HJ.out.other (by decide) (by decide) (by decide) (by decide) (by decide) (by decide)⟩
        · have d0 : u 9 = .pointer (some ⟨A, 0, none⟩) := (hdep _ rfl ⟨0, .data⟩ (by simp) rfl).2
          clear hdep
          refine wpOp_step rfl (fun K hK => ?_)
          go_simp
          exact hK _ _ ⟨.slice aV ts.length cV, by simp [G.upd, d0], fun _ _ h => h, rfl, HJ.out.other (by decide) (by decide) (by decide) (by decide) (by decide) (by decide)⟩
        · clear hdep
          refine wpOp_step rfl (fun K hK => ?_)
          go_simp
          exact hK _ _ ⟨.pointer (some ⟨L, 0, none⟩), by simp [G.upd], fun _ _ h => h, rfl, HJ.out.other (by decide) (by decide) (by decide) (by decide) (by decide) (by decide)⟩
        · have d2 : u 11 = .pointer (some ⟨L, 0, none⟩) := (hdep _ rfl ⟨2, .data⟩ (by simp) rfl).2
          obtain ⟨b4, b5, hW⟩ : D.getD 4 false = false ∧ D.getD 5 false = false ∧ W = wd := by
            have h3 := getD_notT HLI.out
            rcases HJ.out with ⟨_, h4, h5, e⟩ | ⟨h, _⟩ | ⟨h, _⟩ | ⟨h, _⟩
            · exact ⟨h4, h5, e⟩
            all_goals rw [h3] at h; cases h
          clear hdep HJ xA
          replace hW := hW.symm
          subst hW
          have HQF : Hid _ := sp_typeDef ex L c k a l wd SD.out.rd (by omega)
          refine wpOp_step rfl (fun K hK => ?_)
          go_simp
          refine Calls.mono HQF.out ?_
          rintro e w4 ⟨⟨r4, hr4, ⟨nm, ps, q, av, cv, rfl, rfl, ox, sx⟩ | ⟨rfl, rfl⟩⟩, g4⟩
          · refine hK _ _ ⟨.agg (tdC nm ps av cv), by simp [G.upd, d2, tdV, tdC], fun _ _ h => h, trivial, .inr (.inl ⟨getD_putT HLI.out, ?_, ?_, nm, ps, q, av, cv, ⟨SD.out.call sx g4, hr4, ox⟩, by rw [G.upd_at]⟩)⟩
            · rw [getD_set_ne false (by decide)]; exact b4
            · rw [getD_set_ne false (by decide)]; exact b5
          · have HE : Hid (Many (eofB l) (TdR l) i none) := HM.out _ (.bad HR.out.symm hr4)
            have G4 : Hid (w.grownBy w4 (some L)) := grown_trans SD.out.gr g4
            exact ⟨rfl, ⟨none, HE.out, .inr ⟨rfl, rfl⟩⟩, G4.out⟩
        · have l3 := (hdep _ rfl ⟨3, .data⟩ (by simp) rfl).1
          obtain ⟨b5, nm, ps, q, av, cv, hgot, d3⟩ : D.getD 5 false = false ∧ ∃ nm ps q av cv, GotT ex w wd L w.heap.size A a c l k (.slice aV ts.length cV) ts nm ps q av cv W ∧ u 12 = .agg (tdC nm ps av cv) := by
            have h4 := getD_notT HLI.out
            rcases HJ.out with ⟨h, _⟩ | ⟨_, _, h5, e⟩ | ⟨_, h, _⟩ | ⟨_, h, _⟩
            · rw [l3] at h; cases h
            · exact ⟨h5, e⟩
            all_goals rw [h4] at h; cases h
          have HGOT : Hid _ := hgot
          clear hdep HJ xA hgot
          refine wpOp_step rfl (fun K hK => ?_)
          go_simp
          refine hK _ _ ⟨.slice (some ⟨W.heap.size, 0, none⟩) 1 1, by simp [G.upd, d3], fun _ _ h => h, trivial, .inr (.inr (.inl ⟨?_, getD_putT HLI.out, ?_, nm, ps, q, av, cv, W, HGOT.out, rfl, by rw [G.upd_at]⟩))⟩
          · rw [getD_set_ne false (by decide)]; exact l3
          · rw [getD_set_ne false (by decide)]; exact b5
        · have l4 := (hdep _ rfl ⟨4, .data⟩ (by simp) rfl).1
          have d1 : u 10 = .slice aV ts.length cV := (hdep _ rfl ⟨1, .data⟩ (by simp) rfl).2
          obtain ⟨l3, nm, ps, q, av, cv, W3, hgot, hW, d4⟩ : D.getD 3 false = true ∧ ∃ nm ps q av cv W3, GotT ex w wd L w.heap.size A a c l k (.slice aV ts.length cV) ts nm ps q av cv W3 ∧ W = W3.alloc (.cells (tdC nm ps av cv) 49) ∧ u 13 = .slice (some ⟨W3.heap.size, 0, none⟩) 1 1 := by
            have h5 := getD_notT HLI.out
            rcases HJ.out with ⟨_, h, _⟩ | ⟨_, h, _⟩ | ⟨h3, _, _, e⟩ | ⟨_, _, h, _⟩
            · rw [l4] at h; cases h
            · rw [l4] at h; cases h
            · exact ⟨h3, e⟩
            · rw [h5] at h; cases h
          obtain ⟨g8, cap8, W8, hrun, hput⟩ := hgot.put hwz HNN.out (by omega)
          clear hdep HJ xA
          subst hW
          refine wpOp_step rfl (fun K hK => ?_)
          refine wp_append_runT (.tmp 10) (.tmp 13) _ rfl _ _ _ _ d1 d4 hrun ?_
          refine hK _ _ ⟨.slice (some ⟨g8, 0, none⟩) (ts.length + 1) cap8, by simp [Act.put, G.upd, d1, d4], fun _ _ h => h, trivial, .inr (.inr (.inr ⟨?_, ?_, getD_putT HLI.out, nm, ps, q, av, cv, g8, cap8, hput, by rw [G.upd_at]⟩))⟩
          · rw [getD_set_ne false (by decide)]; exact l3
          · rw [getD_set_ne false (by decide)]; exact l4
        · clear hdep
          refine wpOp_step rfl (fun K hK => ?_)
          go_simp
          exact hK _ _ ⟨.pointer (some ⟨A, 0, none⟩), by simp [G.upd], fun _ _ h => h, rfl, HJ.out.other (by decide) (by decide) (by decide) (by decide) (by decide) (by decide)⟩
      case last =>
        intro D u W hLs hD hj hp
        obtain ⟨nm, ps, q, av, cv, g8, cap8, hput, d5⟩ : ∃ nm ps q av cv g8 cap8, PutT ex w wd L w.heap.size A a c l k (.slice aV ts.length cV) ts nm ps q av cv g8 cap8 W ∧ u 14 = .slice (some ⟨g8, 0, none⟩) (ts.length + 1) cap8 := by
          rcases hj with ⟨h, _⟩ | ⟨_, h, _⟩ | ⟨_, _, h, _⟩ | ⟨_, _, _, e⟩
          · rw [hD 3 (by omega)] at h; cases h
          · rw [hD 4 (by omega)] at h; cases h
          · rw [hD 5 (by omega)] at h; cases h
          · exact e
        have d6 : u 15 = .pointer (some ⟨A, 0, none⟩) := hp 6 (by omega)
        have HPUT : Hid _ := hput
        have hkq := tdR_up hput.td
        have hq := hput.rd.le
        have HM2 : Hid (∀ r, Many (eofB l) (TdR l) q r → Many (eofB l) (TdR l) i (ahead ((ts ++ [(nm, Value.slice av ps.length cv, ps)]).map tyD) r)) := fun r hr => by
          have := HM.out _ (Many.step HR.out.symm HPUT.out.td hr)
          rw [ahead_ahead] at this
          rw [List.map_append]
          exact this
        have SN : Hid (ScS ex w L w.heap.size A a c l q (.slice (some ⟨g8, 0, none⟩) (ts ++ [(nm, Value.slice av ps.length cv, ps)]).length cap8) (ts ++ [(nm, .slice av ps.length cv, ps)]) (W.setCell ⟨A, 0, none⟩ (.slice (some ⟨g8, 0, none⟩) (ts.length + 1) cap8))) := by
          have h1 := SD.out.hL
          have h2 := SD.out.hA
          refine ⟨hput.rd.keep fun g hg => heap_setCell_other _ _ _ _ (by show g ≠ A; omega), ?_, ?_, grown_new hput.gr (by omega) _, ?_, h1, SD.out.hR, h2⟩
          · rw [heap_setCell_other _ _ _ _ (by show w.heap.size ≠ A; omega)]; exact hput.r
          · have := row_set hput.bx 0 (.slice (some ⟨g8, 0, none⟩) (ts.length + 1) cap8)
            simpa using this
          · have hf := hput.ts
            rw [show (ts ++ [(nm, Value.slice av ps.length cv, ps)]).length = ts.length + 1 by simp]
            have nb : ∀ {b : Nat} {e : TypeId} {sz n : Nat} {v : Value} {xs : List Value}, W.ownsRow b e sz v n xs → e ≠ 24 → ∀ g, v.ownBlock = some g → (W.setCell ⟨A, 0, none⟩ (.slice (some ⟨g8, 0, none⟩) (ts.length + 1) cap8)).heap[g]? = W.heap[g]? := fun ho hne g hg => by
              refine heap_setCell_other _ _ _ _ ?_
              show g ≠ A
              rintro rfl
              rcases ho.2 with ⟨e1, _⟩ | ⟨g1, c1, u1, e1, _, q1, _⟩
              · rw [e1] at hg; simp [Value.ownBlock] at hg
              · rw [e1] at hg
                simp only [Value.ownBlock, Option.some.injEq] at hg
                rw [hg, hput.bx] at q1
                simp only [Option.some.injEq, Obj.cells.injEq] at q1
                exact hne q1.2.1.symm
            refine ⟨own_keepT hf.own (nb hf.own (by decide)), fun t ht => ?_, hf.apart⟩
            have hf2 := hf.each t ht
            exact ⟨own_keepT hf2.own (nb hf2.own (by decide)), fun s hs => own_keepT (hf2.each s hs) (nb (hf2.each s hs) (by decide)), hf2.apart⟩
        have HP8 : Hid (rdPos (W.setCell ⟨A, 0, none⟩ (.slice (some ⟨g8, 0, none⟩) (ts.length + 1) cap8)) L = q) := rdPos_of SN.out.rd
        have yA := fun o => row_cell hput.bx o
        have fA := fun o => row_frozen hput.bx o
        clear hp hj hD hput HM HR SD
        unfold G.wpTail
        refine wpOp_step rfl (fun K hK => ?_)
        go_simp
        refine hK _ _ ?_
        clear hK
        unfold G.wpTail
        go_wp2_with fail
        exact ⟨⟨q, ts ++ [(nm, .slice av ps.length cv, ps)], some ⟨g8, 0, none⟩, cap8, by simp; omega, hq, SN, HM2⟩, by rw [HP8.out, HPO.out]; omega⟩
end Go.Proofs.YtnfoinmccigdfaaGreatDoor
