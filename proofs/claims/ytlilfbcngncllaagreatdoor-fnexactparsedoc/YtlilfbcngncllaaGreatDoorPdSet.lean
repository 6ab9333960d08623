/- The program's reader of documents: a selection, a set. -/
import Derived.Test.YtlilfbcngncllaaGreatDoorPdSpread
namespace Go.Proofs.YtlilfbcngncllaaGreatDoor
open Go.ChangeShapes Go.WideShapes Go.ChangeAt Go.RowKit
set_option linter.unusedVariables false

theorem results_field (tmps : Array Value) (W : World) (N : Nat) (cs : Array Value) (h2 : tmps.getD 2 undef = .pointer (some ⟨N, 0, none⟩)) (hrow : W.heap[N]? = some (.cells cs 84 (0, 0))) (hsz : cs.size = 6) :
    (results Tryz.f94 tmps).run Tryz.prog W = .ok (.agg cs) W := by
  have c39 : (Tryz.prog.info? 84).map (·.size) = some 6 := by kernel_rfl
  exact results_cell_row Tryz.results94 tmps W N 84 cs (0, 0) _ h2 hrow Tryz.underlying84 rfl (by rw [hsz]; exact c39)
set_option maxHeartbeats 8000000 in
theorem pd_field (d : Nat) (hset : SetOk d) (s L c i : Nat) (a : Option Addr) (l : List Tk) (w : World) (hsd : s + d = 7) (h : RdSt 37 #[.int .i64 s] w L a c l i) (hl : TkG l) :
    Calls Tryz.prog 94 #[.pointer (some ⟨L, 0, none⟩)] w (OneP #[.int .i64 s] L a c l (fin d (pFld l i)) w) := by
  obtain ⟨P, HP⟩ : ∃ P, Hid (P = fin d (pFld l i)) := ⟨_, rfl⟩
  rw [← HP.out]
  have HG : Hid _ := hl
  have HSET : Hid _ := hset
  obtain ⟨V, hV⟩ : ∃ V, V = w.alloc (.cells #[.int .i64 0, .string ⟨#[]⟩, .string ⟨#[]⟩, .slice none 0 0, .slice none 0 0, .slice none 0 0] 84) := ⟨_, rfl⟩
  have BV : Below w.heap.size w V := by rw [hV]; exact (Below.refl _ _).alloc (Nat.le_refl _) _
  have cV : V.heap[w.heap.size]? = some (.cells #[.int .i64 0, .string ⟨#[]⟩, .string ⟨#[]⟩, .slice none 0 0, .slice none 0 0, .slice none 0 0] 84 (0, 0)) := by rw [hV]; exact heap_alloc_new _ _
  have zV : w.heap.size < V.heap.size := by rw [hV]; simp
  have hLw := h.lt
  have HQ : Hid _ := rd_name 37 #[.int .i64 s] L c i a l V (h.below BV) hl.len
  have GV : Hid (w.grownBy V (some L)) := grown_below (grown_refl w _) BV
  have HCV : Hid _ := cV
  clear h BV cV hl hset
  unfold pFld at HP
  go_enter Tryz.func94, Tryz.ntmps94
  go_upto_region 1 with fail
  rw [← hV]
  clear hV
  go_wp2_with fail
  refine Calls.mono HQ.out ?_
  rintro e w1 ⟨⟨hn, rfl, s1⟩ | ⟨hn, rfl⟩, g1⟩
  case inr =>
    have HE : Hid (P = .form) := by rw [Hid, HP.out, if_pos hn]; rfl
    have G1 : Hid (w.grownBy w1 (some L)) := grown_trans GV.out g1
    clear g1 HQ hn
    go_wp2_with fail
    exact ⟨rfl, .inr (.inl ⟨HE.out, rfl⟩), G1.out⟩
  have z1 := g1.size
  have HP1 : Hid _ := HP.out.trans (congrArg (fin d) (if_neg hn))
  have C1 : Hid (w1.heap[w.heap.size]? = _) := grown_keeps HCV.out zV g1 (by omega)
  have G1 : Hid (w.grownBy w1 (some L)) := grown_trans GV.out g1
  obtain ⟨nm, hnm⟩ : ∃ z, z = nmI l i := ⟨_, rfl⟩
  rw [← hnm] at HP1 ⊢
  obtain ⟨U, hU⟩ : ∃ U, U = w1.alloc (.cells #[.int .i64 1, .string ⟨#[]⟩, .string nm, .slice none 0 0, .slice none 0 0, .slice none 0 0] 84) := ⟨_, rfl⟩
  have BU : Below w1.heap.size w1 U := by rw [hU]; exact (Below.refl _ _).alloc (Nat.le_refl _) _
  have SU : Hid (SlS #[.int .i64 s] w L (w1.heap.size) a c l (i + 1) 1 ⟨#[]⟩ nm (.slice none 0 0) (.slice none 0 0) (.slice none 0 0) U) := by
    refine ⟨s1.below BU, grown_below G1.out BU, (BU.block _ (by omega)).trans C1.out, ?_, hLw, by omega⟩
    rw [hU]; exact heap_alloc_new _ _
  have HQ2 : Hid _ := rd_passes 37 #[.int .i64 s] L c (i + 1) a l ⟨#[58]⟩ U SU.out.st HG.out.len
  clear hn s1 g1 HQ HCV GV C1 G1 hnm BU HP
  go_upto_region 2 with fail
  rw [← hU]
  clear hU
  obtain ⟨r7, HR7⟩ : ∃ r, Hid (r = tkE (nxT l (i + 1)) ⟨4, 0, ⟨#[58]⟩⟩) := ⟨_, rfl⟩
  rw [← HR7.out] at HQ2 HP1
  clear HR7
  go_wp2_with fail
  refine Calls.mono HQ2.out ?_
  rintro e w2 ⟨rfl, s2, g2⟩
  have S2 : Hid _ := SU.out.call s2 g2
  clear s2 g2 HQ2 SU
  cases r7 with
  | false =>
    have SX0 : Hid (SlS #[.int .i64 s] w L (w1.heap.size) a c l (i + 1) 1 ⟨#[]⟩ nm (.slice none 0 0) (.slice none 0 0) (.slice none 0 0) w2) := S2.out
    have HPa : Hid (P = fin d (pFlA l ⟨#[]⟩ nm (i + 1))) := by rw [Hid, HP1.out, if_neg (by decide)]
    clear S2 HP1
    have HQb : Hid _ := rd_passes 37 #[.int .i64 s] L c (i + 1) a l ⟨#[40]⟩ w2 SX0.out.st HG.out.len
    unfold pFlA at HPa
    obtain ⟨r8, HR8⟩ : ∃ r, Hid (r = tkE (nxT l (i + 1)) ⟨4, 0, ⟨#[40]⟩⟩) := ⟨_, rfl⟩
    rw [← HR8.out] at HQb HPa
    clear HR8
    go_wp2_with fail
    refine Calls.mono HQb.out ?_
    rintro e w3 ⟨rfl, s3, g3⟩
    have S3 : Hid _ := SX0.out.call s3 g3
    clear s3 g3 HQb SX0
    cases r8 with
    | false =>
      have SX : Hid (SlS #[.int .i64 s] w L (w1.heap.size) a c l (i + 1) 1 ⟨#[]⟩ nm (.slice none 0 0) (.slice none 0 0) (.slice none 0 0) w3) := S3.out
      have HPd : Hid (P = fin d ((pDirs (l.drop (i + 1))).map fun y => (⟨1, ⟨#[]⟩, nm, [], y.1⟩, atM [123] y.2, y.2))) := by rw [Hid, HPa.out, if_neg (by decide)]; rfl
      have HA1 : Hid (w3.ownsRow (w1.heap.size + 1) 103 4 (.slice none 0 0) ([] : List Ar).length (arVs [])) := ⟨rfl, .inl ⟨rfl, rfl⟩⟩
      clear HPa S3
      have HQd : Hid _ := pd_dirs #[.int .i64 s] L c (i + 1) a l w3 SX.out.st HG.out
      go_wp2_with fail
      refine Calls.mono HQd.out ?_
      rintro e w5 ⟨⟨ds, j5, a4, c4, hx, rfl, own, s5⟩ | ⟨hx, rfl⟩, g5⟩
      case inr =>
        have HE : Hid (P = .form) := by rw [Hid, HPd.out, hx]; rfl
        have G5 : Hid (w.grownBy w5 (some L)) := grown_trans SX.out.gr g5
        clear g5 HQd hx SX
        go_wp2_with fail
        exact ⟨rfl, .inr (.inl ⟨HE.out, rfl⟩), G5.out⟩
      have HP5 : Hid (P = fin d (some (⟨1, ⟨#[]⟩, nm, [], ds⟩, tkE (nxT l j5) ⟨4, 0, ⟨#[123]⟩⟩, l.drop j5))) := by rw [Hid, HPd.out, hx, ← at_lit HG.out #[123]]; rfl
      have S5 : Hid _ := SX.out.call s5 g5
      have O5 : Hid (Own2 w5 (w1.heap.size) [] (.slice none 0 0) ds (.slice a4 ds.length c4)) := Own2.make (W0 := w3) HA1.out g5 (by have := SX.out.low; have := SX.out.hN; omega) (Array.getElem?_eq_some_iff.1 SX.out.x).1 own
      clear hx own s5 g5 HQd SX HPd HA1
      obtain ⟨Y, hY⟩ : ∃ Y : World, Y = w5.setCell ⟨w1.heap.size, 4, none⟩ (.slice a4 ds.length c4) := ⟨_, rfl⟩
      have SY : Hid (SlS #[.int .i64 s] w L (w1.heap.size) a c l j5 1 ⟨#[]⟩ nm (.slice none 0 0) (.slice a4 ds.length c4) (.slice none 0 0) Y) := by rw [Hid, hY]; exact S5.out.put 4 _ rfl
      have OY : Hid (Own2 Y (w1.heap.size) [] (.slice none 0 0) ds (.slice a4 ds.length c4)) := by rw [Hid, hY]; exact O5.out.set _ (Nat.le_refl _)
      have f3 := fun o => row_frozen S5.out.x o
      have y3 := fun o => row_cell S5.out.x o
      go_upto_region 8 with fail
      rw [← hY]
      clear hY f3 y3 S5 O5
      have HQp : Hid _ := rd_atPunct 37 #[.int .i64 s] L c j5 a l ⟨#[123]⟩ Y SY.out.st
      obtain ⟨r9, HR9⟩ : ∃ r, Hid (r = tkE (nxT l j5) ⟨4, 0, ⟨#[123]⟩⟩) := ⟨_, rfl⟩
      rw [← HR9.out] at HQp HP5
      clear HR9
      go_wp2_with fail
      refine Calls.mono HQp.out ?_
      rintro e w7 ⟨rfl, b7⟩
      have S7 : Hid _ := SY.out.call (SY.out.st.below b7) (grown_below (grown_refl _ _) b7)
      have O7 : Hid (Own2 w7 (w1.heap.size) [] (.slice none 0 0) ds (.slice a4 ds.length c4)) := OY.out.keep b7.size fun g _ h2 => b7.block g h2
      clear b7 HQp SY OY
      cases r9 with
      | false =>
        have HE : Hid (P = .ok (⟨1, ⟨#[]⟩, nm, [], ds⟩, .nil) (l.drop j5)) := by rw [Hid, HP5.out]; rfl
        have OQ : Hid (OneB (w1.heap.size + 1) w7 ⟨1, ⟨#[]⟩, nm, [], ds⟩ .nil (.slice none 0 0) (.slice a4 ds.length c4) (.slice none 0 0)) := Own2.one (h := ⟨1, ⟨#[]⟩, nm, [], ds⟩) O7.out (RowK.nil _ _) (Nat.le_refl _) (fun _ _ _ => rfl) (Nat.le_refl _)
        have D := S7.out.done OQ.out (.int .i64 1) (.string ⟨#[]⟩) (.string nm) (.slice none 0 0) (.slice a4 ds.length c4) (.slice none 0 0)
        have HD9 : Hid _ := D
        have xA := fun o => row_cell S7.out.x o
        have xR := fun o => row_cell S7.out.res o
        have fR := fun o => row_frozen S7.out.res o
        clear D
        go_wp2_with fail
        exact bodyPost_ret (v := .agg #[.int .i64 1, .string ⟨#[]⟩, .string nm, .slice none 0 0, .slice a4 ds.length c4, .slice none 0 0]) (results_field _ _ w.heap.size _ rfl HD9.out.2.2.2 rfl) rfl ⟨.inl ⟨⟨1, ⟨#[]⟩, nm, [], ds⟩, .nil, _, _, _, _, _, _, _, HE.out, rfl, HD9.out.2.1, HD9.out.1⟩, HD9.out.2.2.1⟩
      | true =>
        have HQs : Hid _ := HSET.out s L c j5 a l w7 hsd S7.out.st HG.out
        have z6 := (Array.getElem?_eq_some_iff.1 S7.out.x).1
        have xk := fun o => row_cell S7.out.x o
        go_wp2_with fail
        refine Calls.mono HQs.out ?_
        clear xk
        rintro e w6 ⟨⟨sub, j6, a5, c5, hR, rfl, row, s6⟩ | ⟨hR, rfl⟩ | ⟨hR, rfl⟩, g6⟩
        case inr.inl =>
          have HE : Hid (P = .form) := by rw [Hid, HP5.out]; unfold fin; simp only; rw [hR]
          have G6 : Hid (w.grownBy w6 (some L)) := grown_trans S7.out.gr g6
          clear g6 HQs hR
          go_wp2_with fail
          exact ⟨rfl, .inr (.inl ⟨HE.out, rfl⟩), G6.out⟩
        case inr.inr =>
          have HE : Hid (P = .deep) := by rw [Hid, HP5.out]; unfold fin; simp only; rw [hR]
          have G6 : Hid (w.grownBy w6 (some L)) := grown_trans S7.out.gr g6
          clear g6 HQs hR
          go_wp2_with fail
          exact ⟨rfl, .inr (.inr ⟨HE.out, rfl⟩), G6.out⟩
        have HE : Hid (P = .ok (⟨1, ⟨#[]⟩, nm, [], ds⟩, sub) (l.drop j6)) := by rw [Hid, HP5.out]; unfold fin; simp only; rw [hR]
        have S6 : Hid _ := S7.out.call s6 g6
        obtain ⟨ws, bk, R6⟩ := row
        have hlow := S7.out.low
        have hhN := S7.out.hN
        have O6 : Hid (OneB (w1.heap.size + 1) w6 ⟨1, ⟨#[]⟩, nm, [], ds⟩ sub (.slice none 0 0) (.slice a4 ds.length c4) (.slice a5 sub.len c5)) := Own2.one (h := ⟨1, ⟨#[]⟩, nm, [], ds⟩) O7.out R6 g6.size (fun g h1 h2 => grown_same g6 h2 (by omega)) (Nat.le_refl _)
        clear hR s6 g6 HQs R6 z6 S7 O7 HP5
        obtain ⟨Q, hQ⟩ : ∃ Q : World, Q = w6.setCell ⟨w1.heap.size, 5, none⟩ (.slice a5 sub.len c5) := ⟨_, rfl⟩
        have SQ : Hid (SlS #[.int .i64 s] w L (w1.heap.size) a c l j6 1 ⟨#[]⟩ nm (.slice none 0 0) (.slice a4 ds.length c4) (.slice a5 sub.len c5) Q) := by rw [Hid, hQ]; exact S6.out.put 5 _ rfl
        have OQ : Hid (OneB (w1.heap.size + 1) Q ⟨1, ⟨#[]⟩, nm, [], ds⟩ sub (.slice none 0 0) (.slice a4 ds.length c4) (.slice a5 sub.len c5)) := by rw [Hid, hQ]; exact O6.out.set _ (Nat.lt_succ_self _)
        have f3 := fun o => row_frozen S6.out.x o
        have y3 := fun o => row_cell S6.out.x o
        go_upto_region 10 with fail
        rw [← hQ]
        clear hQ f3 y3 S6 O6 hlow hhN

        have D := SQ.out.done OQ.out (.int .i64 1) (.string ⟨#[]⟩) (.string nm) (.slice none 0 0) (.slice a4 ds.length c4) (.slice a5 sub.len c5)
        have HD9 : Hid _ := D
        have xA := fun o => row_cell SQ.out.x o
        have xR := fun o => row_cell SQ.out.res o
        have fR := fun o => row_frozen SQ.out.res o
        clear D
        go_wp2_with fail
        exact bodyPost_ret (v := .agg #[.int .i64 1, .string ⟨#[]⟩, .string nm, .slice none 0 0, .slice a4 ds.length c4, .slice a5 sub.len c5]) (results_field _ _ w.heap.size _ rfl HD9.out.2.2.2 rfl) rfl ⟨.inl ⟨⟨1, ⟨#[]⟩, nm, [], ds⟩, sub, _, _, _, _, _, _, _, HE.out, rfl, HD9.out.2.1, HD9.out.1⟩, HD9.out.2.2.1⟩
    | true =>
      have T3 : Hid (SlS #[.int .i64 s] w L (w1.heap.size) a c l (i + 1 + 1) 1 ⟨#[]⟩ nm (.slice none 0 0) (.slice none 0 0) (.slice none 0 0) w3) := S3.out
      have HPb : Hid (P = fin d ((pArgs1 (l.drop (i + 1 + 1))).bind fun x => (pDirs x.2).map fun y => (⟨1, ⟨#[]⟩, nm, x.1, y.1⟩, atM [123] y.2, y.2))) := by rw [Hid, HPa.out, if_pos rfl]
      clear HPa S3
      have HQa : Hid _ := pd_args #[.int .i64 s] L c (i + 1 + 1) a l w3 T3.out.st HG.out
      go_wp2_with fail
      refine Calls.mono HQa.out ?_
      rintro e w4 ⟨⟨us, j4, a3, c3, hx, rfl, own, s4⟩ | ⟨hx, rfl⟩, g4⟩
      case inr =>
        have HE : Hid (P = .form) := by rw [Hid, HPb.out, hx]; rfl
        have G4 : Hid (w.grownBy w4 (some L)) := grown_trans T3.out.gr g4
        clear g4 HQa hx T3
        go_wp2_with fail
        exact ⟨rfl, .inr (.inl ⟨HE.out, rfl⟩), G4.out⟩
      have HPd : Hid (P = fin d ((pDirs (l.drop j4)).map fun y => (⟨1, ⟨#[]⟩, nm, us, y.1⟩, atM [123] y.2, y.2))) := by rw [Hid, HPb.out, hx]; rfl
      have S4 : Hid _ := T3.out.call s4 g4
      have A4 : Hid (w4.ownsRow (w1.heap.size + 1) 103 4 (.slice a3 us.length c3) us.length (arVs us)) := owns_base own fun g hg => by have := (World.ownsRow.lt own g hg).1; have := (Array.getElem?_eq_some_iff.1 T3.out.x).1; omega
      clear hx own s4 g4 HQa T3 HPb
      obtain ⟨X, hX⟩ : ∃ X : World, X = w4.setCell ⟨w1.heap.size, 3, none⟩ (.slice a3 us.length c3) := ⟨_, rfl⟩
      have SX : Hid (SlS #[.int .i64 s] w L (w1.heap.size) a c l j4 1 ⟨#[]⟩ nm (.slice a3 us.length c3) (.slice none 0 0) (.slice none 0 0) X) := by rw [Hid, hX]; exact S4.out.put 3 _ rfl
      have HA1 : Hid (X.ownsRow (w1.heap.size + 1) 103 4 (.slice a3 us.length c3) us.length (arVs us)) := by rw [Hid, hX]; exact owns_same A4.out fun g hg => heap_setCell_other _ _ _ _ (by have := (World.ownsRow.lt A4.out g hg).1; show g ≠ w1.heap.size; omega)
      have f3 := fun o => row_frozen S4.out.x o
      have y3 := fun o => row_cell S4.out.x o
      go_upto_region 7 with fail
      rw [← hX]
      clear hX f3 y3 S4 A4
      have HQd : Hid _ := pd_dirs #[.int .i64 s] L c (j4) a l X SX.out.st HG.out
      go_wp2_with fail
      refine Calls.mono HQd.out ?_
      rintro e w5 ⟨⟨ds, j5, a4, c4, hx, rfl, own, s5⟩ | ⟨hx, rfl⟩, g5⟩
      case inr =>
        have HE : Hid (P = .form) := by rw [Hid, HPd.out, hx]; rfl
        have G5 : Hid (w.grownBy w5 (some L)) := grown_trans SX.out.gr g5
        clear g5 HQd hx SX
        go_wp2_with fail
        exact ⟨rfl, .inr (.inl ⟨HE.out, rfl⟩), G5.out⟩
      have HP5 : Hid (P = fin d (some (⟨1, ⟨#[]⟩, nm, us, ds⟩, tkE (nxT l j5) ⟨4, 0, ⟨#[123]⟩⟩, l.drop j5))) := by rw [Hid, HPd.out, hx, ← at_lit HG.out #[123]]; rfl
      have S5 : Hid _ := SX.out.call s5 g5
      have O5 : Hid (Own2 w5 (w1.heap.size) us (.slice a3 us.length c3) ds (.slice a4 ds.length c4)) := Own2.make (W0 := X) HA1.out g5 (by have := SX.out.low; have := SX.out.hN; omega) (Array.getElem?_eq_some_iff.1 SX.out.x).1 own
      clear hx own s5 g5 HQd SX HPd HA1
      obtain ⟨Y, hY⟩ : ∃ Y : World, Y = w5.setCell ⟨w1.heap.size, 4, none⟩ (.slice a4 ds.length c4) := ⟨_, rfl⟩
      have SY : Hid (SlS #[.int .i64 s] w L (w1.heap.size) a c l j5 1 ⟨#[]⟩ nm (.slice a3 us.length c3) (.slice a4 ds.length c4) (.slice none 0 0) Y) := by rw [Hid, hY]; exact S5.out.put 4 _ rfl
      have OY : Hid (Own2 Y (w1.heap.size) us (.slice a3 us.length c3) ds (.slice a4 ds.length c4)) := by rw [Hid, hY]; exact O5.out.set _ (Nat.le_refl _)
      have f3 := fun o => row_frozen S5.out.x o
      have y3 := fun o => row_cell S5.out.x o
      go_upto_region 8 with fail
      rw [← hY]
      clear hY f3 y3 S5 O5
      have HQp : Hid _ := rd_atPunct 37 #[.int .i64 s] L c j5 a l ⟨#[123]⟩ Y SY.out.st
      obtain ⟨r9, HR9⟩ : ∃ r, Hid (r = tkE (nxT l j5) ⟨4, 0, ⟨#[123]⟩⟩) := ⟨_, rfl⟩
      rw [← HR9.out] at HQp HP5
      clear HR9
      go_wp2_with fail
      refine Calls.mono HQp.out ?_
      rintro e w7 ⟨rfl, b7⟩
      have S7 : Hid _ := SY.out.call (SY.out.st.below b7) (grown_below (grown_refl _ _) b7)
      have O7 : Hid (Own2 w7 (w1.heap.size) us (.slice a3 us.length c3) ds (.slice a4 ds.length c4)) := OY.out.keep b7.size fun g _ h2 => b7.block g h2
      clear b7 HQp SY OY
      cases r9 with
      | false =>
        have HE : Hid (P = .ok (⟨1, ⟨#[]⟩, nm, us, ds⟩, .nil) (l.drop j5)) := by rw [Hid, HP5.out]; rfl
        have OQ : Hid (OneB (w1.heap.size + 1) w7 ⟨1, ⟨#[]⟩, nm, us, ds⟩ .nil (.slice a3 us.length c3) (.slice a4 ds.length c4) (.slice none 0 0)) := Own2.one (h := ⟨1, ⟨#[]⟩, nm, us, ds⟩) O7.out (RowK.nil _ _) (Nat.le_refl _) (fun _ _ _ => rfl) (Nat.le_refl _)
        have D := S7.out.done OQ.out (.int .i64 1) (.string ⟨#[]⟩) (.string nm) (.slice a3 us.length c3) (.slice a4 ds.length c4) (.slice none 0 0)
        have HD9 : Hid _ := D
        have xA := fun o => row_cell S7.out.x o
        have xR := fun o => row_cell S7.out.res o
        have fR := fun o => row_frozen S7.out.res o
        clear D
        go_wp2_with fail
        exact bodyPost_ret (v := .agg #[.int .i64 1, .string ⟨#[]⟩, .string nm, .slice a3 us.length c3, .slice a4 ds.length c4, .slice none 0 0]) (results_field _ _ w.heap.size _ rfl HD9.out.2.2.2 rfl) rfl ⟨.inl ⟨⟨1, ⟨#[]⟩, nm, us, ds⟩, .nil, _, _, _, _, _, _, _, HE.out, rfl, HD9.out.2.1, HD9.out.1⟩, HD9.out.2.2.1⟩
      | true =>
        have HQs : Hid _ := HSET.out s L c j5 a l w7 hsd S7.out.st HG.out
        have z6 := (Array.getElem?_eq_some_iff.1 S7.out.x).1
        have xk := fun o => row_cell S7.out.x o
        go_wp2_with fail
        refine Calls.mono HQs.out ?_
        clear xk
        rintro e w6 ⟨⟨sub, j6, a5, c5, hR, rfl, row, s6⟩ | ⟨hR, rfl⟩ | ⟨hR, rfl⟩, g6⟩
        case inr.inl =>
          have HE : Hid (P = .form) := by rw [Hid, HP5.out]; unfold fin; simp only; rw [hR]
          have G6 : Hid (w.grownBy w6 (some L)) := grown_trans S7.out.gr g6
          clear g6 HQs hR
          go_wp2_with fail
          exact ⟨rfl, .inr (.inl ⟨HE.out, rfl⟩), G6.out⟩
        case inr.inr =>
          have HE : Hid (P = .deep) := by rw [Hid, HP5.out]; unfold fin; simp only; rw [hR]
          have G6 : Hid (w.grownBy w6 (some L)) := grown_trans S7.out.gr g6
          clear g6 HQs hR
          go_wp2_with fail
          exact ⟨rfl, .inr (.inr ⟨HE.out, rfl⟩), G6.out⟩
        have HE : Hid (P = .ok (⟨1, ⟨#[]⟩, nm, us, ds⟩, sub) (l.drop j6)) := by rw [Hid, HP5.out]; unfold fin; simp only; rw [hR]
        have S6 : Hid _ := S7.out.call s6 g6
        obtain ⟨ws, bk, R6⟩ := row
        have hlow := S7.out.low
        have hhN := S7.out.hN
        have O6 : Hid (OneB (w1.heap.size + 1) w6 ⟨1, ⟨#[]⟩, nm, us, ds⟩ sub (.slice a3 us.length c3) (.slice a4 ds.length c4) (.slice a5 sub.len c5)) := Own2.one (h := ⟨1, ⟨#[]⟩, nm, us, ds⟩) O7.out R6 g6.size (fun g h1 h2 => grown_same g6 h2 (by omega)) (Nat.le_refl _)
        clear hR s6 g6 HQs R6 z6 S7 O7 HP5
        obtain ⟨Q, hQ⟩ : ∃ Q : World, Q = w6.setCell ⟨w1.heap.size, 5, none⟩ (.slice a5 sub.len c5) := ⟨_, rfl⟩
        have SQ : Hid (SlS #[.int .i64 s] w L (w1.heap.size) a c l j6 1 ⟨#[]⟩ nm (.slice a3 us.length c3) (.slice a4 ds.length c4) (.slice a5 sub.len c5) Q) := by rw [Hid, hQ]; exact S6.out.put 5 _ rfl
        have OQ : Hid (OneB (w1.heap.size + 1) Q ⟨1, ⟨#[]⟩, nm, us, ds⟩ sub (.slice a3 us.length c3) (.slice a4 ds.length c4) (.slice a5 sub.len c5)) := by rw [Hid, hQ]; exact O6.out.set _ (Nat.lt_succ_self _)
        have f3 := fun o => row_frozen S6.out.x o
        have y3 := fun o => row_cell S6.out.x o
        go_upto_region 10 with fail
        rw [← hQ]
        clear hQ f3 y3 S6 O6 hlow hhN

        have D := SQ.out.done OQ.out (.int .i64 1) (.string ⟨#[]⟩) (.string nm) (.slice a3 us.length c3) (.slice a4 ds.length c4) (.slice a5 sub.len c5)
        have HD9 : Hid _ := D
        have xA := fun o => row_cell SQ.out.x o
        have xR := fun o => row_cell SQ.out.res o
        have fR := fun o => row_frozen SQ.out.res o
        clear D
        go_wp2_with fail
        exact bodyPost_ret (v := .agg #[.int .i64 1, .string ⟨#[]⟩, .string nm, .slice a3 us.length c3, .slice a4 ds.length c4, .slice a5 sub.len c5]) (results_field _ _ w.heap.size _ rfl HD9.out.2.2.2 rfl) rfl ⟨.inl ⟨⟨1, ⟨#[]⟩, nm, us, ds⟩, sub, _, _, _, _, _, _, _, HE.out, rfl, HD9.out.2.1, HD9.out.1⟩, HD9.out.2.2.1⟩
  | true =>
    have T2 : Hid (SlS #[.int .i64 s] w L (w1.heap.size) a c l (i + 1 + 1) 1 ⟨#[]⟩ nm (.slice none 0 0) (.slice none 0 0) (.slice none 0 0) w2) := S2.out
    have HPn : Hid (P = fin d (if (nmI l (i + 1 + 1)).toList = [] then none else pFlA l nm (nmI l (i + 1 + 1)) (i + 1 + 1 + 1))) := by rw [Hid, HP1.out, if_pos rfl]
    clear S2 HP1
    obtain ⟨X1, hX1⟩ : ∃ X : World, X = w2.setCell ⟨w1.heap.size, 1, none⟩ (.string nm) := ⟨_, rfl⟩
    have SX1 : Hid (SlS #[.int .i64 s] w L (w1.heap.size) a c l (i + 1 + 1) 1 nm nm (.slice none 0 0) (.slice none 0 0) (.slice none 0 0) X1) := by rw [Hid, hX1]; exact T2.out.put 1 _ rfl
    have f3 := fun o => row_frozen T2.out.x o
    have y3 := fun o => row_cell T2.out.x o
    go_upto_region 4 with fail
    rw [← hX1]
    clear hX1 f3 y3 T2
    have HQn : Hid _ := rd_name 37 #[.int .i64 s] L c (i + 1 + 1) a l X1 SX1.out.st HG.out.len
    go_wp2_with fail
    refine Calls.mono HQn.out ?_
    rintro e w8 ⟨⟨hn, rfl, s8⟩ | ⟨hn, rfl⟩, g8⟩
    case inr =>
      have HE : Hid (P = .form) := by rw [Hid, HPn.out, if_pos hn]; rfl
      have G8 : Hid (w.grownBy w8 (some L)) := grown_trans SX1.out.gr g8
      clear g8 HQn hn SX1
      go_wp2_with fail
      exact ⟨rfl, .inr (.inl ⟨HE.out, rfl⟩), G8.out⟩
    obtain ⟨n2, hn2⟩ : ∃ z, z = nmI l (i + 1 + 1) := ⟨_, rfl⟩
    have HPa : Hid (P = fin d (pFlA l nm n2 (i + 1 + 1 + 1))) := by rw [Hid, HPn.out, if_neg hn, hn2]
    rw [← hn2]
    have S8 : Hid _ := SX1.out.call s8 g8
    clear hn s8 g8 HQn SX1 hn2 HPn
    obtain ⟨X2, hX2⟩ : ∃ X : World, X = w8.setCell ⟨w1.heap.size, 2, none⟩ (.string n2) := ⟨_, rfl⟩
    have SX0 : Hid (SlS #[.int .i64 s] w L (w1.heap.size) a c l (i + 1 + 1 + 1) 1 nm n2 (.slice none 0 0) (.slice none 0 0) (.slice none 0 0) X2) := by rw [Hid, hX2]; exact S8.out.put 2 _ rfl
    have f3 := fun o => row_frozen S8.out.x o
    have y3 := fun o => row_cell S8.out.x o
    go_upto_region 5 with fail
    rw [← hX2]
    clear hX2 f3 y3 S8
    have HQb : Hid _ := rd_passes 37 #[.int .i64 s] L c (i + 1 + 1 + 1) a l ⟨#[40]⟩ X2 SX0.out.st HG.out.len
    unfold pFlA at HPa
    obtain ⟨r8, HR8⟩ : ∃ r, Hid (r = tkE (nxT l (i + 1 + 1 + 1)) ⟨4, 0, ⟨#[40]⟩⟩) := ⟨_, rfl⟩
    rw [← HR8.out] at HQb HPa
    clear HR8
    go_wp2_with fail
    refine Calls.mono HQb.out ?_
    rintro e w3 ⟨rfl, s3, g3⟩
    have S3 : Hid _ := SX0.out.call s3 g3
    clear s3 g3 HQb SX0
    cases r8 with
    | false =>
      have SX : Hid (SlS #[.int .i64 s] w L (w1.heap.size) a c l (i + 1 + 1 + 1) 1 nm n2 (.slice none 0 0) (.slice none 0 0) (.slice none 0 0) w3) := S3.out
      have HPd : Hid (P = fin d ((pDirs (l.drop (i + 1 + 1 + 1))).map fun y => (⟨1, nm, n2, [], y.1⟩, atM [123] y.2, y.2))) := by rw [Hid, HPa.out, if_neg (by decide)]; rfl
      have HA1 : Hid (w3.ownsRow (w1.heap.size + 1) 103 4 (.slice none 0 0) ([] : List Ar).length (arVs [])) := ⟨rfl, .inl ⟨rfl, rfl⟩⟩
      clear HPa S3
      have HQd : Hid _ := pd_dirs #[.int .i64 s] L c (i + 1 + 1 + 1) a l w3 SX.out.st HG.out
      go_wp2_with fail
      refine Calls.mono HQd.out ?_
      rintro e w5 ⟨⟨ds, j5, a4, c4, hx, rfl, own, s5⟩ | ⟨hx, rfl⟩, g5⟩
      case inr =>
        have HE : Hid (P = .form) := by rw [Hid, HPd.out, hx]; rfl
        have G5 : Hid (w.grownBy w5 (some L)) := grown_trans SX.out.gr g5
        clear g5 HQd hx SX
        go_wp2_with fail
        exact ⟨rfl, .inr (.inl ⟨HE.out, rfl⟩), G5.out⟩
      have HP5 : Hid (P = fin d (some (⟨1, nm, n2, [], ds⟩, tkE (nxT l j5) ⟨4, 0, ⟨#[123]⟩⟩, l.drop j5))) := by rw [Hid, HPd.out, hx, ← at_lit HG.out #[123]]; rfl
      have S5 : Hid _ := SX.out.call s5 g5
      have O5 : Hid (Own2 w5 (w1.heap.size) [] (.slice none 0 0) ds (.slice a4 ds.length c4)) := Own2.make (W0 := w3) HA1.out g5 (by have := SX.out.low; have := SX.out.hN; omega) (Array.getElem?_eq_some_iff.1 SX.out.x).1 own
      clear hx own s5 g5 HQd SX HPd HA1
      obtain ⟨Y, hY⟩ : ∃ Y : World, Y = w5.setCell ⟨w1.heap.size, 4, none⟩ (.slice a4 ds.length c4) := ⟨_, rfl⟩
      have SY : Hid (SlS #[.int .i64 s] w L (w1.heap.size) a c l j5 1 nm n2 (.slice none 0 0) (.slice a4 ds.length c4) (.slice none 0 0) Y) := by rw [Hid, hY]; exact S5.out.put 4 _ rfl
      have OY : Hid (Own2 Y (w1.heap.size) [] (.slice none 0 0) ds (.slice a4 ds.length c4)) := by rw [Hid, hY]; exact O5.out.set _ (Nat.le_refl _)
      have f3 := fun o => row_frozen S5.out.x o
      have y3 := fun o => row_cell S5.out.x o
      go_upto_region 8 with fail
      rw [← hY]
      clear hY f3 y3 S5 O5
      have HQp : Hid _ := rd_atPunct 37 #[.int .i64 s] L c j5 a l ⟨#[123]⟩ Y SY.out.st
      obtain ⟨r9, HR9⟩ : ∃ r, Hid (r = tkE (nxT l j5) ⟨4, 0, ⟨#[123]⟩⟩) := ⟨_, rfl⟩
      rw [← HR9.out] at HQp HP5
      clear HR9
      go_wp2_with fail
      refine Calls.mono HQp.out ?_
      rintro e w7 ⟨rfl, b7⟩
      have S7 : Hid _ := SY.out.call (SY.out.st.below b7) (grown_below (grown_refl _ _) b7)
      have O7 : Hid (Own2 w7 (w1.heap.size) [] (.slice none 0 0) ds (.slice a4 ds.length c4)) := OY.out.keep b7.size fun g _ h2 => b7.block g h2
      clear b7 HQp SY OY
      cases r9 with
      | false =>
        have HE : Hid (P = .ok (⟨1, nm, n2, [], ds⟩, .nil) (l.drop j5)) := by rw [Hid, HP5.out]; rfl
        have OQ : Hid (OneB (w1.heap.size + 1) w7 ⟨1, nm, n2, [], ds⟩ .nil (.slice none 0 0) (.slice a4 ds.length c4) (.slice none 0 0)) := Own2.one (h := ⟨1, nm, n2, [], ds⟩) O7.out (RowK.nil _ _) (Nat.le_refl _) (fun _ _ _ => rfl) (Nat.le_refl _)
        have D := S7.out.done OQ.out (.int .i64 1) (.string nm) (.string n2) (.slice none 0 0) (.slice a4 ds.length c4) (.slice none 0 0)
        have HD9 : Hid _ := D
        have xA := fun o => row_cell S7.out.x o
        have xR := fun o => row_cell S7.out.res o
        have fR := fun o => row_frozen S7.out.res o
        clear D
        go_wp2_with fail
        exact bodyPost_ret (v := .agg #[.int .i64 1, .string nm, .string n2, .slice none 0 0, .slice a4 ds.length c4, .slice none 0 0]) (results_field _ _ w.heap.size _ rfl HD9.out.2.2.2 rfl) rfl ⟨.inl ⟨⟨1, nm, n2, [], ds⟩, .nil, _, _, _, _, _, _, _, HE.out, rfl, HD9.out.2.1, HD9.out.1⟩, HD9.out.2.2.1⟩
      | true =>
        have HQs : Hid _ := HSET.out s L c j5 a l w7 hsd S7.out.st HG.out
        have z6 := (Array.getElem?_eq_some_iff.1 S7.out.x).1
        have xk := fun o => row_cell S7.out.x o
        go_wp2_with fail
        refine Calls.mono HQs.out ?_
        clear xk
        rintro e w6 ⟨⟨sub, j6, a5, c5, hR, rfl, row, s6⟩ | ⟨hR, rfl⟩ | ⟨hR, rfl⟩, g6⟩
        case inr.inl =>
          have HE : Hid (P = .form) := by rw [Hid, HP5.out]; unfold fin; simp only; rw [hR]
          have G6 : Hid (w.grownBy w6 (some L)) := grown_trans S7.out.gr g6
          clear g6 HQs hR
          go_wp2_with fail
          exact ⟨rfl, .inr (.inl ⟨HE.out, rfl⟩), G6.out⟩
        case inr.inr =>
          have HE : Hid (P = .deep) := by rw [Hid, HP5.out]; unfold fin; simp only; rw [hR]
          have G6 : Hid (w.grownBy w6 (some L)) := grown_trans S7.out.gr g6
          clear g6 HQs hR
          go_wp2_with fail
          exact ⟨rfl, .inr (.inr ⟨HE.out, rfl⟩), G6.out⟩
        have HE : Hid (P = .ok (⟨1, nm, n2, [], ds⟩, sub) (l.drop j6)) := by rw [Hid, HP5.out]; unfold fin; simp only; rw [hR]
        have S6 : Hid _ := S7.out.call s6 g6
        obtain ⟨ws, bk, R6⟩ := row
        have hlow := S7.out.low
        have hhN := S7.out.hN
        have O6 : Hid (OneB (w1.heap.size + 1) w6 ⟨1, nm, n2, [], ds⟩ sub (.slice none 0 0) (.slice a4 ds.length c4) (.slice a5 sub.len c5)) := Own2.one (h := ⟨1, nm, n2, [], ds⟩) O7.out R6 g6.size (fun g h1 h2 => grown_same g6 h2 (by omega)) (Nat.le_refl _)
        clear hR s6 g6 HQs R6 z6 S7 O7 HP5
        obtain ⟨Q, hQ⟩ : ∃ Q : World, Q = w6.setCell ⟨w1.heap.size, 5, none⟩ (.slice a5 sub.len c5) := ⟨_, rfl⟩
        have SQ : Hid (SlS #[.int .i64 s] w L (w1.heap.size) a c l j6 1 nm n2 (.slice none 0 0) (.slice a4 ds.length c4) (.slice a5 sub.len c5) Q) := by rw [Hid, hQ]; exact S6.out.put 5 _ rfl
        have OQ : Hid (OneB (w1.heap.size + 1) Q ⟨1, nm, n2, [], ds⟩ sub (.slice none 0 0) (.slice a4 ds.length c4) (.slice a5 sub.len c5)) := by rw [Hid, hQ]; exact O6.out.set _ (Nat.lt_succ_self _)
        have f3 := fun o => row_frozen S6.out.x o
        have y3 := fun o => row_cell S6.out.x o
        go_upto_region 10 with fail
        rw [← hQ]
        clear hQ f3 y3 S6 O6 hlow hhN

        have D := SQ.out.done OQ.out (.int .i64 1) (.string nm) (.string n2) (.slice none 0 0) (.slice a4 ds.length c4) (.slice a5 sub.len c5)
        have HD9 : Hid _ := D
        have xA := fun o => row_cell SQ.out.x o
        have xR := fun o => row_cell SQ.out.res o
        have fR := fun o => row_frozen SQ.out.res o
        clear D
        go_wp2_with fail
        exact bodyPost_ret (v := .agg #[.int .i64 1, .string nm, .string n2, .slice none 0 0, .slice a4 ds.length c4, .slice a5 sub.len c5]) (results_field _ _ w.heap.size _ rfl HD9.out.2.2.2 rfl) rfl ⟨.inl ⟨⟨1, nm, n2, [], ds⟩, sub, _, _, _, _, _, _, _, HE.out, rfl, HD9.out.2.1, HD9.out.1⟩, HD9.out.2.2.1⟩
    | true =>
      have T3 : Hid (SlS #[.int .i64 s] w L (w1.heap.size) a c l (i + 1 + 1 + 1 + 1) 1 nm n2 (.slice none 0 0) (.slice none 0 0) (.slice none 0 0) w3) := S3.out
      have HPb : Hid (P = fin d ((pArgs1 (l.drop (i + 1 + 1 + 1 + 1))).bind fun x => (pDirs x.2).map fun y => (⟨1, nm, n2, x.1, y.1⟩, atM [123] y.2, y.2))) := by rw [Hid, HPa.out, if_pos rfl]
      clear HPa S3
      have HQa : Hid _ := pd_args #[.int .i64 s] L c (i + 1 + 1 + 1 + 1) a l w3 T3.out.st HG.out
      go_wp2_with fail
      refine Calls.mono HQa.out ?_
      rintro e w4 ⟨⟨us, j4, a3, c3, hx, rfl, own, s4⟩ | ⟨hx, rfl⟩, g4⟩
      case inr =>
        have HE : Hid (P = .form) := by rw [Hid, HPb.out, hx]; rfl
        have G4 : Hid (w.grownBy w4 (some L)) := grown_trans T3.out.gr g4
        clear g4 HQa hx T3
        go_wp2_with fail
        exact ⟨rfl, .inr (.inl ⟨HE.out, rfl⟩), G4.out⟩
      have HPd : Hid (P = fin d ((pDirs (l.drop j4)).map fun y => (⟨1, nm, n2, us, y.1⟩, atM [123] y.2, y.2))) := by rw [Hid, HPb.out, hx]; rfl
      have S4 : Hid _ := T3.out.call s4 g4
      have A4 : Hid (w4.ownsRow (w1.heap.size + 1) 103 4 (.slice a3 us.length c3) us.length (arVs us)) := owns_base own fun g hg => by have := (World.ownsRow.lt own g hg).1; have := (Array.getElem?_eq_some_iff.1 T3.out.x).1; omega
      clear hx own s4 g4 HQa T3 HPb
      obtain ⟨X, hX⟩ : ∃ X : World, X = w4.setCell ⟨w1.heap.size, 3, none⟩ (.slice a3 us.length c3) := ⟨_, rfl⟩
      have SX : Hid (SlS #[.int .i64 s] w L (w1.heap.size) a c l j4 1 nm n2 (.slice a3 us.length c3) (.slice none 0 0) (.slice none 0 0) X) := by rw [Hid, hX]; exact S4.out.put 3 _ rfl
      have HA1 : Hid (X.ownsRow (w1.heap.size + 1) 103 4 (.slice a3 us.length c3) us.length (arVs us)) := by rw [Hid, hX]; exact owns_same A4.out fun g hg => heap_setCell_other _ _ _ _ (by have := (World.ownsRow.lt A4.out g hg).1; show g ≠ w1.heap.size; omega)
      have f3 := fun o => row_frozen S4.out.x o
      have y3 := fun o => row_cell S4.out.x o
      go_upto_region 7 with fail
      rw [← hX]
      clear hX f3 y3 S4 A4
      have HQd : Hid _ := pd_dirs #[.int .i64 s] L c (j4) a l X SX.out.st HG.out
      go_wp2_with fail
      refine Calls.mono HQd.out ?_
      rintro e w5 ⟨⟨ds, j5, a4, c4, hx, rfl, own, s5⟩ | ⟨hx, rfl⟩, g5⟩
      case inr =>
        have HE : Hid (P = .form) := by rw [Hid, HPd.out, hx]; rfl
        have G5 : Hid (w.grownBy w5 (some L)) := grown_trans SX.out.gr g5
        clear g5 HQd hx SX
        go_wp2_with fail
        exact ⟨rfl, .inr (.inl ⟨HE.out, rfl⟩), G5.out⟩
      have HP5 : Hid (P = fin d (some (⟨1, nm, n2, us, ds⟩, tkE (nxT l j5) ⟨4, 0, ⟨#[123]⟩⟩, l.drop j5))) := by rw [Hid, HPd.out, hx, ← at_lit HG.out #[123]]; rfl
      have S5 : Hid _ := SX.out.call s5 g5
      have O5 : Hid (Own2 w5 (w1.heap.size) us (.slice a3 us.length c3) ds (.slice a4 ds.length c4)) := Own2.make (W0 := X) HA1.out g5 (by have := SX.out.low; have := SX.out.hN; omega) (Array.getElem?_eq_some_iff.1 SX.out.x).1 own
      clear hx own s5 g5 HQd SX HPd HA1
      obtain ⟨Y, hY⟩ : ∃ Y : World, Y = w5.setCell ⟨w1.heap.size, 4, none⟩ (.slice a4 ds.length c4) := ⟨_, rfl⟩
      have SY : Hid (SlS #[.int .i64 s] w L (w1.heap.size) a c l j5 1 nm n2 (.slice a3 us.length c3) (.slice a4 ds.length c4) (.slice none 0 0) Y) := by rw [Hid, hY]; exact S5.out.put 4 _ rfl
      have OY : Hid (Own2 Y (w1.heap.size) us (.slice a3 us.length c3) ds (.slice a4 ds.length c4)) := by rw [Hid, hY]; exact O5.out.set _ (Nat.le_refl _)
      have f3 := fun o => row_frozen S5.out.x o
      have y3 := fun o => row_cell S5.out.x o
      go_upto_region 8 with fail
      rw [← hY]
      clear hY f3 y3 S5 O5
      have HQp : Hid _ := rd_atPunct 37 #[.int .i64 s] L c j5 a l ⟨#[123]⟩ Y SY.out.st
      obtain ⟨r9, HR9⟩ : ∃ r, Hid (r = tkE (nxT l j5) ⟨4, 0, ⟨#[123]⟩⟩) := ⟨_, rfl⟩
      rw [← HR9.out] at HQp HP5
      clear HR9
      go_wp2_with fail
      refine Calls.mono HQp.out ?_
      rintro e w7 ⟨rfl, b7⟩
      have S7 : Hid _ := SY.out.call (SY.out.st.below b7) (grown_below (grown_refl _ _) b7)
      have O7 : Hid (Own2 w7 (w1.heap.size) us (.slice a3 us.length c3) ds (.slice a4 ds.length c4)) := OY.out.keep b7.size fun g _ h2 => b7.block g h2
      clear b7 HQp SY OY
      cases r9 with
      | false =>
        have HE : Hid (P = .ok (⟨1, nm, n2, us, ds⟩, .nil) (l.drop j5)) := by rw [Hid, HP5.out]; rfl
        have OQ : Hid (OneB (w1.heap.size + 1) w7 ⟨1, nm, n2, us, ds⟩ .nil (.slice a3 us.length c3) (.slice a4 ds.length c4) (.slice none 0 0)) := Own2.one (h := ⟨1, nm, n2, us, ds⟩) O7.out (RowK.nil _ _) (Nat.le_refl _) (fun _ _ _ => rfl) (Nat.le_refl _)
        have D := S7.out.done OQ.out (.int .i64 1) (.string nm) (.string n2) (.slice a3 us.length c3) (.slice a4 ds.length c4) (.slice none 0 0)
        have HD9 : Hid _ := D
        have xA := fun o => row_cell S7.out.x o
        have xR := fun o => row_cell S7.out.res o
        have fR := fun o => row_frozen S7.out.res o
        clear D
        go_wp2_with fail
        exact bodyPost_ret (v := .agg #[.int .i64 1, .string nm, .string n2, .slice a3 us.length c3, .slice a4 ds.length c4, .slice none 0 0]) (results_field _ _ w.heap.size _ rfl HD9.out.2.2.2 rfl) rfl ⟨.inl ⟨⟨1, nm, n2, us, ds⟩, .nil, _, _, _, _, _, _, _, HE.out, rfl, HD9.out.2.1, HD9.out.1⟩, HD9.out.2.2.1⟩
      | true =>
        have HQs : Hid _ := HSET.out s L c j5 a l w7 hsd S7.out.st HG.out
        have z6 := (Array.getElem?_eq_some_iff.1 S7.out.x).1
        have xk := fun o => row_cell S7.out.x o
        go_wp2_with fail
        refine Calls.mono HQs.out ?_
        clear xk
        rintro e w6 ⟨⟨sub, j6, a5, c5, hR, rfl, row, s6⟩ | ⟨hR, rfl⟩ | ⟨hR, rfl⟩, g6⟩
        case inr.inl =>
          have HE : Hid (P = .form) := by rw [Hid, HP5.out]; unfold fin; simp only; rw [hR]
          have G6 : Hid (w.grownBy w6 (some L)) := grown_trans S7.out.gr g6
          clear g6 HQs hR
          go_wp2_with fail
          exact ⟨rfl, .inr (.inl ⟨HE.out, rfl⟩), G6.out⟩
        case inr.inr =>
          have HE : Hid (P = .deep) := by rw [Hid, HP5.out]; unfold fin; simp only; rw [hR]
          have G6 : Hid (w.grownBy w6 (some L)) := grown_trans S7.out.gr g6
          clear g6 HQs hR
          go_wp2_with fail
          exact ⟨rfl, .inr (.inr ⟨HE.out, rfl⟩), G6.out⟩
        have HE : Hid (P = .ok (⟨1, nm, n2, us, ds⟩, sub) (l.drop j6)) := by rw [Hid, HP5.out]; unfold fin; simp only; rw [hR]
        have S6 : Hid _ := S7.out.call s6 g6
        obtain ⟨ws, bk, R6⟩ := row
        have hlow := S7.out.low
        have hhN := S7.out.hN
        have O6 : Hid (OneB (w1.heap.size + 1) w6 ⟨1, nm, n2, us, ds⟩ sub (.slice a3 us.length c3) (.slice a4 ds.length c4) (.slice a5 sub.len c5)) := Own2.one (h := ⟨1, nm, n2, us, ds⟩) O7.out R6 g6.size (fun g h1 h2 => grown_same g6 h2 (by omega)) (Nat.le_refl _)
        clear hR s6 g6 HQs R6 z6 S7 O7 HP5
        obtain ⟨Q, hQ⟩ : ∃ Q : World, Q = w6.setCell ⟨w1.heap.size, 5, none⟩ (.slice a5 sub.len c5) := ⟨_, rfl⟩
        have SQ : Hid (SlS #[.int .i64 s] w L (w1.heap.size) a c l j6 1 nm n2 (.slice a3 us.length c3) (.slice a4 ds.length c4) (.slice a5 sub.len c5) Q) := by rw [Hid, hQ]; exact S6.out.put 5 _ rfl
        have OQ : Hid (OneB (w1.heap.size + 1) Q ⟨1, nm, n2, us, ds⟩ sub (.slice a3 us.length c3) (.slice a4 ds.length c4) (.slice a5 sub.len c5)) := by rw [Hid, hQ]; exact O6.out.set _ (Nat.lt_succ_self _)
        have f3 := fun o => row_frozen S6.out.x o
        have y3 := fun o => row_cell S6.out.x o
        go_upto_region 10 with fail
        rw [← hQ]
        clear hQ f3 y3 S6 O6 hlow hhN

        have D := SQ.out.done OQ.out (.int .i64 1) (.string nm) (.string n2) (.slice a3 us.length c3) (.slice a4 ds.length c4) (.slice a5 sub.len c5)
        have HD9 : Hid _ := D
        have xA := fun o => row_cell SQ.out.x o
        have xR := fun o => row_cell SQ.out.res o
        have fR := fun o => row_frozen SQ.out.res o
        clear D
        go_wp2_with fail
        exact bodyPost_ret (v := .agg #[.int .i64 1, .string nm, .string n2, .slice a3 us.length c3, .slice a4 ds.length c4, .slice a5 sub.len c5]) (results_field _ _ w.heap.size _ rfl HD9.out.2.2.2 rfl) rfl ⟨.inl ⟨⟨1, nm, n2, us, ds⟩, sub, _, _, _, _, _, _, _, HE.out, rfl, HD9.out.2.1, HD9.out.1⟩, HD9.out.2.2.1⟩
end Go.Proofs.YtlilfbcngncllaaGreatDoor
namespace Go.Proofs.YtlilfbcngncllaaGreatDoor
open Go.ChangeShapes Go.WideShapes Go.ChangeAt Go.RowKit
set_option linter.unusedVariables false

theorem OneK.low {base b : Nat} {W : World} {h : Hd} {sub : Sels} {va vd vs : Value} {ws : List Value} {bk : List Nat} (O : OneK base W h sub va vd vs ws bk) (hb : b ≤ base) : OneK b W h sub va vd vs ws bk :=
  ⟨O.a, O.d, O.s, O.k, O.nd, fun g hg => ⟨by have := (O.inn g hg).1; omega, (O.inn g hg).2⟩⟩
theorem sel_done {ex : Array Value} {w W : World} {L c j : Nat} {a : Option Addr} {l : List Tk} {y0 y1 y2 y3 y4 y5 : Value} {h : Hd} {sub : Sels} {v3 v4 v5 : Value} (st : RdSt 37 ex W L a c l j) (gr : w.grownBy W (some L)) (res : W.heap[w.heap.size]? = some (.cells #[y0, y1, y2, y3, y4, y5] 84 (0, 0))) (low : L < w.heap.size)
    (O : OneB (w.heap.size + 1) W h sub v3 v4 v5) (x0 x1 x2 x3 x4 x5 : Value) :
    RdSt 37 ex (put6w W w.heap.size x0 x1 x2 x3 x4 x5) L a c l j ∧ OneB w.heap.size (put6w W w.heap.size x0 x1 x2 x3 x4 x5) h sub v3 v4 v5 ∧ w.grownBy (put6w W w.heap.size x0 x1 x2 x3 x4 x5) (some L) ∧
      (put6w W w.heap.size x0 x1 x2 x3 x4 x5).heap[w.heap.size]? = some (.cells #[x0, x1, x2, x3, x4, x5] 84 (0, 0)) := by
  refine ⟨st.keep fun g hg => ?_, ?_, ?_, ?_⟩
  · unfold put6w
    rw [heap_setCell_other _ _ _ _ (by show g ≠ w.heap.size; omega), heap_setCell_other _ _ _ _ (by show g ≠ w.heap.size; omega), heap_setCell_other _ _ _ _ (by show g ≠ w.heap.size; omega), heap_setCell_other _ _ _ _ (by show g ≠ w.heap.size; omega), heap_setCell_other _ _ _ _ (by show g ≠ w.heap.size; omega), heap_setCell_other _ _ _ _ (by show g ≠ w.heap.size; omega)]
  · obtain ⟨ws, bk, O6⟩ := (((((O.set (k := 0) x0 (N := w.heap.size) (by omega)).set (k := 1) x1 (N := w.heap.size) (by omega)).set (k := 2) x2 (N := w.heap.size) (by omega)).set (k := 3) x3 (N := w.heap.size) (by omega)).set (k := 4) x4 (N := w.heap.size) (by omega)).set (k := 5) x5 (N := w.heap.size) (by omega)
    exact ⟨ws, bk, O6.low (by omega)⟩
  · exact grown_new (grown_new (grown_new (grown_new (grown_new (grown_new gr (Nat.le_refl _) _) (Nat.le_refl _) _) (Nat.le_refl _) _) (Nat.le_refl _) _) (Nat.le_refl _) _) (Nat.le_refl _) _
  · exact row_set (row_set (row_set (row_set (row_set (row_set res 0 x0) 1 x1) 2 x2) 3 x3) 4 x4) 5 x5
theorem results_sel (tmps : Array Value) (W : World) (N : Nat) (cs : Array Value) (h2 : tmps.getD 2 undef = .pointer (some ⟨N, 0, none⟩)) (hrow : W.heap[N]? = some (.cells cs 84 (0, 0))) (hsz : cs.size = 6) :
    (results Tryz.f75 tmps).run Tryz.prog W = .ok (.agg cs) W := by
  have c39 : (Tryz.prog.info? 84).map (·.size) = some 6 := by kernel_rfl
  exact results_cell_row Tryz.results75 tmps W N 84 cs (0, 0) _ h2 hrow Tryz.underlying84 rfl (by rw [hsz]; exact c39)
set_option maxHeartbeats 4000000 in
theorem pd_sel (d : Nat) (hset : SetOk d) (s L c i : Nat) (a : Option Addr) (l : List Tk) (w : World) (hsd : s + d = 7) (h : RdSt 37 #[.int .i64 s] w L a c l i) (hl : TkG l) :
    Calls Tryz.prog 75 #[.pointer (some ⟨L, 0, none⟩)] w (OneP #[.int .i64 s] L a c l (pSel (d + 1) (l.drop i)) w) := by
  obtain ⟨P, HP⟩ : ∃ P, Hid (P = pSel (d + 1) (l.drop i)) := ⟨_, rfl⟩
  rw [← HP.out]
  rw [pSel_at hl, Nat.add_sub_cancel] at HP
  have HG : Hid _ := hl
  have HSET : Hid _ := hset
  obtain ⟨V, hV⟩ : ∃ V, V = w.alloc (.cells #[.int .i64 0, .string ⟨#[]⟩, .string ⟨#[]⟩, .slice none 0 0, .slice none 0 0, .slice none 0 0] 84) := ⟨_, rfl⟩
  have BV : Below w.heap.size w V := by rw [hV]; exact (Below.refl _ _).alloc (Nat.le_refl _) _
  have cV : V.heap[w.heap.size]? = some (.cells #[.int .i64 0, .string ⟨#[]⟩, .string ⟨#[]⟩, .slice none 0 0, .slice none 0 0, .slice none 0 0] 84 (0, 0)) := by rw [hV]; exact heap_alloc_new _ _
  have zV : w.heap.size < V.heap.size := by rw [hV]; simp
  have hLw := h.lt
  have HQ : Hid _ := rd_passes 37 #[.int .i64 s] L c i a l ⟨#[46, 46, 46]⟩ V (h.below BV) hl.len
  have GV : Hid (w.grownBy V (some L)) := grown_below (grown_refl w _) BV
  have HCV : Hid _ := cV
  clear h BV cV hl hset
  obtain ⟨r, HR⟩ : ∃ r, Hid (r = tkE (nxT l i) ⟨4, 0, ⟨#[46, 46, 46]⟩⟩) := ⟨_, rfl⟩
  rw [← HR.out] at HQ HP
  clear HR
  go_enter Tryz.func75, Tryz.ntmps75
  go_upto_region 1 with fail
  rw [← hV]
  clear hV
  go_wp2_with fail
  refine Calls.mono HQ.out ?_
  rintro e w1 ⟨rfl, s1, g1⟩
  have z1 := g1.size
  have C1 : Hid (w1.heap[w.heap.size]? = some (.cells #[.int .i64 0, .string ⟨#[]⟩, .string ⟨#[]⟩, .slice none 0 0, .slice none 0 0, .slice none 0 0] 84 (0, 0))) := grown_keeps HCV.out zV g1 (by omega)
  have G1 : Hid (w.grownBy w1 (some L)) := grown_trans GV.out g1
  have S1 : Hid _ := s1
  clear s1 g1 HQ GV HCV
  cases r
  case' false => have HQ2 : Hid _ := pd_field d HSET.out s L c i a l w1 hsd S1.out HG.out
  case' true => have HQ2 : Hid _ := pd_spread d HSET.out s L c (i + 1) a l w1 hsd S1.out HG.out
  case' false => obtain ⟨R, HRR⟩ : ∃ R, Hid (R = fin d (pFld l i)) := ⟨_, rfl⟩
  case' true => obtain ⟨R, HRR⟩ : ∃ R, Hid (R = fin d (pSpr l (i + 1))) := ⟨_, rfl⟩
  all_goals
    rw [← HRR.out] at HQ2
    have HPR : Hid (P = R) := by
      rw [Hid, HP.out, HRR.out]
      first | rw [if_pos rfl] | rw [if_neg (by decide)]
    clear HP HRR
    go_wp2_with fail
    refine Calls.mono HQ2.out ?_
    rintro e w2 ⟨⟨hd, sub, j, a3, c3, a4, c4, a5, c5, hx, rfl, one, s2⟩ | ⟨hx, rfl⟩ | ⟨hx, rfl⟩, g2⟩
    case' inr.inl =>
      have HE : Hid (P = .form) := HPR.out.trans hx
      have G2 : Hid (w.grownBy w2 (some L)) := grown_trans G1.out g2
      clear g2 HQ2 hx S1 G1 C1 HPR
      go_wp2_with fail
      exact ⟨rfl, .inr (.inl ⟨HE.out, rfl⟩), G2.out⟩
    case' inr.inr =>
      have HE : Hid (P = .deep) := HPR.out.trans hx
      have G2 : Hid (w.grownBy w2 (some L)) := grown_trans G1.out g2
      clear g2 HQ2 hx S1 G1 C1 HPR
      go_wp2_with fail
      exact ⟨rfl, .inr (.inr ⟨HE.out, rfl⟩), G2.out⟩
    have HE : Hid (P = .ok (hd, sub) (l.drop j)) := HPR.out.trans hx
    have G2 : Hid (w.grownBy w2 (some L)) := grown_trans G1.out g2
    have C2 : Hid (w2.heap[w.heap.size]? = some (.cells #[.int .i64 0, .string ⟨#[]⟩, .string ⟨#[]⟩, .slice none 0 0, .slice none 0 0, .slice none 0 0] 84 (0, 0))) := grown_keeps C1.out (by omega) g2 (by omega)
    have O2 : Hid (OneB (w.heap.size + 1) w2 hd sub (.slice a3 hd.args.length c3) (.slice a4 hd.dirs.length c4) (.slice a5 sub.len c5)) := by
      obtain ⟨ws, bk, O⟩ := one
      exact ⟨ws, bk, O.low (by omega)⟩
    have D := sel_done s2 G2.out C2.out hLw O2.out (.int .i64 hd.k) (.string hd.al) (.string hd.nm) (.slice a3 hd.args.length c3) (.slice a4 hd.dirs.length c4) (.slice a5 sub.len c5)
    have HD9 : Hid _ := D
    have xR := fun o => row_cell C2.out o
    have fR := fun o => row_frozen C2.out o
    clear D hx one s2 g2 HQ2 S1 G1 C1 HPR G2
    go_wp2_with fail
    exact bodyPost_ret (v := .agg #[.int .i64 hd.k, .string hd.al, .string hd.nm, .slice a3 hd.args.length c3, .slice a4 hd.dirs.length c4, .slice a5 sub.len c5]) (results_sel _ _ w.heap.size _ rfl HD9.out.2.2.2 rfl) rfl ⟨.inl ⟨hd, sub, _, _, _, _, _, _, _, HE.out, rfl, HD9.out.2.1, HD9.out.1⟩, HD9.out.2.2.1⟩
end Go.Proofs.YtlilfbcngncllaaGreatDoor
