/- The program's reader of documents: an argument, arguments. -/
import Derived.Test.YtlilfbcngncllaaGreatDoorPdVal
namespace Go.Proofs.YtlilfbcngncllaaGreatDoor
open Go.ChangeShapes Go.WideShapes Go.ChangeAt Go.RowKit
set_option linter.unusedVariables false

theorem results_ps (tmps : Array Value) (W : World) (N : Nat) (cs : Array Value) (h2 : tmps.getD 2 undef = .pointer (some ⟨N, 0, none⟩)) (hrow : W.heap[N]? = some (.cells cs 101 (0, 0))) (hsz : cs.size = 3) :
    (results Tryz.f98 tmps).run Tryz.prog W = .ok (.agg cs) W := by
  have c39 : (Tryz.prog.info? 101).map (·.size) = some 3 := by kernel_rfl
  exact results_cell_row Tryz.results98 tmps W N 101 cs (0, 0) _ h2 hrow Tryz.underlying101 rfl (by rw [hsz]; exact c39)
set_option maxHeartbeats 4000000 in
theorem ps_value (L c i : Nat) (a : Option Addr) (l : List Tk) (ok dp : Bool) (w : World) (h : RsSt w L a c l i ok dp) (hl : TkG l) (hi9 : i ≤ 9000000) :
    Calls Tryz.prog 98 #[.pointer (some ⟨L, 0, none⟩)] w fun e w' => e = .returned (vaV (tokVa (nxT l i))) ∧ RsSt w' L a c l (adv (decide (i < l.length)) i) (valB (tokVa (nxT l i)) && ok) dp ∧ w.grownBy w' (some L) := by
  obtain ⟨V, hV⟩ : ∃ V, V = w.alloc (.cells #[.int .i64 0, .int .i64 0, .string ⟨#[]⟩] 101) := ⟨_, rfl⟩
  have BV : Below w.heap.size w V := by rw [hV]; exact (Below.refl _ _).alloc (Nat.le_refl _) _
  have cV : Hid (V.heap[w.heap.size]? = some (.cells #[.int .i64 0, .int .i64 0, .string ⟨#[]⟩] 101 (0, 0))) := by rw [Hid, hV]; exact heap_alloc_new _ _
  have GV : Hid (w.grownBy V (some L)) := grown_below (grown_refl w _) BV
  have SV : Hid (RsSt V L a c l i ok dp) := h.below BV
  have hLw := h.lt
  have c0 : V.cell? ⟨L, 0, none⟩ = some (.slice a l.length c) := row_cell SV.out.cell 0
  have c1 : V.cell? ⟨L, 1, none⟩ = some (.int .i64 i) := row_cell SV.out.cell 1
  clear h BV
  by_cases hlt : i < l.length
  case neg =>
    have hltb : decide (i < l.length) = false := decide_eq_false hlt
    have hge : (l.length : Int) ≤ i := by omega
    have HV : Hid (tokVa (nxT l i) = ⟨0, 0, ⟨#[]⟩⟩) := by rw [Hid, nx_end (by omega)]; unfold tokVa; simp
    have HO : Hid ((valB (tokVa (nxT l i)) && ok) = false) := by rw [Hid, HV.out]; unfold valB; simp
    rw [hltb]
    go_enter Tryz.func98, Tryz.ntmps98
    go_upto_region 1 with fail
    rw [← hV]
    clear hV hltb hlt
    go_quiet (fail)
    have SW : Hid (RsSt (V.drewN nq) L a c l i ok dp) := SV.out.drewN nq
    have GW : Hid (w.grownBy (V.drewN nq) (some L)) := grown_trans GV.out (grown_drewN V nq _)
    have cW : Hid ((V.drewN nq).heap[w.heap.size]? = some (.cells #[.int .i64 0, .int .i64 0, .string ⟨#[]⟩] 101 (0, 0))) := cV.out
    clear c0 c1 SV GV cV
    generalize V.drewN nq = W at *
    obtain ⟨Y, hY⟩ : ∃ Y : World, Y = W.setCell ⟨L, 2, none⟩ (.bool false) := ⟨_, rfl⟩
    have SY : Hid (RsSt Y L a c l i false dp) := by rw [Hid, hY]; exact SW.out.ok_ false
    have GY : Hid (w.grownBy Y (some L)) := by rw [Hid, hY]; exact grown_set GW.out _ _
    have RY : Hid (Y.heap[w.heap.size]? = some (.cells #[.int .i64 0, .int .i64 0, .string ⟨#[]⟩] 101 (0, 0))) := by rw [Hid, hY]; exact (heap_setCell_other _ _ _ _ (by show w.heap.size ≠ L; omega)).trans cW.out
    have t2 : W.cell? ⟨L, 2, none⟩ = some (.bool ok) := row_cell SW.out.cell 2
    have tf2 : W.frozen? ⟨L, 2, none⟩ = false := row_frozen SW.out.cell 2
    go_upto_region 3 with fail
    rw [← hY]
    clear hY t2 tf2
    have xq := fun o => row_cell RY.out o
    have fr := fun o => row_frozen RY.out o
    go_wp2_with (first | (go_at_call 107; refine (spec_vword _ _).mono ?_; rintro e w9 ⟨rfl, rfl⟩) | (go_at_call 108; refine (spec_bit _ _).mono ?_; rintro e w9 ⟨rfl, rfl⟩) | fail)
    refine bodyPost_ret (v := .agg #[.int .i64 0, .int .i64 0, .string ⟨#[]⟩]) (results_ps _ _ w.heap.size _ rfl (row_set (row_set (row_set RY.out 0 (.int .i64 (0))) 1 (.int .i64 (0))) 2 (.string ⟨#[]⟩)) rfl) rfl ⟨by rw [HV.out]; rfl, ?_, ?_⟩
    · rw [HO.out]
      refine SY.out.keep fun g hg => ?_
      rw [heap_setCell_other _ _ _ _ (by show g ≠ w.heap.size; omega), heap_setCell_other _ _ _ _ (by show g ≠ w.heap.size; omega), heap_setCell_other _ _ _ _ (by show g ≠ w.heap.size; omega)]
    · exact grown_new (grown_new (grown_new GY.out (Nat.le_refl _) _) (Nat.le_refl _) _) (Nat.le_refl _) _
  have hlt' : (i : Int) < l.length := by omega
  have hltb : decide (i < l.length) = true := decide_eq_true hlt
  obtain ⟨b, o, ha, _, hbL, d0, d1, d2⟩ := SV.out.row.at_ i hlt
  subst ha
  have hnx : nxT l i = l[i] := by unfold nxT; rw [List.getElem?_eq_getElem hlt]
  rw [hnx]
  have htb := hl.ok _ (List.getElem_mem hlt)
  obtain ⟨x, hx⟩ : ∃ z, z = l[i] := ⟨_, rfl⟩
  rw [← hx] at htb ⊢
  rw [hltb]
  replace d0 : V.cell? ⟨b, o + i * 3, none⟩ = some (.int .i64 x.k) := by rw [hx]; exact d0
  replace d1 : V.cell? ⟨b, o + i * 3 + 1, none⟩ = some (.int .i64 x.n) := by rw [hx]; exact d1
  replace d2 : V.cell? ⟨b, o + i * 3 + 2, none⟩ = some (.string x.t) := by rw [hx]; exact d2
  clear hnx hx
  go_enter Tryz.func98, Tryz.ntmps98
  go_upto_region 1 with fail
  rw [← hV]
  clear hV
  go_quiet (fail)
  have SW : Hid (RsSt (V.drewN nq) L (some ⟨b, o, none⟩) c l i ok dp) := SV.out.drewN nq
  have GW : Hid (w.grownBy (V.drewN nq) (some L)) := grown_trans GV.out (grown_drewN V nq _)
  have cW : Hid ((V.drewN nq).heap[w.heap.size]? = some (.cells #[.int .i64 0, .int .i64 0, .string ⟨#[]⟩] 101 (0, 0))) := cV.out
  have e0 : (V.drewN nq).cell? ⟨L, 0, none⟩ = some (.slice (some ⟨b, o, none⟩) l.length c) := c0
  have e1 : (V.drewN nq).cell? ⟨L, 1, none⟩ = some (.int .i64 i) := c1
  have g0 : (V.drewN nq).cell? ⟨b, o + i * 3, none⟩ = some (.int .i64 x.k) := d0
  have g1 : (V.drewN nq).cell? ⟨b, o + i * 3 + 1, none⟩ = some (.int .i64 x.n) := d1
  have g2 : (V.drewN nq).cell? ⟨b, o + i * 3 + 2, none⟩ = some (.string x.t) := d2
  clear c0 c1 d0 d1 d2 SV GV cV
  generalize V.drewN nq = W at *
  have hLW := SW.out.lt
  have hbW : b < W.heap.size := by omega
  go_upto_region 4 with fail
  go_region
  obtain ⟨T, hT⟩ : ∃ T, T = (W.alloc (.cells #[.int .i64 x.k, .int .i64 x.n, .string x.t] 66)).drew := ⟨_, rfl⟩
  have BT : Below W.heap.size W T := by rw [hT]; exact ((Below.refl _ _).alloc (Nat.le_refl _) _).drew
  have ST : Hid (RsSt T L (some ⟨b, o, none⟩) c l i ok dp) := SW.out.below BT
  have GT : Hid (w.grownBy T (some L)) := grown_below GW.out BT
  have hwW := (Array.getElem?_eq_some_iff.1 cW.out).1
  have CT : Hid (T.heap[w.heap.size]? = some (.cells #[.int .i64 0, .int .i64 0, .string ⟨#[]⟩] 101 (0, 0))) := (BT.block _ hwW).trans cW.out
  have KT : Hid (T.heap[W.heap.size]? = some (.cells #[.int .i64 x.k, .int .i64 x.n, .string x.t] 66 (0, 0))) := by rw [Hid, hT]; exact heap_alloc_new W _
  obtain ⟨X, hX⟩ : ∃ X : World, X = T.setCell ⟨L, 1, none⟩ (.int .i64 ((i : Int) + 1)) := ⟨_, rfl⟩
  have SX : Hid (RsSt X L (some ⟨b, o, none⟩) c l (i + 1) ok dp) := by rw [Hid, hX, show (i : Int) + 1 = ((i + 1 : Nat) : Int) by omega]; exact ST.out.at_ (i + 1)
  have GX : Hid (w.grownBy X (some L)) := by rw [Hid, hX]; exact grown_set GT.out _ _
  have RX : Hid (X.heap[w.heap.size]? = some (.cells #[.int .i64 0, .int .i64 0, .string ⟨#[]⟩] 101 (0, 0))) := by rw [Hid, hX]; exact (heap_setCell_other _ _ _ _ (by show w.heap.size ≠ L; omega)).trans CT.out
  have KX : Hid (X.heap[W.heap.size]? = some (.cells #[.int .i64 x.k, .int .i64 x.n, .string x.t] 66 (0, 0))) := by rw [Hid, hX]; exact (heap_setCell_other _ _ _ _ (by show W.heap.size ≠ L; omega)).trans KT.out
  have t1 : T.cell? ⟨L, 1, none⟩ = some (.int .i64 i) := row_cell ST.out.cell 1
  have tf : T.frozen? ⟨L, 1, none⟩ = false := row_frozen ST.out.cell 1
  have hi64 : (i : Int) + 1 ≤ 9223372036854775807 := by omega
  rw [← hT]
  clear hT BT SW GW cW e0 e1 g0 g1 g2
  go_upto_region 6 with fail
  rw [← hX]
  clear hX t1 tf hi64 ST GT CT KT
  have xk := fun o => row_cell KX.out o
  have xq := fun o => row_cell RX.out o
  have fr := fun o => row_frozen RX.out o
  have HTB : Hid (tokB x.k x.n x.t = true) := htb
  clear htb
  by_cases k2 : x.k = 2
  · have HV : Hid (tokVa x = ⟨1, x.n, ⟨#[]⟩⟩) := by unfold Hid tokVa; rw [if_pos k2]
    have HO : Hid ((valB (tokVa x) && ok) = ok) := by
      have := HTB.out
      unfold tokB at this
      rw [if_neg (by omega), if_pos k2] at this
      simp only [Bool.and_eq_true] at this
      rw [Hid, HV.out]
      unfold valB
      simp [this.1, no_nil]
    have kb : (x.k == 2) = true := by simp [k2]
    go_wp2_with fail
    refine bodyPost_ret (v := .agg #[.int .i64 1, .int .i64 x.n, .string ⟨#[]⟩]) (results_ps _ _ w.heap.size _ rfl (row_set (row_set (row_set RX.out 0 (.int .i64 (1))) 1 (.int .i64 (x.n))) 2 (.string ⟨#[]⟩)) rfl) rfl ⟨by rw [HV.out]; rfl, ?_, ?_⟩
    · rw [HO.out]
      refine SX.out.keep fun g hg => ?_
      rw [heap_setCell_other _ _ _ _ (by show g ≠ w.heap.size; omega), heap_setCell_other _ _ _ _ (by show g ≠ w.heap.size; omega), heap_setCell_other _ _ _ _ (by show g ≠ w.heap.size; omega)]
    · exact grown_new (grown_new (grown_new GX.out (Nat.le_refl _) _) (Nat.le_refl _) _) (Nat.le_refl _) _
  have kb2 : (x.k == 2) = false := by simp [k2]
  by_cases k3 : x.k = 3
  · have HV : Hid (tokVa x = ⟨4, 0, x.t⟩) := by unfold Hid tokVa; rw [if_neg k2, if_pos k3]
    have HO : Hid ((valB (tokVa x) && ok) = ok) := by
      have := HTB.out
      unfold tokB at this
      rw [if_pos (.inr k3)] at this
      simp only [Bool.and_eq_true] at this
      rw [Hid, HV.out]
      unfold valB
      simp [this.2]
    have kb3 : (x.k == 3) = true := by simp [k3]
    go_wp2_with (first | (go_at_call 107; refine (spec_vword _ _).mono ?_; rintro e w9 ⟨rfl, rfl⟩) | (go_at_call 108; refine (spec_bit _ _).mono ?_; rintro e w9 ⟨rfl, rfl⟩) | fail)
    refine bodyPost_ret (v := .agg #[.int .i64 4, .int .i64 0, .string x.t]) (results_ps _ _ w.heap.size _ rfl (row_set (row_set (row_set RX.out 0 (.int .i64 (4))) 1 (.int .i64 (0))) 2 (.string x.t)) rfl) rfl ⟨by rw [HV.out]; rfl, ?_, ?_⟩
    · rw [HO.out]
      refine SX.out.keep fun g hg => ?_
      rw [heap_setCell_other _ _ _ _ (by show g ≠ w.heap.size; omega), heap_setCell_other _ _ _ _ (by show g ≠ w.heap.size; omega), heap_setCell_other _ _ _ _ (by show g ≠ w.heap.size; omega)]
    · exact grown_new (grown_new (grown_new GX.out (Nat.le_refl _) _) (Nat.le_refl _) _) (Nat.le_refl _) _
  have kb3 : (x.k == 3) = false := by simp [k3]
  by_cases k1 : x.k = 1
  · have kb1 : (x.k == 1) = true := by simp [k1]
    have HVW : Hid (tokVa x = wordVa x.t) := by unfold Hid tokVa; rw [if_neg k2, if_neg k3, if_pos k1]
    by_cases t1 : x.t.toList = [116, 114, 117, 101]
    · have HV : Hid (tokVa x = ⟨2, 1, ⟨#[]⟩⟩) := by rw [Hid, HVW.out]; unfold wordVa; rw [if_pos t1]
      have HO : Hid ((valB (tokVa x) && ok) = ok) := by rw [Hid, HV.out]; unfold valB; simp [no_nil]
      have hw : vwB x.t = true := by unfold vwB; rw [t1]; rfl
      have n1 : (x.t.toList == [110, 117, 108, 108]) = false := by rw [t1]; rfl
      have n2 : (x.t.toList == [116, 114, 117, 101]) = true := by rw [t1]; rfl
      clear t1
      go_wp2_with (first | (go_at_call 107; refine (spec_vword _ _).mono ?_; rintro e w9 ⟨rfl, rfl⟩) | (go_at_call 108; refine (spec_bit _ _).mono ?_; rintro e w9 ⟨rfl, rfl⟩) | fail)
      refine bodyPost_ret (v := .agg #[.int .i64 2, .int .i64 1, .string ⟨#[]⟩]) (results_ps _ _ w.heap.size _ rfl (row_set (row_set (row_set RX.out 0 (.int .i64 (2))) 1 (.int .i64 (1))) 2 (.string ⟨#[]⟩)) rfl) rfl ⟨by rw [HV.out]; rfl, ?_, ?_⟩
      · rw [HO.out]
        refine SX.out.keep fun g hg => ?_
        rw [heap_setCell_other _ _ _ _ (by show g ≠ w.heap.size; omega), heap_setCell_other _ _ _ _ (by show g ≠ w.heap.size; omega), heap_setCell_other _ _ _ _ (by show g ≠ w.heap.size; omega)]
      · exact grown_new (grown_new (grown_new GX.out (Nat.le_refl _) _) (Nat.le_refl _) _) (Nat.le_refl _) _
    by_cases t2 : x.t.toList = [102, 97, 108, 115, 101]
    · have HV : Hid (tokVa x = ⟨2, 0, ⟨#[]⟩⟩) := by rw [Hid, HVW.out]; unfold wordVa; rw [if_neg t1, if_pos t2]
      have HO : Hid ((valB (tokVa x) && ok) = ok) := by rw [Hid, HV.out]; unfold valB; simp [no_nil]
      have hw : vwB x.t = true := by unfold vwB; rw [t2]; rfl
      have n1 : (x.t.toList == [110, 117, 108, 108]) = false := by rw [t2]; rfl
      have n2 : (x.t.toList == [116, 114, 117, 101]) = false := by rw [t2]; rfl
      clear t1 t2
      go_wp2_with (first | (go_at_call 107; refine (spec_vword _ _).mono ?_; rintro e w9 ⟨rfl, rfl⟩) | (go_at_call 108; refine (spec_bit _ _).mono ?_; rintro e w9 ⟨rfl, rfl⟩) | fail)
      refine bodyPost_ret (v := .agg #[.int .i64 2, .int .i64 0, .string ⟨#[]⟩]) (results_ps _ _ w.heap.size _ rfl (row_set (row_set (row_set RX.out 0 (.int .i64 (2))) 1 (.int .i64 (0))) 2 (.string ⟨#[]⟩)) rfl) rfl ⟨by rw [HV.out]; rfl, ?_, ?_⟩
      · rw [HO.out]
        refine SX.out.keep fun g hg => ?_
        rw [heap_setCell_other _ _ _ _ (by show g ≠ w.heap.size; omega), heap_setCell_other _ _ _ _ (by show g ≠ w.heap.size; omega), heap_setCell_other _ _ _ _ (by show g ≠ w.heap.size; omega)]
      · exact grown_new (grown_new (grown_new GX.out (Nat.le_refl _) _) (Nat.le_refl _) _) (Nat.le_refl _) _
    by_cases t3 : x.t.toList = [110, 117, 108, 108]
    · have HV : Hid (tokVa x = ⟨3, 0, ⟨#[]⟩⟩) := by rw [Hid, HVW.out]; unfold wordVa; rw [if_neg t1, if_neg t2, if_pos t3]
      have HO : Hid ((valB (tokVa x) && ok) = ok) := by rw [Hid, HV.out]; unfold valB; simp [no_nil]
      have hw : vwB x.t = true := by unfold vwB; rw [t3]; rfl
      have n1 : (x.t.toList == [110, 117, 108, 108]) = true := by rw [t3]; rfl
      clear t1 t2 t3
      go_wp2_with (first | (go_at_call 107; refine (spec_vword _ _).mono ?_; rintro e w9 ⟨rfl, rfl⟩) | (go_at_call 108; refine (spec_bit _ _).mono ?_; rintro e w9 ⟨rfl, rfl⟩) | fail)
      refine bodyPost_ret (v := .agg #[.int .i64 3, .int .i64 0, .string ⟨#[]⟩]) (results_ps _ _ w.heap.size _ rfl (row_set (row_set (row_set RX.out 0 (.int .i64 (3))) 1 (.int .i64 (0))) 2 (.string ⟨#[]⟩)) rfl) rfl ⟨by rw [HV.out]; rfl, ?_, ?_⟩
      · rw [HO.out]
        refine SX.out.keep fun g hg => ?_
        rw [heap_setCell_other _ _ _ _ (by show g ≠ w.heap.size; omega), heap_setCell_other _ _ _ _ (by show g ≠ w.heap.size; omega), heap_setCell_other _ _ _ _ (by show g ≠ w.heap.size; omega)]
      · exact grown_new (grown_new (grown_new GX.out (Nat.le_refl _) _) (Nat.le_refl _) _) (Nat.le_refl _) _
    have hw : vwB x.t = false := by
      unfold vwB
      rw [beq_eq_false_iff_ne.2 t1, beq_eq_false_iff_ne.2 t2, beq_eq_false_iff_ne.2 t3]; rfl
    have HV : Hid (tokVa x = ⟨0, 0, ⟨#[]⟩⟩) := by rw [Hid, HVW.out]; unfold wordVa; rw [if_neg t1, if_neg t2, if_neg t3]
    have HO : Hid ((valB (tokVa x) && ok) = false) := by rw [Hid, HV.out]; unfold valB; simp
    obtain ⟨Y, hY⟩ : ∃ Y : World, Y = X.setCell ⟨L, 2, none⟩ (.bool false) := ⟨_, rfl⟩
    have SY : Hid (RsSt Y L (some ⟨b, o, none⟩) c l (i + 1) false dp) := by rw [Hid, hY]; exact SX.out.ok_ false
    have GY : Hid (w.grownBy Y (some L)) := by rw [Hid, hY]; exact grown_set GX.out _ _
    have RY : Hid (Y.heap[w.heap.size]? = some (.cells #[.int .i64 0, .int .i64 0, .string ⟨#[]⟩] 101 (0, 0))) := by rw [Hid, hY]; exact (heap_setCell_other _ _ _ _ (by show w.heap.size ≠ L; omega)).trans RX.out
    have t2 : X.cell? ⟨L, 2, none⟩ = some (.bool ok) := row_cell SX.out.cell 2
    have tf2 : X.frozen? ⟨L, 2, none⟩ = false := row_frozen SX.out.cell 2
    go_upto_region 15 with (first | (go_at_call 107; refine (spec_vword _ _).mono ?_; rintro e w9 ⟨rfl, rfl⟩) | fail)
    rw [← hY]
    clear hY t2 tf2 xk xq fr
    have xq := fun o => row_cell RY.out o
    have fr := fun o => row_frozen RY.out o
    go_wp2_with (first | (go_at_call 107; refine (spec_vword _ _).mono ?_; rintro e w9 ⟨rfl, rfl⟩) | (go_at_call 108; refine (spec_bit _ _).mono ?_; rintro e w9 ⟨rfl, rfl⟩) | fail)
    refine bodyPost_ret (v := .agg #[.int .i64 0, .int .i64 0, .string ⟨#[]⟩]) (results_ps _ _ w.heap.size _ rfl (row_set (row_set (row_set RY.out 0 (.int .i64 (0))) 1 (.int .i64 (0))) 2 (.string ⟨#[]⟩)) rfl) rfl ⟨by rw [HV.out]; rfl, ?_, ?_⟩
    · rw [HO.out]
      refine SY.out.keep fun g hg => ?_
      rw [heap_setCell_other _ _ _ _ (by show g ≠ w.heap.size; omega), heap_setCell_other _ _ _ _ (by show g ≠ w.heap.size; omega), heap_setCell_other _ _ _ _ (by show g ≠ w.heap.size; omega)]
    · exact grown_new (grown_new (grown_new GY.out (Nat.le_refl _) _) (Nat.le_refl _) _) (Nat.le_refl _) _
  have kb1 : (x.k == 1) = false := by simp [k1]
  have HV : Hid (tokVa x = ⟨0, 0, ⟨#[]⟩⟩) := by unfold Hid tokVa; rw [if_neg k2, if_neg k3, if_neg k1]
  have HO : Hid ((valB (tokVa x) && ok) = false) := by rw [Hid, HV.out]; unfold valB; simp
  obtain ⟨Y, hY⟩ : ∃ Y : World, Y = X.setCell ⟨L, 2, none⟩ (.bool false) := ⟨_, rfl⟩
  have SY : Hid (RsSt Y L (some ⟨b, o, none⟩) c l (i + 1) false dp) := by rw [Hid, hY]; exact SX.out.ok_ false
  have GY : Hid (w.grownBy Y (some L)) := by rw [Hid, hY]; exact grown_set GX.out _ _
  have RY : Hid (Y.heap[w.heap.size]? = some (.cells #[.int .i64 0, .int .i64 0, .string ⟨#[]⟩] 101 (0, 0))) := by rw [Hid, hY]; exact (heap_setCell_other _ _ _ _ (by show w.heap.size ≠ L; omega)).trans RX.out
  have t2 : X.cell? ⟨L, 2, none⟩ = some (.bool ok) := row_cell SX.out.cell 2
  have tf2 : X.frozen? ⟨L, 2, none⟩ = false := row_frozen SX.out.cell 2
  go_upto_region 15 with (first | (go_at_call 107; refine (spec_vword _ _).mono ?_; rintro e w9 ⟨rfl, rfl⟩) | fail)
  rw [← hY]
  clear hY t2 tf2 xk xq fr
  have xq := fun o => row_cell RY.out o
  have fr := fun o => row_frozen RY.out o
  go_wp2_with (first | (go_at_call 107; refine (spec_vword _ _).mono ?_; rintro e w9 ⟨rfl, rfl⟩) | (go_at_call 108; refine (spec_bit _ _).mono ?_; rintro e w9 ⟨rfl, rfl⟩) | fail)
  refine bodyPost_ret (v := .agg #[.int .i64 0, .int .i64 0, .string ⟨#[]⟩]) (results_ps _ _ w.heap.size _ rfl (row_set (row_set (row_set RY.out 0 (.int .i64 (0))) 1 (.int .i64 (0))) 2 (.string ⟨#[]⟩)) rfl) rfl ⟨by rw [HV.out]; rfl, ?_, ?_⟩
  · rw [HO.out]
    refine SY.out.keep fun g hg => ?_
    rw [heap_setCell_other _ _ _ _ (by show g ≠ w.heap.size; omega), heap_setCell_other _ _ _ _ (by show g ≠ w.heap.size; omega), heap_setCell_other _ _ _ _ (by show g ≠ w.heap.size; omega)]
  · exact grown_new (grown_new (grown_new GY.out (Nat.le_refl _) _) (Nat.le_refl _) _) (Nat.le_refl _) _
end Go.Proofs.YtlilfbcngncllaaGreatDoor
namespace Go.Proofs.YtlilfbcngncllaaGreatDoor
open Go.ChangeShapes Go.WideShapes Go.ChangeAt Go.RowKit
set_option linter.unusedVariables false

theorem pArg_at {l : List Tk} (h : TkG l) (i : Nat) : pArg (l.drop i) = if (nmI l i).toList = [] then none else if tkE (nxT l (i + 1)) ⟨4, 0, ⟨#[58]⟩⟩ = true then (pVal (l.drop (i + 1 + 1))).map fun x => (⟨nmI l i, x.1⟩, x.2) else none := by
  unfold pArg
  rw [nm_at h, drop2, drop2, ← at_tk h, tl_lit #[58]]
  by_cases e : (nmI l i).toList = []
  · rw [if_pos e, if_pos e]
  · rw [if_neg e, if_neg e]
theorem results_arg (tmps : Array Value) (W : World) (N : Nat) (cs : Array Value) (h2 : tmps.getD 2 undef = .pointer (some ⟨N, 0, none⟩)) (hrow : W.heap[N]? = some (.cells cs 103 (0, 0))) (hsz : cs.size = 4) :
    (results Tryz.f116 tmps).run Tryz.prog W = .ok (.agg cs) W := by
  have c39 : (Tryz.prog.info? 103).map (·.size) = some 4 := by kernel_rfl
  exact results_cell_row Tryz.results116 tmps W N 103 cs (0, 0) _ h2 hrow Tryz.underlying103 rfl (by rw [hsz]; exact c39)
set_option maxHeartbeats 4000000 in
theorem pd_arg (ex : Array Value) (L c i : Nat) (a : Option Addr) (l : List Tk) (w : World) (h : RdSt 37 ex w L a c l i) (hl : TkG l) :
    Calls Tryz.prog 116 #[.pointer (some ⟨L, 0, none⟩)] w (ReadP arV1 ex L a c l (pArg (l.drop i)) w) := by
  obtain ⟨P, HP⟩ : ∃ P, Hid (P = pArg (l.drop i)) := ⟨_, rfl⟩
  rw [← HP.out]
  rw [pArg_at hl] at HP
  have HG : Hid _ := hl
  obtain ⟨V, hV⟩ : ∃ V, V = w.alloc (.cells #[.string ⟨#[]⟩, .int .i64 0, .int .i64 0, .string ⟨#[]⟩] 103) := ⟨_, rfl⟩
  have BV : Below w.heap.size w V := by rw [hV]; exact (Below.refl _ _).alloc (Nat.le_refl _) _
  have cV : V.heap[w.heap.size]? = some (.cells #[.string ⟨#[]⟩, .int .i64 0, .int .i64 0, .string ⟨#[]⟩] 103 (0, 0)) := by rw [hV]; exact heap_alloc_new _ _
  have zV : w.heap.size < V.heap.size := by rw [hV]; simp
  have hLw := h.lt
  have HQ : Hid _ := rd_name 37 ex L c i a l V (h.below BV) hl.len
  have GV : Hid (w.grownBy V (some L)) := grown_below (grown_refl w _) BV
  have HCV : Hid _ := cV
  clear h BV cV hl
  go_enter Tryz.func116, Tryz.ntmps116
  go_upto_region 1 with fail
  rw [← hV]
  clear hV
  go_wp2_with fail
  refine Calls.mono HQ.out ?_
  rintro e w1 ⟨⟨hn, rfl, s1⟩ | ⟨hn, rfl⟩, g1⟩
  case inr =>
    have HE : Hid (P = none) := by rw [Hid, HP.out]; rw [if_pos hn]
    have G1 : Hid (w.grownBy w1 (some L)) := grown_trans GV.out g1
    clear g1 HQ hn
    go_wp2_with fail
    exact ⟨rfl, .inr ⟨HE.out, rfl⟩, G1.out⟩
  have z1 := g1.size
  have C1 : Hid (w1.heap[w.heap.size]? = _) := grown_keeps HCV.out zV g1 (by omega)
  have G1 : Hid (w.grownBy w1 (some L)) := grown_trans GV.out g1
  have HN1 : Hid ((nmI l i).toList ≠ []) := hn
  obtain ⟨nm, hnm⟩ : ∃ z, z = nmI l i := ⟨_, rfl⟩
  have HNM : Hid (nm = nmI l i) := hnm
  rw [← hnm]
  obtain ⟨U, hU⟩ : ∃ U, U = w1.alloc (.cells #[.string nm, .int .i64 0, .int .i64 0, .string ⟨#[]⟩] 103) := ⟨_, rfl⟩
  have BU : Below w1.heap.size w1 U := by rw [hU]; exact (Below.refl _ _).alloc (Nat.le_refl _) _
  have cU : U.heap[w1.heap.size]? = some (.cells #[.string nm, .int .i64 0, .int .i64 0, .string ⟨#[]⟩] 103 (0, 0)) := by rw [hU]; exact heap_alloc_new _ _
  have zU : w1.heap.size < U.heap.size := by rw [hU]; simp
  have hL1 := s1.lt
  have HQ2 : Hid _ := rd_mustPass 37 ex L c (i + 1) a l ⟨#[58]⟩ U (s1.below BU) HG.out.len
  have GU : Hid (w.grownBy U (some L)) := grown_below G1.out BU
  have C1U : Hid (U.heap[w.heap.size]? = _) := (BU.block _ (by omega)).trans C1.out
  have CU : Hid _ := cU
  clear hn s1 g1 HQ HCV GV C1 G1 hnm BU cU
  go_upto_region 2 with fail
  rw [← hU]
  clear hU
  go_wp2_with fail
  refine Calls.mono HQ2.out ?_
  rintro e w2 ⟨⟨hm, rfl, s2⟩ | ⟨hm, rfl⟩, g2⟩
  case inr =>
    have HE : Hid (P = none) := by rw [Hid, HP.out]; rw [if_neg HN1.out, if_neg (by rw [hm]; simp)]
    have G2 : Hid (w.grownBy w2 (some L)) := grown_trans GU.out g2
    clear g2 HQ2 hm
    go_wp2_with fail
    exact ⟨rfl, .inr ⟨HE.out, rfl⟩, G2.out⟩
  have z2 := g2.size
  have HP2 : Hid (P = (pVal (l.drop (i + 1 + 1))).map fun x => (⟨nm, x.1⟩, x.2)) := by rw [Hid, HP.out, if_neg HN1.out, if_pos hm, HNM.out]
  have C2 : Hid (w2.heap[w.heap.size]? = _) := grown_keeps C1U.out (by omega) g2 (by omega)
  have D2 : Hid (w2.heap[w1.heap.size]? = _) := grown_keeps CU.out zU g2 (by omega)
  have G2 : Hid (w.grownBy w2 (some L)) := grown_trans GU.out g2
  have HQ3 : Hid _ := pd_value ex L c (i + 1 + 1) a l w2 s2 HG.out
  clear hm s2 g2 HQ2 GU C1U CU HP HN1 HNM
  go_wp2_with fail
  refine Calls.mono HQ3.out ?_
  rintro e w3 ⟨⟨v, j, hv, rfl, s3⟩ | ⟨hv, rfl⟩, g3⟩
  case inr =>
    have HE : Hid (P = none) := by rw [Hid, HP2.out, hv]; rfl
    have G3 : Hid (w.grownBy w3 (some L)) := grown_trans G2.out g3
    clear g3 HQ3 hv
    go_wp2_with fail
    exact ⟨rfl, .inr ⟨HE.out, rfl⟩, G3.out⟩
  have HE : Hid (P = some (⟨nm, v⟩, l.drop j)) := by rw [Hid, HP2.out, hv]; rfl
  have C3 : Hid (w3.heap[w.heap.size]? = some (.cells #[.string ⟨#[]⟩, .int .i64 0, .int .i64 0, .string ⟨#[]⟩] 103 (0, 0))) := grown_keeps C2.out (by omega) g3 (by omega)
  have D3 : Hid (w3.heap[w1.heap.size]? = some (.cells #[.string nm, .int .i64 0, .int .i64 0, .string ⟨#[]⟩] 103 (0, 0))) := grown_keeps D2.out (by omega) g3 (by omega)
  have G3 : Hid (w.grownBy w3 (some L)) := grown_trans G2.out g3
  have S3 : Hid _ := s3
  clear hv s3 g3 HQ3 G2 C2 D2 HP2
  unfold vaV
  obtain ⟨X, hX⟩ : ∃ X : World, X = ((w3.setCell ⟨w1.heap.size, 1, none⟩ (.int .i64 v.k)).setCell ⟨w1.heap.size, 2, none⟩ (.int .i64 v.n)).setCell ⟨w1.heap.size, 3, none⟩ (.string v.t) := ⟨_, rfl⟩
  have DX := row_set (row_set (row_set D3.out 1 (.int .i64 v.k)) 2 (.int .i64 v.n)) 3 (.string v.t)
  have oX : ∀ g, g ≠ w1.heap.size → X.heap[g]? = w3.heap[g]? := fun g hg => by
    rw [hX, heap_setCell_other _ _ _ _ (by exact hg), heap_setCell_other _ _ _ _ (by exact hg), heap_setCell_other _ _ _ _ (by exact hg)]
  have CX : Hid (X.heap[w.heap.size]? = _) := (oX _ (by omega)).trans C3.out
  rw [← hX] at DX
  have SX : Hid (RdSt 37 ex X L a c l j) := S3.out.keep fun g hg => oX g (by omega)
  have GX : Hid (w.grownBy X (some L)) := by rw [Hid, hX]; exact grown_new (grown_new (grown_new G3.out (by omega) _) (by omega) _) (by omega) _
  have f3 := fun o => row_frozen D3.out o
  have y3 := fun o => row_cell D3.out o
  go_upto_region 4 with fail
  rw [← hX]
  clear hX f3 y3 S3 G3 C3 D3 oX
  have xA := fun o => row_cell DX o
  have fR := fun o => row_frozen CX.out o
  have xq := fun o => row_cell CX.out o
  clear DX
  go_wp2_with fail
  refine bodyPost_ret (v := .agg #[.string nm, .int .i64 v.k, .int .i64 v.n, .string v.t]) (results_arg _ _ w.heap.size _ rfl (row_set (row_set (row_set (row_set CX.out 0 (.string nm)) 1 (.int .i64 v.k)) 2 (.int .i64 v.n)) 3 (.string v.t)) rfl) rfl ⟨.inl ⟨_, _, HE.out, rfl, ?_⟩, ?_⟩
  · refine SX.out.keep fun g hg => ?_
    rw [heap_setCell_other _ _ _ _ (by show g ≠ w.heap.size; omega), heap_setCell_other _ _ _ _ (by show g ≠ w.heap.size; omega), heap_setCell_other _ _ _ _ (by show g ≠ w.heap.size; omega), heap_setCell_other _ _ _ _ (by show g ≠ w.heap.size; omega)]
  · exact grown_new (grown_new (grown_new (grown_new GX.out (Nat.le_refl _) _) (Nat.le_refl _) _) (Nat.le_refl _) _) (Nat.le_refl _) _

/-- Arguments behind the mark that opens them: one at least. -/
def pArgs1 (l : List Tk) : Option (List Ar × List Tk) :=
  match pArg l with
  | none => none
  | some (a, r) => (pArgs r).map fun x => (a :: x.1, x.2)
def arC (x : Ar) : List Value := [.string x.nm, .int .i64 x.v.k, .int .i64 x.v.n, .string x.v.t]
def arVs (l : List Ar) : List Value := l.flatMap arC
theorem arVs_snoc (l : List Ar) (x : Ar) : arVs (l ++ [x]) = arVs l ++ [.string x.nm, .int .i64 x.v.k, .int .i64 x.v.n, .string x.v.t] := by
  unfold arVs; rw [List.flatMap_append]; rfl
theorem arVs_one (x : Ar) : arVs [x] = [.string x.nm, .int .i64 x.v.k, .int .i64 x.v.n, .string x.v.t] := rfl
theorem info_arg : ∃ i, Tryz.prog.info? 103 = some i ∧ i.zero = some (.agg #[.string ⟨#[]⟩, .int .i64 0, .int .i64 0, .string ⟨#[]⟩]) ∧ i.size = 4 ∧ i.bytes = 48 := by
  exact info_partsS (by kernel_rfl)
theorem pArgs_end {l : List Tk} (h : TkG l) {k : Nat} (hk : tkE (nxT l k) ⟨4, 0, ⟨#[41]⟩⟩ = true) : pArgs (l.drop k) = some ([], l.drop (k + 1)) := by
  rw [pArgs_eq, show ([41] : List UInt8) = (⟨#[41]⟩ : ByteArray).toList from (tl_lit _).symm, at_tk h, if_pos hk, drop2]
theorem pArgs_go {l : List Tk} (h : TkG l) {k : Nat} (hk : tkE (nxT l k) ⟨4, 0, ⟨#[41]⟩⟩ = false) : pArgs (l.drop k) = pArgs1 (l.drop k) := by
  rw [pArgs_eq, show ([41] : List UInt8) = (⟨#[41]⟩ : ByteArray).toList from (tl_lit _).symm, at_tk h, if_neg (by rw [hk]; simp)]
  rfl
theorem pArgs1_step {l r : List Tk} {y : Ar} (h : pArg l = some (y, r)) (g : List Ar) : ((pArgs1 l).map fun z => (g ++ z.1, z.2)) = (pArgs r).map fun z => ((g ++ [y]) ++ z.1, z.2) := by
  unfold pArgs1
  rw [h]
  simp only
  cases pArgs r with
  | none => rfl
  | some x => simp
/-- A list of arguments is told, a row of its own. -/
def ArgsP (ex : Array Value) (L : Nat) (a : Option Addr) (c : Nat) (l : List Tk) (r : Option (List Ar × List Tk)) (w : World) (e : Ending) (w' : World) : Prop :=
  ((∃ xs j a' c', r = some (xs, l.drop j) ∧ e = .returned (.slice a' xs.length c') ∧ w'.ownsRow w.heap.size 103 4 (.slice a' xs.length c') xs.length (arVs xs) ∧ RdSt 37 ex w' L a c l j) ∨ (r = none ∧ badF e)) ∧ w.grownBy w' (some L)
theorem drop_lt {l r : List Tk} {j k : Nat} (hj : j ≤ l.length) (h : (l.drop j).length < (l.drop k).length) : k < j := by
  simp only [List.length_drop] at h; omega
set_option maxHeartbeats 4000000 in
theorem pd_args (ex : Array Value) (L c i : Nat) (a : Option Addr) (l : List Tk) (w : World) (h : RdSt 37 ex w L a c l i) (hl : TkG l) :
    Calls Tryz.prog 104 #[.pointer (some ⟨L, 0, none⟩)] w (ArgsP ex L a c l (pArgs1 (l.drop i)) w) := by
  have HG : Hid _ := hl
  have HLN : Hid (l.length ≤ 1048576) := hl.len
  obtain ⟨P, HP⟩ : ∃ P, Hid (P = pArgs1 (l.drop i)) := ⟨_, rfl⟩
  rw [← HP.out]
  have HQ : Hid _ := pd_arg ex L c i a l w h hl
  have hLw := h.lt
  clear h hl
  go_enter Tryz.func104, Tryz.ntmps104
  go_wp2_with fail
  refine Calls.mono HQ.out ?_
  rintro e w1 ⟨⟨x, j, hx, rfl, s1⟩ | ⟨hx, rfl⟩, g1⟩
  case inr =>
    have HE : Hid (P = none) := by rw [Hid, HP.out]; unfold pArgs1; rw [hx]
    have G1 : Hid _ := g1
    clear g1 HQ hx
    go_wp2_with fail
    exact ⟨rfl, .inr ⟨HE.out, rfl⟩, G1.out⟩
  unfold arV1
  obtain ⟨U, hU⟩ : ∃ U, U = w1.alloc (.cells #[.string x.nm, .int .i64 x.v.k, .int .i64 x.v.n, .string x.v.t] 103) := ⟨_, rfl⟩
  have BU : Below w1.heap.size w1 U := by rw [hU]; exact (Below.refl _ _).alloc (Nat.le_refl _) _
  have SU : Hid (RdSt 37 ex U L a c l j) := s1.below BU
  have GU : Hid (w.grownBy U (some L)) := grown_below g1 BU
  have z1 := g1.size
  have OU : Hid (U.ownsRow w.heap.size 103 4 (.slice (some ⟨w1.heap.size, 0, none⟩) 1 1) 1 (arVs [x])) := by
    rw [Hid, hU]
    exact ⟨rfl, .inr ⟨w1.heap.size, 1, _, rfl, z1, heap_alloc_new _ _, Nat.le_refl _, by unfold maxLen; omega, rfl, rfl⟩⟩
  have HT : Hid (P = (pArgs (l.drop j)).map fun y => ([x] ++ y.1, y.2)) := by rw [Hid, HP.out]; unfold pArgs1; rw [hx]; rfl
  have hj := s1.le
  have HJ1 : Hid (1 ≤ j) := by have := drop_lt (r := l) hj (pArg_len hx); unfold Hid; omega
  clear hx s1 g1 HQ BU HP
  go_wp2_with fail
  rw [← hU]
  clear hU
  go_loopw [3] (fun v w' => ∃ (k : Nat) (g : List Ar) (a' : Option Addr) (c' : Nat), v = .slice a' g.length c' ∧ g.length ≤ k ∧ k ≤ l.length ∧ Hid (RdSt 37 ex w' L a c l k) ∧ Hid (w.grownBy w' (some L)) ∧ Hid (w'.ownsRow w.heap.size 103 4 (.slice a' g.length c') g.length (arVs g)) ∧ Hid (P = (pArgs (l.drop k)).map fun y => (g ++ y.1, y.2))) (fun _ w' => l.length - rdPos w' L)
  case atStart => exact ⟨j, [x], _, 1, rfl, HJ1.out, hj, SU, GU, OU, HT⟩
  case round =>
    obtain ⟨k, g, a', c', rfl, hgk, hk, HS, HGR, HO, HM⟩ := hrel
    obtain ⟨wo, rfl⟩ : ∃ z, z = wr := ⟨_, rfl⟩
    have HQ : Hid _ := rd_passes 37 ex L c k a l ⟨#[41]⟩ wo HS.out HLN.out
    have HPO : Hid (rdPos wo L = k) := rdPos_of HS.out
    obtain ⟨r, HR⟩ : ∃ r, Hid (r = tkE (nxT l k) ⟨4, 0, ⟨#[41]⟩⟩) := ⟨_, rfl⟩
    rw [← HR.out] at HQ
    go_wp2_with fail
    refine Calls.mono HQ.out ?_
    rintro e w2 ⟨rfl, s2, g2⟩
    have HS2 : Hid _ := s2
    have G2 : Hid (w.grownBy w2 (some L)) := grown_trans HGR.out g2
    have O2 : Hid (w2.ownsRow w.heap.size 103 4 (.slice a' g.length c') g.length (arVs g)) := own_grown HO.out g2 hLw
    clear s2 g2 HQ HS HGR HO
    cases r with
    | true =>
      have HE : Hid (P = some (g, l.drop (k + 1))) := by rw [Hid, HM.out, pArgs_end HG.out HR.out.symm]; simp
      clear HM HR
      go_wp2_with fail
      go_ret
      exact ⟨.inl ⟨g, k + 1, a', c', HE.out, rfl, O2.out, HS2.out⟩, G2.out⟩
    | false =>
      have HQ2 : Hid _ := pd_arg ex L c k a l w2 HS2.out HG.out
      have HM1 : Hid (P = (pArgs1 (l.drop k)).map fun y => (g ++ y.1, y.2)) := by rw [Hid, HM.out, pArgs_go HG.out HR.out.symm]
      clear HM HR
      go_wp2_with fail
      refine Calls.mono HQ2.out ?_
      rintro e w3 ⟨⟨y, q, hy, rfl, s3⟩ | ⟨hy, rfl⟩, g3⟩
      case inr =>
        have HE : Hid (P = none) := by rw [Hid, HM1.out]; unfold pArgs1; rw [hy]; rfl
        have G3 : Hid (w.grownBy w3 (some L)) := grown_trans G2.out g3
        clear g3 HQ2 hy HM1
        go_wp2_with fail
        exact ⟨rfl, .inr ⟨HE.out, rfl⟩, G3.out⟩
      have hq := s3.le
      have hkq : k < q := drop_lt (r := l) hq (pArg_len hy)
      have HM2 : Hid (P = (pArgs (l.drop q)).map fun z => ((g ++ [y]) ++ z.1, z.2)) := by
        rw [Hid, HM1.out]; exact pArgs1_step hy g
      unfold arV1
      obtain ⟨U, hU⟩ : ∃ U, U = w3.alloc (.cells #[.string y.nm, .int .i64 y.v.k, .int .i64 y.v.n, .string y.v.t] 103) := ⟨_, rfl⟩
      have BU : Below w3.heap.size w3 U := by rw [hU]; exact (Below.refl _ _).alloc (Nat.le_refl _) _
      have cU : U.heap[w3.heap.size]? = some (.cells #[.string y.nm, .int .i64 y.v.k, .int .i64 y.v.n, .string y.v.t] 103 (0, 0)) := by rw [hU]; exact heap_alloc_new _ _
      have G3 : Hid (w.grownBy U (some L)) := grown_below (grown_trans G2.out g3) BU
      have SU : Hid (RdSt 37 ex U L a c l q) := s3.below BU
      have O3 : U.ownsRow w.heap.size 103 4 (.slice a' g.length c') g.length (arVs g) := by rw [hU]; exact (own_grown O2.out g3 hLw).alloc _
      have z3 := G3.out.size
      have hln := HLN.out
      obtain ⟨ig, hig, hzg, hsg, hbg⟩ := info_arg
      obtain ⟨g8, cap8, W8, hrun, o8, gr8, hat8, hlt8⟩ := run_append_lies (P := Tryz.prog) U 81 81 w.heap.size 103 ig _ 4 48 Tryz.underlying81 hig hzg hsg hbg rfl (by decide) (.slice a' g.length c') g.length (arVs g) O3 ⟨w3.heap.size, 0, none⟩ 1 1 [.string y.nm, .int .i64 y.v.k, .int .i64 y.v.n, .string y.v.t] rfl (fun t u ht => by
        rw [add_plain]
        have := row_cell cU (0 + t)
        rw [this, ← ht]
        simp) (fun u hu => by
          simp only [List.mem_cons, List.not_mem_nil, or_false] at hu
          rcases hu with rfl | rfl | rfl | rfl <;> rfl) (by omega) (by unfold maxLen; omega) (by omega) z3 _ rfl
      have O8 : Hid (W8.ownsRow w.heap.size 103 4 (.slice (some ⟨g8, 0, none⟩) (g ++ [y]).length cap8) (g ++ [y]).length (arVs (g ++ [y]))) := by
        rw [Hid, arVs_snoc, List.length_append]; exact o8
      have hoff : ∀ q, (Value.slice a' g.length c').ownBlock = some q → L < q := fun q hq => by have := (World.ownsRow.lt O3 q hq).1; omega
      have S8 : Hid (RdSt 37 ex W8 L a c l q) := SU.out.keep fun t ht => gr8.block t (by have := SU.out.lt; omega) (fun e => by have := hoff t e.symm; omega)
      have G8 : Hid (w.grownBy W8 (some L)) := grown_append G3.out gr8 (fun t ht => (World.ownsRow.lt O3 t ht).1)
      have HP8 : Hid (rdPos W8 L = q) := rdPos_of S8.out
      have HRUN : Hid _ := hrun
      have HU : Hid (U = _) := hU
      clear hln hU hrun o8 gr8 hat8 O3 cU BU g3 s3 HQ2 hy HM1 hoff hig hzg hsg hbg
      go_wp2_with (first | (at_builtin; rw [← HU.out]; refine wpList_append_runR rfl _ _ _ rfl _ _ _ _ rfl rfl HRUN.out ?_) | fail)
      exact ⟨⟨q, g ++ [y], some ⟨g8, 0, none⟩, cap8, by simp, by simp; omega, hq, S8, G8, O8, HM2⟩, by rw [HP8.out, HPO.out]; omega⟩
end Go.Proofs.YtlilfbcngncllaaGreatDoor
