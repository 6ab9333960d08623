/- The specification reads a schema: written by wip/tools/ssparse.py. -/
import Derived.Test.YtnfoinmccigdfaaGreatDoorSsState
import Derived.Deep.CutRange
namespace Go.Proofs.YtnfoinmccigdfaaGreatDoor
open Go.ChangeShapes Go.WideShapes Go.ChangeAt Go.RowKit
set_option linter.unusedVariables false

/-- How much may be read yet; nothing behind a fault. -/
def rsM (n : Nat) (w : World) (L : Nat) : Nat := match w.cell? ⟨L, 2, none⟩ with
  | some (.bool true) => n - rdPos w L
  | _ => 0
theorem rsM_true {w : World} {L c i n : Nat} {a : Option Addr} {l : List Tk} {dp : Bool} (h : RsSt w L a c l i true dp) : rsM n w L = n - i := by
  have c2 : w.cell? ⟨L, 2, none⟩ = some (.bool true) := row_cell h.cell 2
  unfold rsM; rw [c2, rsPos_of h]
theorem rsM_false {w : World} {L c i n : Nat} {a : Option Addr} {l : List Tk} {dp : Bool} (h : RsSt w L a c l i false dp) : rsM n w L = 0 := by
  have c2 : w.cell? ⟨L, 2, none⟩ = some (.bool false) := row_cell h.cell 2
  unfold rsM; rw [c2]
set_option maxHeartbeats 16000000 in
set_option maxRecDepth 40000 in
theorem spec_l03Parse (s : ByteArray) (w : World) (hs : s.size ≤ 65536) : Calls Tryz.prog 9 #[.string s] w (PaIs (lexB s) w) := by
  have hlb : lexB s = lexR s 0 [] := by unfold lexB; rw [if_neg (by omega)]
  obtain ⟨V, hV⟩ : ∃ V, V = w.alloc (.cells #[.slice none 0 0] 24) := ⟨_, rfl⟩
  have BV : Hid (Below w.heap.size w V) := by rw [Hid, hV]; exact (Below.refl _ _).alloc (Nat.le_refl _) _
  have cV : Hid (V.heap[w.heap.size]? = some (.cells #[.slice none 0 0] 24 (0, 0))) := by rw [Hid, hV]; exact heap_alloc_new _ _
  have zV : w.heap.size < V.heap.size := by rw [hV]; simp
  have HQ : Hid _ := spec_lex s V hs
  rw [← hlb] at HQ
  obtain ⟨l, cd, hl⟩ : ∃ l cd, lexB s = (l, cd) := ⟨_, _, rfl⟩
  rw [hl] at HQ ⊢
  have HLX : Hid (TkOk l ∧ TkBd 65540 l ∧ l.length ≤ 4000) := lexB_ok hl
  have hll := HLX.out.2.2
  clear hl hlb hs
  go_enter Tryz.func9, Tryz.ntmps9
  go_upto_region 1 with fail
  rw [← hV]
  clear hV
  go_wp2_with fail
  refine Calls.mono HQ.out ?_
  rintro e w1 ⟨a, c, rfl, o1, b1⟩
  have z1 := b1.size
  have B1 : Hid (Below w.heap.size w w1) := BV.out.trans (b1.mono (by omega))
  have C1 : Hid (w1.heap[w.heap.size]? = some (.cells #[.slice none 0 0] 24 (0, 0))) := (b1.block _ zV).trans cV.out
  have RT : Hid (TkRow 0 w1.heap.size w1 a l) := (own_tkRow o1).out (Nat.zero_le _) (Nat.le_refl _) (fun _ _ _ h => h)
  clear o1 b1 HQ BV cV
  by_cases hc0 : cd = 0
  case neg =>
    have hcb : (cd != 0) = true := by rw [bne_iff_ne]; exact hc0
    have HE : Hid (PaR (l, cd) [] cd) := .inl ⟨hc0, rfl, rfl⟩
    have x1 := fun o => row_cell C1.out o
    have f1 := fun o => row_frozen C1.out o
    go_wp2_with fail
    refine bodyPost_ret (v := .tuple #[.agg #[.slice none 0 0], .int .i64 cd]) (by simp [results, Tryz.results9, go_sem, x1]) rfl ⟨[], none, 0, cd, [], rfl, HE.out, .inl ⟨rfl, rfl⟩, List.nodup_nil, fun g hg => by simp at hg, ?_⟩
    repeat (refine Below.setCell ?_ (by simp) _)
    exact B1.out
  subst hc0
  obtain ⟨w0, hw0⟩ : ∃ z, z = w1.alloc (.cells #[.slice a l.length c, .int .i64 0, .bool true, .bool false] 44) := ⟨_, rfl⟩
  obtain ⟨U, hU⟩ : ∃ z, z = (w0.alloc (.cells #[] 49)).alloc (.cells #[.slice (some ⟨w1.heap.size + 1, 0, none⟩) 0 0] 24) := ⟨_, rfl⟩
  have z0 : w0.heap.size = w1.heap.size + 1 := by rw [hw0]; simp
  have B0 : Below w1.heap.size w1 w0 := by rw [hw0]; exact (Below.refl _ _).alloc (Nat.le_refl _) _
  have BU : Below w0.heap.size w0 U := by rw [hU]; exact ((Below.refl _ _).alloc (Nat.le_refl _) _).alloc (by simp) _
  have zU : w0.heap.size + 2 ≤ U.heap.size := by rw [hU]; simp
  have cr : w0.heap[w1.heap.size]? = some (.cells #[.slice a l.length c, .int .i64 0, .bool true, .bool false] 44 (0, 0)) := by rw [hw0]; exact heap_alloc_new _ _
  have ce : U.heap[w1.heap.size + 1]? = some (.cells #[] 49 (0, 0)) := by
    rw [hU, Below.heap_alloc _ _ _ (by simp; omega), ← z0]; exact heap_alloc_new _ _
  have cs : U.heap[w1.heap.size + 1 + 1]? = some (.cells #[.slice (some ⟨w1.heap.size + 1, 0, none⟩) 0 0] 24 (0, 0)) := by
    rw [hU, ← z0]
    have := heap_alloc_new (w0.alloc (.cells #[] 49)) (.cells #[.slice (some ⟨w0.heap.size, 0, none⟩) 0 0] 24)
    simpa using this
  go_upto_region 6 with fail
  rw [← hw0, ← hU]
  have BW0 : Hid (Below w.heap.size w w0) := B1.out.trans (B0.mono B1.out.size)
  have P0 : Hid (PsS w0 w1.heap.size w.heap.size (w1.heap.size + 1 + 1) a c l 0 true (.slice (some ⟨w1.heap.size + 1, 0, none⟩) ([] : List Ty).length 0) [] U) := by
    have hR := (Array.getElem?_eq_some_iff.1 C1.out).1
    refine ⟨⟨(BU.block _ (by omega)).trans cr, RT.out.same fun g hg => (BU.block g (by omega)).trans (B0.block g hg)⟩, (BU.block _ (by omega)).trans ((B0.block _ hR).trans C1.out), cs, grown_below (grown_refl _ _) BU, ?_, by omega, hR, by omega⟩
    exact ⟨⟨rfl, .inr ⟨w1.heap.size + 1, 0, #[], rfl, by omega, ce, Nat.le_refl _, Nat.zero_le _, rfl, by simp [tdVs]⟩⟩, fun i h => absurd h (by simp), fun i j h => absurd h (by simp)⟩
  obtain ⟨S, hS⟩ : ∃ z, z = w1.heap.size + 1 + 1 := ⟨_, rfl⟩
  obtain ⟨aZ, haZ⟩ : ∃ z : Option Addr, z = some ⟨w1.heap.size + 1, 0, none⟩ := ⟨_, rfl⟩
  obtain ⟨L, hLL⟩ : ∃ z, z = w1.heap.size := ⟨_, rfl⟩
  rw [← hS, ← haZ] at P0 ⊢
  rw [← hLL] at P0 ⊢
  have HWL : Hid (w.heap.size ≤ L) := by rw [Hid, hLL]; exact B1.out.size
  clear hw0 hU z0 B0 BU zU cr ce cs RT C1 B1 hS haZ hLL z1 zV
  go_loopw [8] (fun _ w' => ∃ (ts : List Ty) (aV : Option Addr) (cV j : Nat) (ok : Bool), Hid (PsS w0 L w.heap.size S a c l j ok (.slice aV ts.length cV) ts w') ∧ j ≤ l.length + 1 ∧ Hid (ok = true → ts.length ≤ j ∧ j ≤ l.length ∧ ∀ r, Many (eofB l) (TdR l) j r → Many (eofB l) (TdR l) 0 (ahead (ts.map tyD) r)) ∧ Hid (ok = false → Many (eofB l) (TdR l) 0 none)) (fun _ w' => rsM (l.length + 3) w' L)
  case atStart => exact ⟨[], aZ, 0, 0, true, P0, Nat.zero_le _, fun _ => ⟨Nat.le_refl _, Nat.zero_le _, fun r hr => by cases r with | none => exact hr | some p => exact hr⟩, fun q => absurd q (by decide)⟩
  case round =>
    obtain ⟨wx, rfl⟩ : ∃ z, z = wr := ⟨_, rfl⟩
    obtain ⟨ts, aV, cV, j, ok, PS, hjl, HOK, HBAD⟩ := hrel
    have xL := fun o => row_cell PS.out.rd.cell o
    have BX : Hid (Below w.heap.size w wx) := BW0.out.grown PS.out.gr BW0.out.size (fun k e => by simp only [Option.some.injEq] at e; have := HWL.out; omega)
    cases ok with
    | false =>
      have HE : Hid (PaR (l, 0) [] 3) := .inr ⟨rfl, .inl ⟨HBAD.out rfl, rfl, rfl⟩⟩
      have xR := fun o => row_cell PS.out.r o
      have fR := fun o => row_frozen PS.out.r o
      have hRL := PS.out.hR
      go_wp2_with fail
      refine bodyPost_ret (v := .tuple #[.agg #[.slice none 0 0], .int .i64 3]) (by simp [results, Tryz.results9, go_sem, xR]) rfl ⟨[], none, 0, 3, [], rfl, HE.out, .inl ⟨rfl, rfl⟩, List.nodup_nil, fun g hg => by simp at hg, ?_⟩
      repeat (refine Below.setCell ?_ (by simp) _)
      exact BX.out
    | true =>
      obtain ⟨htl, hj2, hmm⟩ := HOK.out rfl
      have HPO : Hid (rsM (l.length + 3) wx L = l.length + 3 - j) := rsM_true PS.out.rd
      have HMM : Hid (∀ r, Many (eofB l) (TdR l) j r → Many (eofB l) (TdR l) 0 (ahead (ts.map tyD) r)) := hmm
      clear hmm HOK HBAD
      by_cases hlt : j < l.length
      case neg =>
        have hje : j = l.length := by omega
        have hltI : ¬ (j : Int) < l.length := by omega
        have hdec : decide (j < l.length) = false := decide_eq_false hlt
        have HMG : Hid (Many (eofB l) (TdR l) 0 (some (ts.map tyD, j + 1))) := by
          have := HMM.out _ (.stop (by unfold eofB; rw [decide_eq_true hje]))
          simp only [ahead, List.append_nil] at this
          exact this
        obtain ⟨a5, c5, e5, o5⟩ := td_own PS.out.ts
        obtain ⟨rfl, _, rfl⟩ : a5 = aV ∧ True ∧ c5 = cV := by
          simp only [Value.slice.injEq] at e5
          exact ⟨e5.1.symm, trivial, e5.2.2.symm⟩
        have hlen : (ts.map tyD).length = ts.length := by simp
        have HBD : Hid (G.TdsBd 1048576 (ts.map tyD)) := sch_bd (m := 1048576) (fun t ht => by have := HLX.out.2.1 t ht; omega) (by omega) HMG.out
        have HQS : Hid (Calls Tryz.prog 24 #[.agg #[.slice a5 ts.length c5]] wx fun e w' => G.Says (G.SchOK (ts.map tyD)) e ∧ Below wx.heap.size wx w') := by
          have := G.spec_schema a5 c5 (ts.map tyD) wx (o5.row fun g hg => ⟨Nat.zero_le _, (tdBs_in PS.out.ts g hg).2⟩) HBD.out
          rw [hlen] at this
          exact this
        have xS := fun o => row_cell PS.out.bx o
        clear o5 e5
        go_wp2_with fail
        refine Calls.mono HQS.out ?_
        rintro e w3 ⟨⟨bb, rfl, hbb⟩, hb3⟩
        have P3 : Hid (PsS w0 L w.heap.size S a c l j true (.slice a5 ts.length c5) ts w3) := PS.out.call (PS.out.rd.below hb3) (grown_below (grown_refl wx _) hb3)
        have B3 : Hid (Below w.heap.size w w3) := BX.out.trans (hb3.mono BX.out.size)
        have xR := fun o => row_cell P3.out.r o
        have fR := fun o => row_frozen P3.out.r o
        have yS := fun o => row_cell P3.out.bx o
        have hRL := P3.out.hR
        have hL0 := P3.out.hL
        have hS0 := P3.out.hS
        have HBB : Hid _ := hbb
        clear hb3 hbb HQS PS xL xS
        cases bb with
        | false =>
          have HE : Hid (PaR (l, 0) [] 1) := .inr ⟨rfl, .inr ⟨_, _, HMG.out, .inl ⟨(by rcases HBB.out with ⟨q, _⟩ | ⟨_, q⟩ <;> first | exact q | cases q), rfl, rfl⟩⟩⟩
          go_wp2_with fail
          refine bodyPost_ret (v := .tuple #[.agg #[.slice none 0 0], .int .i64 1]) (by simp [results, Tryz.results9, go_sem, xR]) rfl ⟨[], none, 0, 1, [], rfl, HE.out, .inl ⟨rfl, rfl⟩, List.nodup_nil, fun g hg => by simp at hg, ?_⟩
          repeat (refine Below.setCell ?_ (by simp) _)
          exact B3.out
        | true =>
          have HE : Hid (PaR (l, 0) (ts.map tyD) 0) := .inr ⟨rfl, .inr ⟨_, _, HMG.out, .inr ⟨(by rcases HBB.out with ⟨_, q⟩ | ⟨q, _⟩ <;> first | exact q | cases q), rfl, rfl⟩⟩⟩
          go_wp2_with fail
          refine bodyPost_ret (v := .tuple #[.agg #[.slice a5 ts.length c5], .int .i64 0]) (by simp [results, Tryz.results9, go_sem, xR]) rfl ⟨ts.map tyD, a5, c5, 0, tdBs (.slice a5 ts.length c5) ts, by rw [hlen], HE.out, ?_, tdBs_nodup P3.out.ts, fun g hg => ?_, ?_⟩
          · obtain ⟨a6, c6, e6, o6⟩ := td_own P3.out.ts
            simp only [Value.slice.injEq] at e6
            obtain ⟨rfl, _, _⟩ := e6
            refine o6.same fun g hg => ?_
            have := (tdBs_in P3.out.ts g hg).1
            exact heap_setCell_other _ _ _ _ (by show g ≠ w.heap.size; omega)
          · have := tdBs_in P3.out.ts g hg
            refine ⟨by omega, ?_⟩
            simpa using this.2
          · repeat (refine Below.setCell ?_ (by simp) _)
            exact B3.out
      case pos =>
        have hltI : (j : Int) < l.length := by omega
        have hdec : decide (j < l.length) = true := decide_eq_true hlt
        have HEF : Hid (eofB l j = false) := by rw [Hid]; unfold eofB; rw [decide_eq_false (by omega)]
        have HTK : Hid (TkOk l) := HLX.out.1
        have HQ1 : Hid _ := rs_is 1 ⟨#[116, 121, 112, 101]⟩ L c j a l true false wx PS.out.rd
        obtain ⟨b1, HB1⟩ : ∃ r, Hid (r = isB 1 ⟨#[116, 121, 112, 101]⟩ l j) := ⟨_, rfl⟩
        rw [← HB1.out] at HQ1
        go_wp2_with fail
        refine Calls.mono HQ1.out ?_
        rintro e w2x ⟨rfl, n2, hw2⟩
        obtain ⟨w2, hw2'⟩ : ∃ z, z = w2x := ⟨_, rfl⟩
        rw [← hw2'] at hw2 ⊢
        clear hw2'
        have P2 : Hid (PsS w0 L w.heap.size S a c l j true (.slice aV ts.length cV) ts w2) := by rw [Hid, hw2]; exact PS.out.call (PS.out.rd.drewN n2) (grown_drewN wx n2 _)
        clear hw2 HQ1 PS xL
        have x2 := fun o => row_cell P2.out.rd.cell o
        have f2 := fun o => row_frozen P2.out.rd.cell o
        go_upto_region 8 with fail
        obtain ⟨X2, hX2⟩ : ∃ X : World, X = w2.setCell ⟨L, 2, none⟩ (.bool b1) := ⟨_, rfl⟩
        rw [← hX2]
        have P3 : Hid (PsS w0 L w.heap.size S a c l j b1 (.slice aV ts.length cV) ts X2) := by rw [Hid, hX2]; exact P2.out.ok_ _
        clear hX2 x2 f2 P2
        have x3 := fun o => row_cell P3.out.rd.cell o
        have f3 := fun o => row_frozen P3.out.rd.cell o
        go_upto_region 9 with fail
        obtain ⟨X3, hX3⟩ : ∃ X : World, X = X2.setCell ⟨L, 1, none⟩ (.int .i64 ((j : Int) + 1)) := ⟨_, rfl⟩
        rw [← hX3]
        have P4 : Hid (PsS w0 L w.heap.size S a c l (j + 1) b1 (.slice aV ts.length cV) ts X3) := by rw [Hid, hX3, show (j : Int) + 1 = ((j + 1 : Nat) : Int) by omega]; exact P3.out.at_ _
        clear hX3 x3 f3 P3
        have HQ4 : Hid _ := rs_name L c (j + 1) a l b1 false X3 P4.out.rd (by omega)
        obtain ⟨b2, HB2⟩ : ∃ r, Hid (r = nmB l (j + 1)) := ⟨_, rfl⟩
        obtain ⟨nm, HNM⟩ : ∃ r, Hid (r = nmI l (j + 1)) := ⟨_, rfl⟩
        obtain ⟨p2, HP2⟩ : ∃ z, Hid (z = adv b2 (j + 1)) := ⟨_, rfl⟩
        rw [← HB2.out, ← HNM.out, ← HP2.out] at HQ4
        have lp2 : p2 ≤ l.length := by rw [HP2.out, HB2.out]; exact adv_nmB (by omega) (Nat.le_refl _)
        have gp2 : j + 1 ≤ p2 := by rw [HP2.out]; exact adv_ge _ _
        go_wp2_with fail
        refine Calls.mono HQ4.out ?_
        rintro e wt ⟨rfl, s4, g4⟩
        have P5 : Hid (PsS w0 L w.heap.size S a c l p2 (b2 && b1) (.slice aV ts.length cV) ts wt) := P4.out.call s4 g4
        clear s4 g4 HQ4 P4
        have zt0 := P5.out.gr.size
        have HNN : Hid (∀ i (hi : i < ts.length) g, blkF ts[i].2.1 ts[i].2.2 g → g < wt.heap.size) := fun t ht g hg => ((P5.out.ts.each t ht).blk hg).2
        go_upto_region 10 with fail
        obtain ⟨X4, hX4⟩ : ∃ X, X = (wt.alloc (.cells #[] 53)).alloc (.cells #[.string nm, .slice (some ⟨wt.heap.size, 0, none⟩) 0 0] 49) := ⟨_, rfl⟩
        rw [← hX4]
        have BX4 : Below wt.heap.size wt X4 := by rw [hX4]; exact ((Below.refl _ _).alloc (Nat.le_refl _) _).alloc (by simp) _
        have ce4 : X4.heap[wt.heap.size]? = some (.cells #[] 53 (0, 0)) := by rw [hX4, Below.heap_alloc _ _ _ (by simp)]; exact heap_alloc_new _ _
        have cx4 : X4.heap[wt.heap.size + 1]? = some (.cells #[.string nm, .slice (some ⟨wt.heap.size, 0, none⟩) 0 0] 49 (0, 0)) := by
          rw [hX4]
          have := heap_alloc_new (wt.alloc (.cells #[] 53)) (.cells #[.string nm, .slice (some ⟨wt.heap.size, 0, none⟩) 0 0] 49)
          simpa using this
        have T0 : Hid (TsS wt L (wt.heap.size + 1) a c l p2 (b2 && b1) nm (.slice (some ⟨wt.heap.size, 0, none⟩) ([] : List (G.Fd × Value)).length 0) [] X4) := by
          refine ⟨P5.out.rd.below BX4, cx4, grown_below (grown_refl _ _) BX4, ?_, by have := P5.out.hL; omega, by omega⟩
          exact ⟨⟨rfl, .inr ⟨wt.heap.size, 0, #[], rfl, Nat.le_refl _, ce4, Nat.le_refl _, Nat.zero_le _, rfl, by simp [fdVs]⟩⟩, fun i h => absurd h (by simp), fun i j h => absurd h (by simp)⟩
        obtain ⟨X, hX⟩ : ∃ z, z = wt.heap.size + 1 := ⟨_, rfl⟩
        obtain ⟨aY, haY⟩ : ∃ z : Option Addr, z = some ⟨wt.heap.size, 0, none⟩ := ⟨_, rfl⟩
        rw [← haY] at T0 ⊢
        rw [← hX] at T0 ⊢
        clear hX4 BX4 ce4 cx4 hX haY
        have HQ5 : Hid _ := rs_need ⟨#[123]⟩ L c p2 a l (b2 && b1) false X4 T0.out.rd (by omega)
        obtain ⟨b3, HB3⟩ : ∃ r, Hid (r = isB 4 ⟨#[123]⟩ l p2) := ⟨_, rfl⟩
        obtain ⟨p3, HP3⟩ : ∃ z, Hid (z = adv b3 p2) := ⟨_, rfl⟩
        rw [← HB3.out, ← HP3.out] at HQ5
        have lp3 : p3 ≤ l.length := by rw [HP3.out, HB3.out]; exact adv_isB lp2 (Nat.le_refl _)
        have gp3 : j + 1 ≤ p3 := by rw [HP3.out]; have := adv_ge b3 p2; omega
        have HTD : Hid _ := td_looks HTK.out HB1.out HB2.out (HP2.out ▸ HB3.out)
        obtain ⟨ok3, HO3⟩ : ∃ z, Hid (z = (b3 && (b2 && b1))) := ⟨_, rfl⟩
        rw [← HO3.out] at HQ5 HTD
        have HBADT : Hid (ok3 = false → TdR l j none) := HTD.out.1
        have HMB : Hid (ok3 = true → Many (rbrc l) (FdR l) p3 none → TdR l j none) := fun q hm => (HTD.out.2 q).2.1 (by have := (HTD.out.2 q).1; rw [HP3.out, HP2.out, this] at hm; exact hm)
        have HMG : Hid (ok3 = true → ∀ fs k, Many (rbrc l) (FdR l) p3 (some (fs, k)) → TdR l j (some (⟨nm, fs⟩, k))) := fun q fs k hm => by
          have := (HTD.out.2 q).2.2 fs k (by have := (HTD.out.2 q).1; rw [HP3.out, HP2.out, this] at hm; exact hm)
          rw [HNM.out]; exact this
        clear HTD HO3 HB1 HB2 HB3 HP2 HP3 HNM
        go_wp2_with fail
        refine Calls.mono HQ5.out ?_
        rintro e w5 ⟨rfl, s5, g5⟩
        have T1 : Hid (TsS wt L X a c l p3 ok3 nm (.slice aY ([] : List (G.Fd × Value)).length 0) [] w5) := T0.out.call s5 g5
        clear s5 g5 HQ5 T0
        go_wp2_with fail
        go_loopw [62] (fun _ w' => ∃ (ps : List (G.Fd × Value)) (av : Option Addr) (cv k : Nat) (ok : Bool), Hid (TsS wt L X a c l k ok nm (.slice av ps.length cv) ps w') ∧ k ≤ l.length + 1 ∧ Hid (ok = true → k ≤ l.length ∧ ps.length ≤ k ∧ j + 1 ≤ k ∧ ok3 = true ∧ ∀ r, Many (rbrc l) (FdR l) k r → Many (rbrc l) (FdR l) p3 (ahead (ps.map (·.1)) r)) ∧ Hid (ok = false → ok3 = false ∨ Many (rbrc l) (FdR l) p3 none)) (fun _ w' => rsM (l.length + 3) w' L)
        case atStart => exact ⟨[], aY, 0, p3, ok3, T1, by omega, fun q => ⟨lp3, Nat.zero_le _, gp3, q, fun r hr => by cases r with | none => exact hr | some p => exact hr⟩, fun q => .inl q⟩
        case round =>
          obtain ⟨wy, rfl⟩ : ∃ z, z = wr := ⟨_, rfl⟩
          obtain ⟨ps, av, cv, k, ok, TS, hkl, HOK, HBAD⟩ := hrel
          have xL := fun o => row_cell TS.out.rd.cell o
          cases ok with
          | false =>
            have HT : Hid (TdR l j none) := by
              cases ho : ok3 with
              | false => exact HBADT.out ho
              | true =>
                rcases HBAD.out rfl with q | q
                · rw [ho] at q; cases q
                · exact HMB.out ho q
            obtain ⟨wz, hwz⟩ : ∃ z, z = wy := ⟨_, rfl⟩
            have TZ : Hid (TsS wt L X a c l k false nm (.slice av ps.length cv) ps wz) := by rw [hwz]; exact TS
            rw [← hwz] at xL ⊢
            clear HOK HBAD TS hwz
            have PZ : Hid (PsS w0 L w.heap.size S a c l k false (.slice aV ts.length cV) ts wz) := P5.out.call TZ.out.rd TZ.out.gr
            obtain ⟨g8, cap8, W8, hrun, p8, hs8⟩ := PZ.out.push (nm := nm) TZ.out.fs zt0 HNN.out (by omega)
            have HRUN : Hid _ := hrun
            have P8 : Hid _ := p8
            have S8 : Hid _ := hs8
            have HP8 : Hid (rsM (l.length + 3) (W8.setCell ⟨S, 0, none⟩ (.slice (some ⟨g8, 0, none⟩) (ts.length + 1) cap8)) L = 0) := rsM_false P8.out.rd
            have yS := fun o => row_cell PZ.out.bx o
            have yX := fun o => row_cell TZ.out.bx o
            have yW := fun o => row_cell S8.out o
            have fW := fun o => row_frozen S8.out o
            have zL := fun o => row_cell TZ.out.rd.cell o
            clear hrun p8 hs8
            go_wp2_with (first | (at_builtin; refine wpList_append_runR rfl _ _ _ rfl _ _ _ _ rfl rfl HRUN.out ?_) | fail)
            exact ⟨⟨ts ++ [(nm, .slice av ps.length cv, ps)], some ⟨g8, 0, none⟩, cap8, k, false, P8, by omega, fun q => absurd q (by decide), fun _ => HMM.out _ (.bad HEF.out HT.out)⟩, by rw [HP8.out, HPO.out]; omega⟩
          | true =>
            obtain ⟨hk2, hpl, hjk, ho3, hmm⟩ := HOK.out rfl
            have HPI : Hid (rsM (l.length + 3) wy L = l.length + 3 - k) := rsM_true TS.out.rd
            have HO3 : Hid (ok3 = true) := ho3
            have HMI : Hid (∀ r, Many (rbrc l) (FdR l) k r → Many (rbrc l) (FdR l) p3 (ahead (ps.map (·.1)) r)) := hmm
            clear ho3 hmm HOK HBAD
            have HQ6 : Hid _ := rs_take ⟨#[125]⟩ L c k a l true false wy TS.out.rd (by omega)
            obtain ⟨r1, HR1⟩ : ∃ r, Hid (r = isB 4 ⟨#[125]⟩ l k) := ⟨_, rfl⟩
            rw [← HR1.out] at HQ6
            go_wp2_with fail
            refine Calls.mono HQ6.out ?_
            rintro e w6 ⟨rfl, s6, g6⟩
            have T6 : Hid _ := TS.out.call s6 g6
            clear s6 g6 HQ6 TS xL
            cases r1 with
            | true =>
              have hk1 : k + 1 ≤ l.length := isB_lt HR1.out.symm
              have HT : Hid (TdR l j (some (⟨nm, ps.map (·.1)⟩, k + 1))) := by
                have := HMI.out _ (.stop (by unfold rbrc; rw [← isB_tk HTK.out]; exact HR1.out.symm))
                simp only [ahead, List.append_nil] at this
                exact HMG.out HO3.out _ _ this
              obtain ⟨kn, hkn⟩ : ∃ z, z = k + 1 := ⟨_, rfl⟩
              have TZ : Hid (TsS wt L X a c l kn true nm (.slice av ps.length cv) ps w6) := by rw [Hid, hkn]; exact T6.out
              rw [← hkn] at HT hk1
              have hjk2 : j + 1 ≤ kn := by omega
              clear T6 HR1 HMI HPI hkn
              have PZ : Hid (PsS w0 L w.heap.size S a c l kn true (.slice aV ts.length cV) ts w6) := P5.out.call TZ.out.rd TZ.out.gr
              obtain ⟨g8, cap8, W8, hrun, p8, hs8⟩ := PZ.out.push (nm := nm) TZ.out.fs zt0 HNN.out (by omega)
              have HRUN : Hid _ := hrun
              have P8 : Hid _ := p8
              have S8 : Hid _ := hs8
              have HP8 : Hid (rsM (l.length + 3) (W8.setCell ⟨S, 0, none⟩ (.slice (some ⟨g8, 0, none⟩) (ts.length + 1) cap8)) L = l.length + 3 - kn) := rsM_true P8.out.rd
              have yS := fun o => row_cell PZ.out.bx o
              have yX := fun o => row_cell TZ.out.bx o
              have yW := fun o => row_cell S8.out o
              have fW := fun o => row_frozen S8.out o
              have zL := fun o => row_cell TZ.out.rd.cell o
              clear hrun p8 hs8
              go_wp2_with (first | (at_builtin; refine wpList_append_runR rfl _ _ _ rfl _ _ _ _ rfl rfl HRUN.out ?_) | fail)
              refine ⟨⟨ts ++ [(nm, .slice av ps.length cv, ps)], some ⟨g8, 0, none⟩, cap8, kn, true, P8, by omega, fun _ => ⟨by simp; omega, hk1, fun r hr => ?_⟩, fun q => absurd q (by decide)⟩, by rw [HP8.out, HPO.out]; omega⟩
              have := HMM.out _ (Many.step HEF.out HT.out hr)
              rw [ahead_ahead] at this
              simpa [tyD] using this
            | false =>
              have HRP : Hid (rbrc l k = false) := by rw [Hid]; unfold rbrc; rw [← isB_tk HTK.out]; exact HR1.out.symm
              have S6 : Hid (TsS wt L X a c l k true nm (.slice av ps.length cv) ps w6) := T6.out
              clear T6 HR1
              go_upto_region 12 with fail
              obtain ⟨wd, hwd⟩ : ∃ z : World, z = w6.drew := ⟨_, rfl⟩
              have SD : Hid (TsS wt L X a c l k true nm (.slice av ps.length cv) ps wd) := by rw [Hid, hwd]; exact S6.out.same
              have HWD : Hid (wd = w6.drew) := hwd
              have hwz := SD.out.gr.size
              have HNI : Hid (∀ t (ht : t < ps.length) g, ps[t].2.ownBlock = some g → g < wd.heap.size) := fun t ht g hg => (World.ownsRow.lt (SD.out.fs.each t ht) g hg).2
              clear hwd S6
              refine G.region_rel5 (n := 7) (k := 1) (by omega) (by kernel_rfl) (by kernel_rfl) (by kernel_rfl) (fun u => ⟨#[.string s, undef, .pointer (some ⟨w.heap.size, 0, none⟩), .int .i64 0, .slice a l.length c, .int .i64 0, .pointer (some ⟨L, 0, none⟩), .pointer (some ⟨S, 0, none⟩), .pointer (some ⟨X, 0, none⟩), .tuple #[.slice a l.length c, .int .i64 0], .string s, .tuple #[.slice a l.length c, .int .i64 0], .slice a l.length c, .int .i64 0, .int .i64 0, .bool false, undef, undef, .slice a l.length c, .agg #[.slice a l.length c, .int .i64 0, .bool true, .bool false], .pointer (some ⟨L, 0, none⟩), .slice aZ 0 0, .agg #[.slice aZ 0 0], .pointer (some ⟨L, 0, none⟩), .pointer (some ⟨L, 0, none⟩), .pointer (some ⟨L, 2, none⟩), .bool true, .bool true, .pointer (some ⟨L, 0, none⟩), .pointer (some ⟨L, 0, none⟩), .pointer (some ⟨L, 1, none⟩), .int .i64 j, .slice a l.length c, .int .i64 l.length, .bool true, .bool true, .pointer (some ⟨L, 0, none⟩), .pointer (some ⟨L, 0, none⟩), .bool b1, .pointer (some ⟨L, 0, none⟩), .pointer (some ⟨L, 2, none⟩), .pointer (some ⟨L, 0, none⟩), .pointer (some ⟨L, 0, none⟩), .pointer (some ⟨L, 1, none⟩), .int .i64 j, .int .i64 (j + 1), .pointer (some ⟨L, 0, none⟩), .pointer (some ⟨L, 1, none⟩), .pointer (some ⟨L, 0, none⟩), .string nm, .slice aY 0 0, .agg #[.string nm, .slice aY 0 0], .pointer (some ⟨L, 0, none⟩), .tuple #[], .pointer (some ⟨L, 0, none⟩), .pointer (some ⟨L, 0, none⟩), .pointer (some ⟨L, 2, none⟩), .bool true, .bool true, .pointer (some ⟨L, 0, none⟩), .bool false, .bool true, .bool true, u 63, u 64, u 65, u 66, u 67, u 68, u 69, u70, u71, u72, u73, u74, u75, undef, undef, undef, undef, undef, undef, undef, undef, undef, undef, undef], []⟩) (fun nz => match nz with | 63 => u63 | 64 => u64 | 65 => u65 | 66 => u66 | 67 => u67 | 68 => u68 | 69 => u69 | _ => undef) (fun iz => iz + 63) (fun iz jz _ _ h => by omega)
                (fun iz y _ => match iz with | 0 => y = .pointer (some ⟨X, 1, none⟩) | 1 => y = .slice av ps.length cv | 2 => y = .pointer (some ⟨L, 0, none⟩) | 6 => y = .pointer (some ⟨X, 1, none⟩) | _ => True) (fun D u W => TsJ wt wd L X a c l k nm (.slice av ps.length cv) ps D u W) (.inl ⟨by simp, by simp, by simp, HWD.out.symm⟩) ?step ?last
              case step =>
                intro D u W iq hi hLs hLi hj hdep
                have HJ : Hid (TsJ wt wd L X a c l k nm (.slice av ps.length cv) ps D u W) := hj
                have HLI : Hid _ := hLi
                have xA := fun o => row_cell (hj.box SD.out.bx) o
                have hcase : iq = 0 ∨ iq = 1 ∨ iq = 2 ∨ iq = 3 ∨ iq = 4 ∨ iq = 5 ∨ iq = 6 := by omega
                clear hj hLi hi hLs
                rcases hcase with rfl | rfl | rfl | rfl | rfl | rfl | rfl
                · clear hdep
                  refine wpOp_step rfl (fun K hK => ?_)
                  go_simp
                  exact hK _ _ ⟨.pointer (some ⟨X, 1, none⟩), by simp [G.upd], fun _ _ h => h, rfl, HJ.out.other (by decide) (by decide) (by decide) (by decide) (by decide) (by decide)⟩
                · have d0 : u 63 = .pointer (some ⟨X, 1, none⟩) := (hdep _ rfl ⟨0, .data⟩ (by simp) rfl).2
                  clear hdep
                  refine wpOp_step rfl (fun K hK => ?_)
                  go_simp
                  exact hK _ _ ⟨.slice av ps.length cv, by simp [G.upd, d0], fun _ _ h => h, rfl, HJ.out.other (by decide) (by decide) (by decide) (by decide) (by decide) (by decide)⟩
                · clear hdep
                  refine wpOp_step rfl (fun K hK => ?_)
                  go_simp
                  exact hK _ _ ⟨.pointer (some ⟨L, 0, none⟩), by simp [G.upd], fun _ _ h => h, rfl, HJ.out.other (by decide) (by decide) (by decide) (by decide) (by decide) (by decide)⟩
                · have d2 : u 65 = .pointer (some ⟨L, 0, none⟩) := (hdep _ rfl ⟨2, .data⟩ (by simp) rfl).2
                  obtain ⟨b4, b5, hW⟩ : D.getD 4 false = false ∧ D.getD 5 false = false ∧ W = wd := by
                    have h3 := getD_notT HLI.out
                    rcases HJ.out with ⟨_, h4, h5, e⟩ | ⟨h, _⟩ | ⟨h, _⟩ | ⟨h, _⟩
                    · exact ⟨h4, h5, e⟩
                    all_goals rw [h3] at h; cases h
                  clear hdep HJ xA
                  replace hW := hW.symm
                  subst hW
                  have HQF : Hid _ := ss_field false L c k a l wd SD.out.rd hk2 (by omega) HTK.out
                  refine wpOp_step rfl (fun K hK => ?_)
                  go_simp
                  refine Calls.mono HQF.out ?_
                  rintro e w4 ⟨x, q, okx, avx, rfl, ox, sx, g4, hq, ht, hf⟩
                  obtain ⟨aA, cA, rfl⟩ := own_formT ox
                  refine hK _ _ ⟨.agg (fdC x aA cA), by simp [G.upd, d2, fdV, fdC], fun _ _ h => h, trivial, .inr (.inl ⟨getD_putT HLI.out, ?_, ?_, x, q, okx, aA, cA, ⟨SD.out.call sx g4, ⟨hq, ht, hf⟩, ox⟩, by rw [G.upd_at]⟩)⟩
                  · rw [getD_set_ne false (by decide)]; exact b4
                  · rw [getD_set_ne false (by decide)]; exact b5
                · have l3 := (hdep _ rfl ⟨3, .data⟩ (by simp) rfl).1
                  obtain ⟨b5, x, q, okx, aA, cA, hgot, d3⟩ : D.getD 5 false = false ∧ ∃ x q okx aA cA, GotS wt wd L X a c l k nm (.slice av ps.length cv) ps x q okx aA cA W ∧ u 66 = .agg (fdC x aA cA) := by
                    have h4 := getD_notT HLI.out
                    rcases HJ.out with ⟨h, _⟩ | ⟨_, _, h5, e⟩ | ⟨_, h, _⟩ | ⟨_, h, _⟩
                    · rw [l3] at h; cases h
                    · exact ⟨h5, e⟩
                    all_goals rw [h4] at h; cases h
                  have HGOT : Hid _ := hgot
                  clear hdep HJ xA hgot
                  refine wpOp_step rfl (fun K hK => ?_)
                  go_simp
                  refine hK _ _ ⟨.slice (some ⟨W.heap.size, 0, none⟩) 1 1, by simp [G.upd, d3], fun _ _ h => h, trivial, .inr (.inr (.inl ⟨?_, getD_putT HLI.out, ?_, x, q, okx, aA, cA, W, HGOT.out, rfl, by rw [G.upd_at]⟩))⟩
                  · rw [getD_set_ne false (by decide)]; exact l3
                  · rw [getD_set_ne false (by decide)]; exact b5
                · have l4 := (hdep _ rfl ⟨4, .data⟩ (by simp) rfl).1
                  have d1 : u 64 = .slice av ps.length cv := (hdep _ rfl ⟨1, .data⟩ (by simp) rfl).2
                  obtain ⟨l3, x, q, okx, aA, cA, W3, hgot, hW, d4⟩ : D.getD 3 false = true ∧ ∃ x q okx aA cA W3, GotS wt wd L X a c l k nm (.slice av ps.length cv) ps x q okx aA cA W3 ∧ W = W3.alloc (.cells (fdC x aA cA) 53) ∧ u 67 = .slice (some ⟨W3.heap.size, 0, none⟩) 1 1 := by
                    have h5 := getD_notT HLI.out
                    rcases HJ.out with ⟨_, h, _⟩ | ⟨_, h, _⟩ | ⟨h3, _, _, e⟩ | ⟨_, _, h, _⟩
                    · rw [l4] at h; cases h
                    · rw [l4] at h; cases h
                    · exact ⟨h3, e⟩
                    · rw [h5] at h; cases h
                  obtain ⟨g8, cap8, W8, hrun, hput⟩ := hgot.put hwz HNI.out (by omega)
                  clear hdep HJ xA
                  subst hW
                  refine wpOp_step rfl (fun K hK => ?_)
                  refine wp_append_runT (.tmp 64) (.tmp 67) _ rfl _ _ _ _ d1 d4 hrun ?_
                  refine hK _ _ ⟨.slice (some ⟨g8, 0, none⟩) (ps.length + 1) cap8, by simp [Act.put, G.upd, d1, d4], fun _ _ h => h, trivial, .inr (.inr (.inr ⟨?_, ?_, getD_putT HLI.out, x, q, okx, aA, cA, g8, cap8, hput, by rw [G.upd_at]⟩))⟩
                  · rw [getD_set_ne false (by decide)]; exact l3
                  · rw [getD_set_ne false (by decide)]; exact l4
                · clear hdep
                  refine wpOp_step rfl (fun K hK => ?_)
                  go_simp
                  exact hK _ _ ⟨.pointer (some ⟨X, 1, none⟩), by simp [G.upd], fun _ _ h => h, rfl, HJ.out.other (by decide) (by decide) (by decide) (by decide) (by decide) (by decide)⟩
              case last =>
                intro D u W hLs hD hj hp
                obtain ⟨x, q, okx, aA, cA, g8, cap8, hput, d5⟩ : ∃ x q okx aA cA g8 cap8, PutS wt L X a c l k nm (.slice av ps.length cv) ps x q okx aA cA g8 cap8 W ∧ u 68 = .slice (some ⟨g8, 0, none⟩) (ps.length + 1) cap8 := by
                  rcases hj with ⟨h, _⟩ | ⟨_, h, _⟩ | ⟨_, _, h, _⟩ | ⟨_, _, _, e⟩
                  · rw [hD 3 (by omega)] at h; cases h
                  · rw [hD 4 (by omega)] at h; cases h
                  · rw [hD 5 (by omega)] at h; cases h
                  · exact e
                have d6 : u 69 = .pointer (some ⟨X, 1, none⟩) := hp 6 (by omega)
                have HPUT : Hid _ := hput
                have hq1 := hput.fd.1
                have hlen : (ps ++ [(x, Value.slice aA x.args.length cA)]).length = ps.length + 1 := by simp
                have SN : Hid (TsS wt L X a c l q okx nm (.slice (some ⟨g8, 0, none⟩) (ps ++ [(x, Value.slice aA x.args.length cA)]).length cap8) (ps ++ [(x, .slice aA x.args.length cA)]) (W.setCell ⟨X, 1, none⟩ (.slice (some ⟨g8, 0, none⟩) (ps.length + 1) cap8))) := by
                  have h1 := SD.out.hL
                  have h2 := SD.out.hX
                  refine ⟨hput.rd.keep fun g hg => heap_setCell_other _ _ _ _ (by show g ≠ X; omega), ?_, grown_new hput.gr h2 _, ?_, h1, h2⟩
                  · have := row_set hput.bx 1 (.slice (some ⟨g8, 0, none⟩) (ps.length + 1) cap8)
                    rw [hlen]
                    simpa using this
                  · have hf := hput.fs
                    rw [hlen]
                    refine ⟨own_keepT hf.own fun g hg => ?_, fun t ht => own_keepT (hf.each t ht) fun g hg => ?_, hf.apart⟩
                    · refine heap_setCell_other _ _ _ _ ?_
                      show g ≠ X
                      rintro rfl
                      rcases hf.own.2 with ⟨e1, _⟩ | ⟨g1, c1, u1, e1, _, q1, _⟩
                      · rw [e1] at hg; simp [Value.ownBlock] at hg
                      · rw [e1] at hg
                        simp only [Value.ownBlock, Option.some.injEq] at hg
                        rw [hg, hput.bx] at q1
                        simp at q1
                    · refine heap_setCell_other _ _ _ _ ?_
                      show g ≠ X
                      rintro rfl
                      rcases (hf.each t ht).2 with ⟨e1, _⟩ | ⟨g1, c1, u1, e1, _, q1, _⟩
                      · rw [e1] at hg; simp [Value.ownBlock] at hg
                      · rw [e1] at hg
                        simp only [Value.ownBlock, Option.some.injEq] at hg
                        rw [hg, hput.bx] at q1
                        simp at q1
                have HPN : Hid (rsM (l.length + 3) (W.setCell ⟨X, 1, none⟩ (.slice (some ⟨g8, 0, none⟩) (ps.length + 1) cap8)) L < l.length + 3 - k) := by
                  cases okx with
                  | false => rw [Hid, rsM_false SN.out.rd]; omega
                  | true =>
                    have := fdR_up (HPUT.out.fd.2.1 rfl).2
                    rw [Hid, rsM_true SN.out.rd]; omega
                have HM2 : Hid (okx = true → q ≤ l.length ∧ (ps ++ [(x, Value.slice aA x.args.length cA)]).length ≤ q ∧ j + 1 ≤ q ∧ ok3 = true ∧ ∀ r, Many (rbrc l) (FdR l) q r → Many (rbrc l) (FdR l) p3 (ahead ((ps ++ [(x, Value.slice aA x.args.length cA)]).map (·.1)) r)) := fun qq => by
                  obtain ⟨h1, h2⟩ := HPUT.out.fd.2.1 qq
                  have h3 := fdR_up h2
                  refine ⟨h1, by rw [hlen]; omega, by omega, HO3.out, fun r hr => ?_⟩
                  have := HMI.out _ (Many.step HRP.out h2 hr)
                  rw [ahead_ahead] at this
                  simpa using this
                have HM3 : Hid (okx = false → ok3 = false ∨ Many (rbrc l) (FdR l) p3 none) := fun qq => .inr (HMI.out _ (.bad HRP.out (HPUT.out.fd.2.2 qq)))
                have yA := fun o => row_cell hput.bx o
                have fA := fun o => row_frozen hput.bx o
                clear hp hj hD hput SD
                unfold G.wpTail
                refine wpOp_step rfl (fun K hK => ?_)
                go_simp
                refine hK _ _ ?_
                clear hK
                unfold G.wpTail
                go_wp2_with fail
                exact ⟨⟨ps ++ [(x, .slice aA x.args.length cA)], some ⟨g8, 0, none⟩, cap8, q, okx, SN, hq1, HM2, HM3⟩, by rw [HPI.out]; exact HPN.out⟩
end Go.Proofs.YtnfoinmccigdfaaGreatDoor
