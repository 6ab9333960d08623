/- The draws: a chance, a size, a source, a write, some writes. -/
import Derived.Test.YtoahbfledamnnaaStWrJ
import Derived.BigQuiet
import Derived.Deep.QuietTactic
import Derived.BigRegion
namespace Go.Proofs.Ytoahbfledamnnaa.G
open Go.ChangeShapes Go.WideShapes Go.ChangeAt Go.RowKit
set_option linter.unusedVariables false

set_option maxHeartbeats 8000000 in
set_option maxRecDepth 40000 in
theorem spec_l06Write (a pa : Option Addr) (c pc : Nat) (l : Chs) (ps : List Ve) (now : Int) (w : World) (hr : ChRow 0 w.heap.size w a l) (hp : VeRow 0 w.heap.size w pa ps) (hbd : ChsBd 1000000 l) (hps : 0 < ps.length) (hpl : ps.length ≤ 4096) (h16 : l.length = 16) (hkey : ∀ i (h : i < ps.length), 0 ≤ ps[i].ts ∧ ps[i].ts < 16) (hn : 0 ≤ now ∧ now ≤ 1000000) :
    Calls Try.prog 46 #[.agg #[.slice a l.length c, .int .i64 now], .slice pa ps.length pc] w fun e w' => ∃ v, e = .returned (.agg #[v, .int .i64 (now + 1)]) ∧ OwnK w.heap.size w' v (wrAll (now + 1) l ps) ∧ Below w.heap.size w w' := by
  obtain ⟨w2, hw2⟩ : ∃ w2 : World, w2 = (w.alloc (.cells #[.slice a l.length c, .int .i64 now] 25)).alloc (.cells #[.slice none 0 0, .int .i64 0] 25) := ⟨_, rfl⟩
  have z2 : w2.heap.size = w.heap.size + 2 := by rw [hw2]; simp
  have B2 : Hid (Below w.heap.size w w2) := by
    rw [hw2]
    repeat (first | exact Below.refl _ _ | refine Below.alloc ?_ (by first | omega | (simp <;> omega)) _)
  have c0 : w2.heap[w.heap.size]? = some (.cells #[.slice a l.length c, .int .i64 now] 25 (0, 0)) := by
    rw [hw2, Below.heap_alloc _ _ _ (by simp <;> omega)]; exact heap_alloc_new _ _
  have c1 : w2.heap[w.heap.size + 1]? = some (.cells #[.slice none 0 0, .int .i64 0] 25 (0, 0)) := by
    have := heap_alloc_new (w.alloc (.cells #[.slice a l.length c, .int .i64 now] 25)) (.cells #[.slice none 0 0, .int .i64 0] 25)
    rw [hw2]; simpa using this
  have C1 : Hid _ := c1
  have C0 : Hid _ := c0
  have HR : Hid (ChRow 0 w2.heap.size w2 a l) := ChRow.up hr B2.out
  have HP : Hid (VeRow 0 w.heap.size w pa ps) := hp
  have HT : Hid (ChsBd 1000000 l) := hbd
  have HK : Hid _ := hkey
  have H16 : Hid _ := h16
  clear hr hbd hp hkey h16 c1
  have hps' : ¬ ((ps.length : Int) = 0) := by omega
  have x0 := fun o => row_cell c0 o
  clear c0
  go_enter Try.func46, Try.ntmps46
  go_upto_block 1 with fail
  rw [← hw2]
  go_wp2_with fail
  refine (spec_l06Own a c l now _ HR.out ⟨by have := HT.out.1; omega, fun x hx => by have := HT.out.2 x hx; omega⟩).mono ?_
  rintro e w3 ⟨v, rfl, hown, hb3⟩
  have z3 := hb3.size
  obtain ⟨g, cap, cur, rfl, q1, q2, q3, q4⟩ := hown.cells (by rw [H16.out]; omega)
  have c3 : w3.heap[w.heap.size]? = some (.cells #[.slice a l.length c, .int .i64 now] 25 (0, 0)) := (hb3.block _ (by omega)).trans C0.out
  have d3 : w3.heap[w.heap.size + 1]? = some (.cells #[.slice none 0 0, .int .i64 0] 25 (0, 0)) := (hb3.block _ (by omega)).trans C1.out
  have x3 := fun o => row_cell c3 o
  have y3 := fun o => row_frozen c3 o
  have HO : Hid _ := hown
  have C3 : Hid _ := c3
  have D3 : Hid _ := d3
  have B3 : Hid (Below w.heap.size w w3) := B2.out.trans (hb3.mono (by omega))
  clear hown c3 d3 hb3 q2 q4 x0
  go_wp2_with fail
  obtain ⟨V, hV⟩ : ∃ V : World, V = ((w3.setCell ⟨w.heap.size, 0, none⟩ (.slice (some ⟨g, 0, none⟩) l.length cap)).setCell ⟨w.heap.size, 1, none⟩ (.int .i64 now)).setCell ⟨w.heap.size, 1, none⟩ (.int .i64 (now + 1)) := ⟨_, rfl⟩
  have zV : V.heap.size = w3.heap.size := by rw [hV]; simp
  have cV : V.heap[w.heap.size]? = some (.cells #[.slice (some ⟨g, 0, none⟩) l.length cap, .int .i64 (now + 1)] 25 (0, 0)) := by
    have h1 := row_set C3.out 0 (.slice (some ⟨g, 0, none⟩) l.length cap)
    have h2 := row_set h1 1 (.int .i64 now)
    have h3 := row_set h2 1 (.int .i64 (now + 1))
    rw [hV]; simpa using h3
  have oV : ∀ k, k ≠ w.heap.size → V.heap[k]? = w3.heap[k]? := fun k hk => by rw [hV, heap_set _ _ _ _ _ hk, heap_set _ _ _ _ _ hk, heap_set _ _ _ _ _ hk]
  have dV := (oV (w.heap.size + 1) (by omega)).trans D3.out
  have bV : Below w.heap.size w V := by
    rw [hV]
    repeat (refine Below.setCell ?_ (by first | omega | (simp <;> omega)) _)
    exact B3.out
  have kV : OwnK (w.heap.size + 2) V (.slice (some ⟨g, 0, none⟩) l.length cap) l := by
    have := HO.out
    rw [z2] at this
    exact OwnK.move this (by omega) (fun k hk => oV k (by omega))
  rw [← hV]
  have CV : Hid _ := cV
  have DV : Hid _ := dV
  have BV : Hid _ := bV
  have KV : Hid _ := kV
  have hg2 : w.heap.size + 2 ≤ g := by omega
  clear cV dV bV kV oV hV HO C3 D3 B3 x3 y3 C1 C0 HR B2 hw2
  go_loopw [5] (fun i w' => ∃ (k : Nat), k ≤ ps.length ∧ i = .int .i64 k ∧ Hid (w'.heap[w.heap.size]? = some (.cells #[.slice (some ⟨g, 0, none⟩) l.length cap, .int .i64 (now + 1)] 25 (0, 0))) ∧ Hid (w'.heap[w.heap.size + 1]? = some (.cells #[.slice none 0 0, .int .i64 0] 25 (0, 0))) ∧ Hid (Below w.heap.size w w') ∧ Hid (OwnK (w.heap.size + 2) w' (.slice (some ⟨g, 0, none⟩) l.length cap) (wrAll (now + 1) l (ps.take k)))) (fun i _ => ps.length - (intOf i).toNat)
  case atStart => exact ⟨0, by omega, rfl, CV, DV, BV, KV⟩
  case round =>
    obtain ⟨wo, rfl⟩ : ∃ x, x = wr := ⟨_, rfl⟩
    obtain ⟨k, hk, rfl, E0, E1, Q, HK2⟩ := hrel
    have e0 := E0.out
    have e1 := E1.out
    have x0 := fun o => row_cell e0 o
    have zo := (Array.getElem?_eq_some_iff.1 e1).1
    clear e0 e1
    by_cases hlt : k < ps.length
    case neg =>
      obtain rfl : k = ps.length := by omega
      have e1 := E1.out
      have x1 := fun o => row_cell e1 o
      have y1 := fun o => row_frozen e1 o
      have HE : Hid (OwnK (w.heap.size + 2) wo (.slice (some ⟨g, 0, none⟩) l.length cap) (wrAll (now + 1) l ps)) := by have := HK2.out; rw [List.take_length] at this; exact this
      have hlt' : ¬ (ps.length : Int) < ps.length := by omega
      clear e1
      go_wp2_with fail
      refine bodyPost_ret (v := .agg #[.slice (some ⟨g, 0, none⟩) l.length cap, .int .i64 (now + 1)]) (by simp [results, Try.results46, go_sem, x1]) rfl ⟨_, rfl, ?_, ?_⟩
      · have := OwnK.move HE.out (w' := (wo.setCell ⟨w.heap.size + 1, 0, none⟩ (.slice (some ⟨g, 0, none⟩) l.length cap)).setCell ⟨w.heap.size + 1, 1, none⟩ (.int .i64 (now + 1))) (by simp) (fun k hk => by rw [heap_set _ _ _ _ _ (by omega), heap_set _ _ _ _ _ (by omega)])
        obtain ⟨vs, h1, h2⟩ := this
        exact ⟨vs, own_low h1 (by omega), h2.low (by omega)⟩
      · repeat (refine Below.setCell ?_ (by first | omega | (simp <;> omega)) _)
        exact Q.out
    obtain ⟨pb, po, hpa, _, hpb, p0, p1⟩ := VeRow.cells (VeRow.keep HP.out (agree Q.out (Nat.le_refl _))) k hlt
    obtain ⟨q, hq⟩ : ∃ q : Nat, ps[k].ts = q := ⟨ps[k].ts.toNat, by have := HK.out k hlt; omega⟩
    have hq16 : q < 16 := by have := HK.out k hlt; omega
    obtain ⟨hn', hlo, hcap, hcm, cur', e2, hcs, hkid⟩ := OwnK.row_ HK2.out
    have hlen : l.length = 16 := H16.out
    have hql : q < (wrAll (now + 1) l (ps.take k)).length := by omega
    obtain ⟨u, hu, hku⟩ := hkid q _ (List.getElem?_eq_getElem hql)
    obtain ⟨X, hX⟩ : ∃ X, X = (wrAll (now + 1) l (ps.take k))[q] := ⟨_, rfl⟩
    rw [← hX] at hku
    have HU : Hid _ := hku
    obtain ⟨a3, c3, hue, _, _⟩ := hku
    subst hue
    obtain ⟨_, hxc, r3⟩ := KidX.veRow HU.out
    have hXl : X.length ≤ 1004096 := by
      have := wrAll_bd (t := now + 1) (ps.take k) HT.out.2 X (by rw [hX]; exact List.getElem_mem _)
      rw [List.length_take] at this
      omega
    have R3 : Hid _ := r3
    have HX : Hid (X = chAt (wrAll (now + 1) l (ps.take k)) q) := by rw [Hid, hX]; simp [chAt, hql]
    have HKID : Hid _ := hkid
    have E2 : Hid _ := e2
    have xg := fun o => row_cell e2 o
    rw [hq] at p0
    have P0 : Hid _ := p0
    have P1 : Hid _ := p1
    have hg3 := xg q
    rw [hu] at hg3
    have G3 : Hid _ := hg3
    have hlt' : (k : Int) < ps.length := by omega
    have hq' : (q : Int) < l.length := by omega
    subst hpa
    have HN' : Hid _ := hn'
    have HCP : Hid _ := hcap
    have HQL : Hid _ := hql
    clear r3 hX hkid e2 xg p1 hu hn' hlen hcap hql
    go_upto_block 2 with fail
    go_quiet (fail)
    obtain ⟨wu, hwu⟩ : ∃ x, x = wo.drewN nq := ⟨_, rfl⟩
    rw [← hwu]
    have HH : Hid (wu.heap = wo.heap) := by rw [Hid, hwu]; rfl
    have BU : Hid (Below wo.heap.size wo wu) := by rw [hwu]; exact below_drewN (Below.refl _ _) _
    clear hwu x0 p0 hg3
    go_upto_region 9 with fail
    go_cut [46] from 32 to 45 (fun c wx => c = .bool (decide (0 < X.length ∧ tsAt X (X.length - 1) = now + 1)) ∧ Hid (wx.heap = wo.heap) ∧ Hid (Below wo.heap.size wo wx))
    case first =>
      have x5 := fun o => row_cell (show wu.heap[w.heap.size]? = _ by rw [HH.out]; exact E0.out) o
      by_cases h0 : 0 < X.length
      · obtain ⟨n, hn1⟩ : ∃ n, n = X.length - 1 := ⟨_, rfl⟩
        have hnl : n < X.length := by omega
        obtain ⟨b2, o2, ha2, _, hbl2, f0, f1⟩ := VeRow.cells (VeRow.keep R3.out (agree BU.out (Nat.le_refl _))) n hnl
        subst ha2
        have h0' : (0 : Int) < X.length := by omega
        have e1 : (X.length : Int) - 1 = n := by omega
        have e2 : (n : Int) < X.length := by omega
        have TN : Hid (tsAt X (X.length - 1) = X[n].ts) := by rw [Hid, ← hn1, tsAt_eq hnl]
        have H0 : Hid _ := h0
        have hd : decide (0 < X.length) = true := decide_eq_true h0
        clear h0 hn1
        go_quiet (fail)
        go_wp2_with fail
        go_meet
        exact ⟨congrArg Value.bool (by rw [Bool.eq_iff_iff]; simp [TN.out, H0.out]), by rw [Hid]; exact HH.out, below_drewN BU.out _⟩
      · have H0 : Hid _ := h0
        have hd : decide (0 < X.length) = false := decide_eq_false h0
        clear h0
        go_quiet (fail)
        go_wp2_with fail
        go_meet
        exact ⟨congrArg Value.bool (decide_eq_false (fun h => H0.out h.1)).symm, by rw [Hid]; exact HH.out, below_drewN BU.out _⟩
    obtain ⟨hc46, HH2, BC⟩ := hcut
    obtain ⟨B, hB⟩ : ∃ B : Bool, B = decide (0 < X.length ∧ tsAt X (X.length - 1) = now + 1) := ⟨_, rfl⟩
    rw [← hB] at hc46
    subst hc46
    have HB : Hid _ := hB
    clear hB
    obtain ⟨ww, rfl⟩ : ∃ x, x = wc := ⟨_, rfl⟩
    have RW : Hid (VeRow 0 wo.heap.size ww a3 X) := VeRow.keep R3.out (agree BC.out (Nat.le_refl _))
    go_upto_if 46 with fail
    go_cut [6] from 47 to 51 (fun y wx => wx = ww ∧ ∃ a5 c5, y = .slice a5 (cutC (now + 1) X).length c5 ∧ Hid (VeRow 0 wo.heap.size ww a5 (cutC (now + 1) X)))
    case first =>
      cases B
      rotate_left
      · have hc : 0 < X.length ∧ tsAt X (X.length - 1) = now + 1 := of_decide_eq_true HB.out.symm
        obtain ⟨n, hn1⟩ : ∃ n, n = X.length - 1 := ⟨_, rfl⟩
        have e1 : (X.length : Int) - 1 = n := by omega
        have e3 : (n : Int) ≤ c3 := by omega
        have HV : Hid (VeRow 0 wo.heap.size ww a3 (cutC (now + 1) X)) := by rw [Hid, cutC, if_pos hc]; exact RW.out.take _
        have HLc : Hid ((cutC (now + 1) X).length = n) := by rw [Hid, cutC, if_pos hc]; simp; omega
        clear hc hn1
        go_wp2_with fail
        go_meet
        exact ⟨rfl, a3, c3, by rw [HLc.out], HV⟩
      · have hc : ¬ (0 < X.length ∧ tsAt X (X.length - 1) = now + 1) := of_decide_eq_false HB.out.symm
        have HV : Hid (VeRow 0 wo.heap.size ww a3 (cutC (now + 1) X)) := by rw [Hid, cutC, if_neg hc]; exact RW.out
        have HLc : Hid ((cutC (now + 1) X).length = X.length) := by rw [Hid, cutC, if_neg hc]
        clear hc
        go_wp2_with fail
        go_meet
        exact ⟨rfl, a3, c3, by rw [HLc.out], HV⟩
    obtain ⟨rfl, a5, c5, rfl, R5⟩ := hcut
    obtain ⟨Y, hY⟩ : ∃ Y, Y = cutC (now + 1) X := ⟨_, rfl⟩
    have hYl : Y.length ≤ 1004096 := by have := cutC_len (now + 1) X; rw [hY]; omega
    rw [← hY] at R5 ⊢
    have HY : Hid _ := hY
    clear hY
    go_wp2_with fail
    have hzc : wc.heap.size = wo.heap.size := by rw [HH2.out]
    refine region_rel5 (n := 21) (k := 1) (by omega) (by kernel_rfl) (by kernel_rfl) (by kernel_rfl) (fun u => ⟨#[.agg #[.slice a l.length c, .int .i64 now], .slice (some ⟨pb, po, none⟩) ps.length pc, .pointer (some ⟨w.heap.size, 0, none⟩), undef, .pointer (some ⟨w.heap.size + 1, 0, none⟩), .int .i64 k, .slice a5 Y.length c5, .slice (some ⟨pb, po, none⟩) ps.length pc, .int .i64 ps.length, .bool false, undef, .agg #[.slice a l.length c, .int .i64 now], .agg #[.slice (some ⟨g, 0, none⟩) l.length cap, .int .i64 now], .pointer (some ⟨w.heap.size, 1, none⟩), .int .i64 now, .int .i64 (now + 1), .pointer (some ⟨w.heap.size, 1, none⟩), .int .i64 k, .slice (some ⟨pb, po, none⟩) ps.length pc, .int .i64 ps.length, .bool true, u21, u22, .pointer (some ⟨w.heap.size, 0, none⟩), .slice (some ⟨g, 0, none⟩) l.length cap, .slice (some ⟨pb, po, none⟩) ps.length pc, .int .i64 k, .pointer (some ⟨pb, po + k * 2, none⟩), .pointer (some ⟨pb, po + k * 2, none⟩), .int .i64 q, .pointer (some ⟨g, q, none⟩), .slice a3 X.length c3, u32, u33, u34, u35, u36, u37, u38, u39, u40, u41, u42, u43, u44, u45, .bool B, u47, u48, u49, u50, u51, u 52, u 53, u 54, u 55, u 56, u 57, u 58, u 59, u 60, u 61, u 62, u 63, u 64, u 65, u 66, u 67, u 68, u 69, u 70, u 71, u 72, undef], []⟩) (fun n => match n with | 52 => u52 | 53 => u53 | 54 => u54 | 55 => u55 | 56 => u56 | 57 => u57 | 58 => u58 | 59 => u59 | 60 => u60 | 61 => u61 | 62 => u62 | 63 => u63 | 64 => u64 | 65 => u65 | 66 => u66 | 67 => u67 | 68 => u68 | 69 => u69 | 70 => u70 | 71 => u71 | 72 => u72 | _ => undef) (fun i => 52 + i) (fun i j _ _ h => by omega)
      (WrPv w.heap.size g cap l.length (.slice (some ⟨pb, po, none⟩) ps.length pc) k pb po q (.slice a5 Y.length c5) (now + 1) ps[k].v) (WrJ wc.heap.size wc Y ⟨now + 1, ps[k].v⟩) (WrJ.start rfl) ?step ?last
    case step =>
      intro L u W i hi hLs hLi hj hdep
      have hNW := hj.below.size
      have oldb : ∀ g, g < wo.heap.size → W.heap[g]? = wo.heap[g]? := fun g hg => (hj.below.block g (by omega)).trans (by rw [HH2.out])
      have hcase : i = 0 ∨ i = 1 ∨ i = 2 ∨ i = 3 ∨ i = 4 ∨ i = 5 ∨ i = 6 ∨ i = 7 ∨ i = 8 ∨ i = 9 ∨ i = 10 ∨ i = 11 ∨ i = 12 ∨ i = 13 ∨ i = 14 ∨ i = 15 ∨ i = 16 ∨ i = 17 ∨ i = 18 ∨ i = 19 ∨ i = 20 := by omega
      rcases hcase with rfl | rfl | rfl | rfl | rfl | rfl | rfl | rfl | rfl | rfl | rfl | rfl | rfl | rfl | rfl | rfl | rfl | rfl | rfl | rfl | rfl
      · refine wpOp_step rfl (fun K hK => ?_)
        clear hdep
        go_simp
        exact hK _ _ ⟨_, rfl, fun _ _ h => WrPv.up h, rfl, hj.step hNW (Below.refl _ _) (by omega) (by omega)⟩
      · have d0 : u 52 = .pointer (some ⟨w.heap.size, 0, none⟩) := (hdep _ rfl ⟨0, .data⟩ (by simp) rfl).2
        have x6 := fun o => row_cell ((oldb _ (by omega)).trans E0.out) o
        refine wpOp_step rfl (fun K hK => ?_)
        clear hdep
        go_simp
        exact hK _ _ ⟨_, by simp [upd, d0], fun _ _ h => WrPv.up h, rfl, hj.step hNW (Below.refl _ _) (by omega) (by omega)⟩
      · refine wpOp_step rfl (fun K hK => ?_)
        clear hdep
        go_simp
        exact hK _ _ ⟨_, rfl, fun _ _ h => WrPv.up h, rfl, hj.step hNW (Below.refl _ _) (by omega) (by omega)⟩
      · refine wpOp_step rfl (fun K hK => ?_)
        clear hdep
        go_simp
        exact hK _ _ ⟨_, rfl, fun _ _ h => WrPv.up h, rfl, hj.step hNW (Below.refl _ _) (by omega) (by omega)⟩
      · have d2 : u 54 = .slice (some ⟨pb, po, none⟩) ps.length pc := (hdep _ rfl ⟨2, .data⟩ (by simp) rfl).2
        have d3 : u 55 = .int .i64 k := (hdep _ rfl ⟨3, .data⟩ (by simp) rfl).2
        refine wpOp_step rfl (fun K hK => ?_)
        clear hdep
        go_simp
        exact hK _ _ ⟨_, by simp [upd, d2, d3], fun _ _ h => WrPv.up h, rfl, hj.step hNW (Below.refl _ _) (by omega) (by omega)⟩
      · have d4 : u 56 = .pointer (some ⟨pb, po + k * 2, none⟩) := (hdep _ rfl ⟨4, .data⟩ (by simp) rfl).2
        refine wpOp_step rfl (fun K hK => ?_)
        clear hdep
        go_simp
        exact hK _ _ ⟨_, by simp [upd, d4], fun _ _ h => WrPv.up h, rfl, hj.step hNW (Below.refl _ _) (by omega) (by omega)⟩
      · have d5 : u 57 = .pointer (some ⟨pb, po + k * 2, none⟩) := (hdep _ rfl ⟨5, .data⟩ (by simp) rfl).2
        have x6 := (World.cell?_of_block (a := ⟨pb, po + k * 2, none⟩) (w := wo) (w' := W) (oldb pb (by omega))).trans P0.out
        refine wpOp_step rfl (fun K hK => ?_)
        clear hdep
        go_simp
        exact hK _ _ ⟨_, by simp [upd, d5], fun _ _ h => WrPv.up h, rfl, hj.step hNW (Below.refl _ _) (by omega) (by omega)⟩
      · refine wpOp_step rfl (fun K hK => ?_)
        clear hdep
        go_simp
        exact hK _ _ ⟨_, rfl, fun _ _ h => WrPv.up h, trivial, hj.seven hNW ((Below.refl _ _).alloc (Nat.le_refl _) _) hNW (heap_alloc_new _ _)⟩
      · refine wpOp_step rfl (fun K hK => ?_)
        clear hdep
        go_simp
        exact hK _ _ ⟨_, rfl, fun _ _ h => WrPv.up h, rfl, hj.step hNW (Below.refl _ _) (by omega) (by omega)⟩
      · have l7 := (hdep _ rfl ⟨7, .data⟩ (by simp) rfl).1
        have d8 : u 60 = .slice a5 Y.length c5 := (hdep _ rfl ⟨8, .data⟩ (by simp) rfl).2
        have l9 : L.getD 9 false = false := by
          cases h8 : L.getD 9 false
          · rfl
          · rw [getD_both (by omega) h8] at hLi; cases hLi
        obtain ⟨g2, d7, h71, h72⟩ := hj.none_ l7 l9
        have r5W : VeRow 0 W.heap.size W a5 Y := VeRow.wide (VeRow.keep R5.out (fun g _ h2 => hj.below.block g (by omega))) (Nat.le_refl _) (by omega)
        obtain ⟨v6, W6, hrun, h61, h62⟩ := app_copy Y a5 g2 c5 _ W r5W (by omega) h71 h72
        have HJ6 : Hid _ := hj.nine hNW h62 (by omega) h61
        clear hdep r5W h61 h62
        refine wpOp_step rfl (fun K hK => ?_)
        refine wp_append_run (.tmp 59) (.tmp 60) _ rfl _ _ _ _ d7 d8 hrun ?_
        exact hK _ _ ⟨_, rfl, fun _ _ h => WrPv.up h, trivial, HJ6.out⟩
      · refine wpOp_step rfl (fun K hK => ?_)
        clear hdep
        go_simp
        exact hK _ _ ⟨_, rfl, fun _ _ h => WrPv.up h, rfl, hj.step hNW (Below.refl _ _) (by omega) (by omega)⟩
      · have d10 : u 62 = .pointer (some ⟨w.heap.size, 1, none⟩) := (hdep _ rfl ⟨10, .data⟩ (by simp) rfl).2
        have x6 := fun o => row_cell ((oldb _ (by omega)).trans E0.out) o
        refine wpOp_step rfl (fun K hK => ?_)
        clear hdep
        go_simp
        exact hK _ _ ⟨_, by simp [upd, d10], fun _ _ h => WrPv.up h, rfl, hj.step hNW (Below.refl _ _) (by omega) (by omega)⟩
      · refine wpOp_step rfl (fun K hK => ?_)
        clear hdep
        go_simp
        exact hK _ _ ⟨_, rfl, fun _ _ h => WrPv.up h, rfl, hj.step hNW (Below.refl _ _) (by omega) (by omega)⟩
      · refine wpOp_step rfl (fun K hK => ?_)
        clear hdep
        go_simp
        exact hK _ _ ⟨_, rfl, fun _ _ h => WrPv.up h, rfl, hj.step hNW (Below.refl _ _) (by omega) (by omega)⟩
      · have d12 : u 64 = .slice (some ⟨pb, po, none⟩) ps.length pc := (hdep _ rfl ⟨12, .data⟩ (by simp) rfl).2
        have d13 : u 65 = .int .i64 k := (hdep _ rfl ⟨13, .data⟩ (by simp) rfl).2
        refine wpOp_step rfl (fun K hK => ?_)
        clear hdep
        go_simp
        exact hK _ _ ⟨_, by simp [upd, d12, d13], fun _ _ h => WrPv.up h, rfl, hj.step hNW (Below.refl _ _) (by omega) (by omega)⟩
      · have d14 : u 66 = .pointer (some ⟨pb, po + k * 2, none⟩) := (hdep _ rfl ⟨14, .data⟩ (by simp) rfl).2
        refine wpOp_step rfl (fun K hK => ?_)
        clear hdep
        go_simp
        exact hK _ _ ⟨_, by simp [upd, d14], fun _ _ h => WrPv.up h, rfl, hj.step hNW (Below.refl _ _) (by omega) (by omega)⟩
      · have d15 : u 67 = .pointer (some ⟨pb, po + k * 2 + 1, none⟩) := (hdep _ rfl ⟨15, .data⟩ (by simp) rfl).2
        have x6 := (World.cell?_of_block (a := ⟨pb, po + k * 2 + 1, none⟩) (w := wo) (w' := W) (oldb pb (by omega))).trans P1.out
        refine wpOp_step rfl (fun K hK => ?_)
        clear hdep
        go_simp
        exact hK _ _ ⟨_, by simp [upd, d15], fun _ _ h => WrPv.up h, rfl, hj.step hNW (Below.refl _ _) (by omega) (by omega)⟩
      · have d11 : u 63 = .int .i64 (now + 1) := (hdep _ rfl ⟨11, .data⟩ (by simp) rfl).2
        have d16 : u 68 = .int .i64 ps[k].v := (hdep _ rfl ⟨16, .data⟩ (by simp) rfl).2
        refine wpOp_step rfl (fun K hK => ?_)
        clear hdep
        go_simp
        exact hK _ _ ⟨_, by simp [upd, d11, d16], fun _ _ h => WrPv.up h, rfl, hj.step hNW (Below.refl _ _) (by omega) (by omega)⟩
      · have d17 : u 69 = .agg #[.int .i64 (now + 1), .int .i64 ps[k].v] := (hdep _ rfl ⟨17, .data⟩ (by simp) rfl).2
        refine wpOp_step rfl (fun K hK => ?_)
        clear hdep
        go_simp
        exact hK _ _ ⟨.slice (some ⟨W.heap.size, 0, none⟩) 1 1, by simp [upd, d17], fun _ _ h => WrPv.up h, trivial, hj.ten8 hNW ((Below.refl _ _).alloc (Nat.le_refl _) _) (heap_alloc_new _ _)⟩
      · have l9 := (hdep _ rfl ⟨9, .data⟩ (by simp) rfl).1
        have l18 := (hdep _ rfl ⟨18, .data⟩ (by simp) rfl).1
        have l19 : L.getD 19 false = false := by
          cases h8 : L.getD 19 false
          · rfl
          · rw [getD_both (by omega) h8] at hLi; cases hLi
        have ho := hj.copy l9 l19
        obtain ⟨h, d18, hh⟩ := hj.one l18 l19
        obtain ⟨g8, cap8, W8, hrun, q1, q2, q3⟩ := app_ver 0 Y ⟨now + 1, ps[k].v⟩ (u 61) _ h W ho hh (by omega) hNW
        have HJ8 : Hid _ := hj.ten9 hNW l9 (by omega) (own_base ho) q2 (kid_of (x := Y ++ [⟨now + 1, ps[k].v⟩]) (by simpa using q1) (by simp))
        clear hdep ho q1 q2 q3 hh
        refine wpOp_step rfl (fun K hK => ?_)
        refine wp_append_run (.tmp 61) (.tmp 70) _ rfl _ _ _ _ rfl d18 hrun ?_
        exact hK _ _ ⟨_, rfl, fun _ _ h => WrPv.up h, trivial, HJ8.out⟩
      · have d1 : u 53 = .slice (some ⟨g, 0, none⟩) l.length cap := (hdep _ rfl ⟨1, .data⟩ (by simp) rfl).2
        have d6 : u 58 = .int .i64 q := (hdep _ rfl ⟨6, .data⟩ (by simp) rfl).2
        refine wpOp_step rfl (fun K hK => ?_)
        clear hdep
        go_simp
        exact hK _ _ ⟨_, by simp [upd, d1, d6], fun _ _ h => WrPv.up h, rfl, hj.step hNW (Below.refl _ _) (by omega) (by omega)⟩
    case last =>
      intro L u W hLs hL hj hp
      have d20 : u 72 = .pointer (some ⟨g, q, none⟩) := hp 20 (by omega)
      have hNW := hj.below.size
      have oldb : ∀ g, g < wo.heap.size → W.heap[g]? = wo.heap[g]? := fun g hg => (hj.below.block g (by omega)).trans (by rw [HH2.out])
      have hku := hj.all (hL 19 (by omega))
      have hglt : g < wo.heap.size := (Array.getElem?_eq_some_iff.1 E2.out).1
      have hput := OwnK.put (w := wc) (by rw [HH2.out]; exact E2.out) HCP.out hcm hcs (fun i x hx => by
        obtain ⟨v, h1, h2⟩ := HKID.out i x hx
        exact ⟨v, h1, h2.keep (by omega) (fun b _ _ h3 => ⟨by rw [HH2.out], h3⟩)⟩) hlo (by omega) rfl hj.below HQL.out hku
      have HPUT : Hid (OwnK (w.heap.size + 2) (W.setCell ⟨g, q, none⟩ (u 71)) (.slice (some ⟨g, 0, none⟩) l.length cap) (wrAll (now + 1) l (ps.take (k + 1)))) := by
        rw [Hid, wrAll_take (now + 1) l hlt, wrS, hq, Int.toNat_natCast, wrC, ← HX.out, ← HY.out, HN'.out]
        exact hput
      obtain ⟨a9, n9, c9, e9⟩ : ∃ a n c, u 71 = .slice a n c := by obtain ⟨a9, c9, e9, _⟩ := hku; exact ⟨a9, _, c9, e9⟩
      have hc := (oldb g hglt).trans E2.out
      have f2 := fun o => row_frozen hc o
      have qq := (World.cell?_of_block (a := ⟨g, q, none⟩) (w := wo) (w' := W) (oldb g hglt)).trans G3.out
      have E0W : Hid (W.heap[w.heap.size]? = _) := (oldb _ (by omega)).trans E0.out
      have E1W : Hid (W.heap[w.heap.size + 1]? = _) := (oldb _ (by omega)).trans E1.out
      have HBW : Hid (Below w.heap.size w W) := (Q.out.trans (BC.out.mono (by omega))).trans (hj.below.mono (by omega))
      rw [e9] at HPUT
      clear hp hj hc hput hku
      unfold wpTail
      refine wpOp_step rfl (fun K hK => ?_)
      go_simp
      refine hK _ _ ?_
      clear hK
      unfold wpTail
      go_wp2_with fail
      exact ⟨⟨k + 1, by omega, by go_num, by rw [Hid, heap_set _ _ _ _ _ (by omega)]; exact E0W.out, by rw [Hid, heap_set _ _ _ _ _ (by omega)]; exact E1W.out, HBW.out.setCell (by first | omega | (simp <;> omega)) _, HPUT⟩, by simp [intOf]; omega⟩
end Go.Proofs.Ytoahbfledamnnaa.G
namespace Go.Proofs.Ytoahbfledamnnaa.G
open Go.ChangeShapes Go.WideShapes Go.ChangeAt Go.RowKit
set_option linter.unusedVariables false

theorem grown_set {a w : World} {L : Nat} (h : a.grownBy w (some L)) (o : Nat) (v : Value) : a.grownBy (w.setCell ⟨L, o, none⟩ v) (some L) :=
  ⟨h.os, h.tape, h.output, by simpa using h.size, fun k hk hn => (heap_set _ _ _ _ _ (fun e => hn (by rw [e]))).trans (h.block k hk hn)⟩
theorem grown_drewN (w : World) (n : Nat) (r : Option Nat) : w.grownBy (w.drewN n) r := ⟨rfl, rfl, rfl, Nat.le_refl _, fun _ _ _ => rfl⟩
/-- A slice of bytes: any place where there is none; else a block below B holds them. -/
def ByteRow (B : Nat) (w : World) (a : Option Addr) (n : Nat) : Prop :=
  n = 0 ∨ ∃ b o, a = some ⟨b, o, none⟩ ∧ b < B ∧ B ≤ w.heap.size ∧ ∀ i, i < n → ∃ c : Nat, c < 256 ∧ w.cell? ⟨b, o + i, none⟩ = some (.int .u8 (c : Int))
theorem ByteRow.keep {B : Nat} {w w' : World} {a : Option Addr} {n : Nat} (h : ByteRow B w a n) (hs : w.heap.size ≤ w'.heap.size) (hb : ∀ k, k < B → w'.heap[k]? = w.heap[k]?) : ByteRow B w' a n := by
  rcases h with h | ⟨b, o, rfl, h1, h2, h3⟩
  · exact .inl h
  · refine .inr ⟨b, o, rfl, h1, Nat.le_trans h2 hs, fun i hi => ?_⟩
    obtain ⟨c, hc, e⟩ := h3 i hi
    exact ⟨c, hc, (World.cell?_of_block (w := w) (hb b h1)).trans e⟩
theorem ByteRow.at_ {B : Nat} {w : World} {a : Option Addr} {n : Nat} (h : ByteRow B w a n) (hn : 0 < n) : ∃ b o, a = some ⟨b, o, none⟩ ∧ b < B ∧ ∀ i, i < n → ∃ c : Nat, c < 256 ∧ w.cell? ⟨b, o + i, none⟩ = some (.int .u8 (c : Int)) := by
  rcases h with h | ⟨b, o, rfl, h1, h2, h3⟩
  · omega
  · exact ⟨b, o, rfl, h1, h3⟩
theorem mod_wrap (i m : Nat) (hm : 0 < m) (hi : i ≤ 100000) : IntKind.i64.wrap ((i : Int).tmod (m : Int)) = ((i % m : Nat) : Int) := by
  have h1 : i % m ≤ i := Nat.mod_le _ _
  rw [Int.tmod_eq_emod_of_nonneg (by omega), ← Int.natCast_emod]
  unfold IntKind.wrap
  simp [IntKind.bits, IntKind.signed]
  omega
theorem tmod_nat (i m : Nat) (hm : 0 < m) : ∃ r : Nat, (i : Int).tmod m = (r : Int) ∧ r < m :=
  ⟨i % m, by rw [Int.tmod_eq_emod_of_nonneg (by omega)]; omega, Nat.mod_lt _ hm⟩
theorem tdiv_nat (i m : Nat) : ∃ r : Nat, (i : Int).tdiv m = (r : Int) ∧ r ≤ i :=
  ⟨i / m, by rw [Int.tdiv_eq_ediv_of_nonneg (by omega)]; omega, Nat.div_le_self _ _⟩
theorem tmod_int {x : Int} {m : Nat} (hx : 0 ≤ x) (hm : 0 < m) : ∃ r : Nat, x.tmod m = (r : Int) ∧ r < m := by
  obtain ⟨k, rfl⟩ := Int.eq_ofNat_of_zero_le hx
  exact tmod_nat k m hm

/-- A source of choices: the code, how much was read (at most k), the seed. -/
def SrcSt (w : World) (L : Nat) (a : Option Addr) (n k : Nat) : Prop :=
  ∃ (c p : Nat) (sd : Int), w.heap[L]? = some (.cells #[.slice a n c, .int .i64 p, .int .i64 sd] 78 (0, 0)) ∧ p ≤ k ∧ 0 ≤ sd ∧ sd < 2147483648
theorem row_keep {w w' : World} {B : Nat} {a : Option Addr} {n : Nat} (h : ByteRow B w a n) (hg : w.grownBy w' (some B)) : ByteRow B w' a n := by
  rcases h with h | ⟨b, o, rfl, h1, h2, h3⟩
  · exact .inl h
  · exact ByteRow.keep (.inr ⟨b, o, rfl, h1, h2, h3⟩) hg.size (fun k hk => hg.block k (by omega) (by intro e; simp only [Option.some.injEq] at e; omega))
theorem tmod31 (x : Int) (h : 0 ≤ x) : ∃ r : Int, x.tmod 2147483648 = r ∧ 0 ≤ r ∧ r < 2147483648 :=
  ⟨x % 2147483648, Int.tmod_eq_emod_of_nonneg h, by omega, by omega⟩
theorem top8 (x : Int) (h : 0 ≤ x) : ∃ v : Nat, (x.tdiv 65536).tmod 256 = (v : Int) ∧ v < 256 :=
  ⟨(x / 65536 % 256).toNat, by rw [Int.tdiv_eq_ediv_of_nonneg h, Int.tmod_eq_emod_of_nonneg (by omega)]; omega, by omega⟩

set_option maxHeartbeats 2000000 in
theorem byte_any (L n k : Nat) (a : Option Addr) (w : World) (h : SrcSt w L a n k) (hr : ByteRow L w a n) (hk : k ≤ 100000) (hn : n ≤ 1048576) :
    Calls Try.prog 62 #[.pointer (some ⟨L, 0, none⟩)] w fun e w' => (∃ v : Nat, v < 256 ∧ e = .returned (.int .i64 v)) ∧ SrcSt w' L a n (k + 1) ∧ w.grownBy w' (some L) := by
  obtain ⟨c, p, sd, hh, hp, hs0, hsd⟩ := h
  have d0 := row_cell hh 0
  have d1 := row_cell hh 1
  have d2 := row_cell hh 2
  have f1 := row_frozen hh 1
  have f2 := row_frozen hh 2
  simp at d0 d1 d2
  have hh2 := row_set hh 1 (.int .i64 ((p : Int) + 1))
  have HG : Hid (w.grownBy (w.setCell ⟨L, 1, none⟩ (.int .i64 ((p : Int) + 1))) (some L)) := grown_set (grown_refl w (some L)) 1 (.int .i64 ((p : Int) + 1))
  have HR : Hid (ByteRow L (w.setCell ⟨L, 1, none⟩ (.int .i64 ((p : Int) + 1))) a n) := row_keep hr HG.out
  have HH : Hid ((w.setCell ⟨L, 1, none⟩ (.int .i64 ((p : Int) + 1))).heap[L]? = some (.cells #[.slice a n c, .int .i64 ((p : Int) + 1), .int .i64 sd] 78 (0, 0))) := by unfold Hid; simpa using hh2
  clear hh hr hh2
  go_enter Try.func62, Try.ntmps62
  go_wp2_with fail
  clear d0 d1 d2 f1 f2
  generalize w.setCell ⟨L, 1, none⟩ (.int .i64 ((p : Int) + 1)) = wq at *
  have d0 := row_cell HH.out 0
  have d1 := row_cell HH.out 1
  have d2 := row_cell HH.out 2
  have f2 := row_frozen HH.out 2
  simp at d0 d1 d2
  by_cases hin : p + 1 ≤ n
  · obtain ⟨b, o, rfl, hb, hc⟩ := ByteRow.at_ HR.out (by omega)
    obtain ⟨c1, l1, e1⟩ := hc p (by omega)
    obtain ⟨r, q, br0, br1⟩ := tmod31 (sd * 31 + c1 + 7) (by omega)
    clear hc
    have hle : (p : Int) + 1 ≤ n := by omega
    have hlt : (p : Int) < n := by omega
    go_quiet (fail)
    go_wp2_with fail
    have hLs : L < wq.heap.size := (Array.getElem?_eq_some_iff.1 HH.out).1
    clear HR
    go_region
    have H3 : ((wq.drewN (nq + 1)).setCell ⟨L, 2, none⟩ (.int .i64 r)).heap[L]? = some (.cells #[.slice (some ⟨b, o, none⟩) n c, .int .i64 ((p : Int) + 1), .int .i64 r] 78 (0, 0)) := by
      have := row_set (w := wq.drewN (nq + 1)) HH.out 2 (.int .i64 r)
      simpa using this
    have G3 : wq.grownBy ((wq.drewN (nq + 1)).setCell ⟨L, 2, none⟩ (.int .i64 r)) (some L) := grown_set (grown_drewN wq (nq + 1) _) _ _
    have E3 := (World.cell?_of_block (a := ⟨b, o + p, none⟩) (w := wq) (G3.block b (by omega) (by intro e; simp only [Option.some.injEq] at e; omega))).trans e1
    have GW := grown_trans HG.out G3
    clear G3 d0 d1 d2 f2 e1
    generalize (wq.drewN (nq + 1)).setCell ⟨L, 2, none⟩ (.int .i64 r) = wz at *
    have d0 := row_cell H3 0
    have d1 := row_cell H3 1
    simp at d0 d1
    have H4 : Hid _ := H3
    clear H3
    go_wp2_with fail
    go_quiet (fail)
    go_wp2_with fail
    go_ret
    exact ⟨⟨c1, l1, rfl⟩, ⟨c, p + 1, r, H4.out, by omega, br0, br1⟩, grown_trans GW (grown_drewN wz _ _)⟩
  · have hle : ¬ (p : Int) + 1 ≤ n := by omega
    by_cases hbig : 3000 < (p : Int) + 1
    · go_quiet (fail)
      go_wp2_with fail
      go_ret
      exact ⟨⟨0, by omega, rfl⟩, ⟨c, p + 1, sd, HH.out, by omega, hs0, hsd⟩, grown_trans HG.out (grown_drewN wq nq _)⟩
    · obtain ⟨r, q, br0, br1⟩ := tmod31 (sd * 1103515245 + 12345) (by omega)
      obtain ⟨v, hv, hv2⟩ := top8 r br0
      have HR2 := row_set HH.out 2 (.int .i64 r)
      have HG2 := grown_set HG.out 2 (.int .i64 r)
      have HHR : Hid _ := HR2
      have HHG : Hid _ := HG2
      clear HR2 HG2
      go_quiet (fail)
      go_wp2_with fail
      go_ret
      have H3 : ((wq.drewN nq).setCell ⟨L, 2, none⟩ (.int .i64 r)).heap[L]? = some (.cells #[.slice a n c, .int .i64 ((p : Int) + 1), .int .i64 r] 78 (0, 0)) := by
        have := row_set (w := wq.drewN nq) HH.out 2 (.int .i64 r)
        simpa using this
      exact ⟨⟨(r / 65536 % 256).toNat, by omega, by rw [Int.toNat_of_nonneg (by omega)]; rfl⟩, ⟨c, p + 1, r, H3, by omega, br0, br1⟩, grown_set (grown_trans HG.out (grown_drewN wq nq _)) _ _⟩

set_option maxHeartbeats 1000000 in
theorem next_any (m : Nat) (L n k : Nat) (a : Option Addr) (w : World) (h : SrcSt w L a n k) (hr : ByteRow L w a n) (hk : k ≤ 100000) (hn : n ≤ 1048576) (hm : 2 ≤ m) (hm2 : m ≤ 256) :
    Calls Try.prog 44 #[.pointer (some ⟨L, 0, none⟩), .int .i64 m] w fun e w' => (∃ v : Nat, v < m ∧ e = .returned (.int .i64 v)) ∧ SrcSt w' L a n (k + 1) ∧ w.grownBy w' (some L) := by
  have HS : Hid (SrcSt w L a n k) := h
  have HR : Hid (ByteRow L w a n) := hr
  clear h hr
  go_enter Try.func44, Try.ntmps44
  go_wp2_with fail
  refine (byte_any L n k a _ HS.out HR.out hk hn).mono ?_
  rintro e w1 ⟨⟨v, hv, rfl⟩, st, hg⟩
  have HS1 : Hid (SrcSt w1 L a n (k + 1)) := st
  have HG1 : Hid (w.grownBy w1 (some L)) := hg
  clear st hg
  obtain ⟨r, q, br⟩ := tmod_nat v m (by omega)
  have hmz : (m : Int) ≠ 0 := by omega
  go_wp2_with fail
  go_ret
  exact ⟨⟨r, br, rfl⟩, HS1.out, HG1.out⟩


end Go.Proofs.Ytoahbfledamnnaa.G
namespace Go.Proofs.Ytoahbfledamnnaa.G
open Go.ChangeShapes Go.WideShapes Go.ChangeAt Go.RowKit
set_option linter.unusedVariables false

theorem SrcSt.lt {w : World} {L : Nat} {a : Option Addr} {n k : Nat} (h : SrcSt w L a n k) : L < w.heap.size := by
  obtain ⟨c, p, sd, hh, _⟩ := h
  exact (Array.getElem?_eq_some_iff.1 hh).1
theorem SrcSt.move {w w' : World} {L : Nat} {a : Option Addr} {n k : Nat} (h : SrcSt w L a n k) (hb : w'.heap[L]? = w.heap[L]?) : SrcSt w' L a n k := by
  obtain ⟨c, p, sd, hh, h2⟩ := h
  exact ⟨c, p, sd, hb.trans hh, h2⟩
theorem SrcSt.more {w : World} {L : Nat} {a : Option Addr} {n k k' : Nat} (h : SrcSt w L a n k) (hk : k ≤ k') : SrcSt w L a n k' := by
  obtain ⟨c, p, sd, hh, h1, h2⟩ := h
  exact ⟨c, p, sd, hh, by omega, h2⟩
theorem ByteRow.up {L : Nat} {w w' : World} {a : Option Addr} {n : Nat} (h : ByteRow L w a n) (hL : L ≤ w.heap.size) (hb : Below w.heap.size w w') : ByteRow L w' a n :=
  ByteRow.keep h hb.size (fun k hk => hb.block k (by omega))

set_option maxHeartbeats 1000000 in
theorem next_pos (m : Nat) (L n k : Nat) (a : Option Addr) (w : World) (h : SrcSt w L a n k) (hr : ByteRow L w a n) (hk : k ≤ 100000) (hn : n ≤ 1048576) (hm : 1 ≤ m) (hm2 : m ≤ 256) :
    Calls Try.prog 44 #[.pointer (some ⟨L, 0, none⟩), .int .i64 m] w fun e w' => (∃ v : Nat, v < m ∧ e = .returned (.int .i64 v)) ∧ SrcSt w' L a n (k + 1) ∧ w.grownBy w' (some L) := by
  by_cases h2 : 2 ≤ m
  · exact next_any m L n k a w h hr hk hn h2 hm2
  · obtain rfl : m = 1 := by omega
    have HS : Hid _ := h.more (show k ≤ k + 1 by omega)
    clear h hr
    go_enter Try.func44, Try.ntmps44
    go_wp2_with fail
    go_ret
    exact ⟨⟨0, by omega, rfl⟩, HS.out, grown_refl _ _⟩
set_option maxHeartbeats 1000000 in
theorem chance_any (m : Nat) (L n k : Nat) (a : Option Addr) (w : World) (h : SrcSt w L a n k) (hr : ByteRow L w a n) (hk : k ≤ 100000) (hn : n ≤ 1048576) (hm : 1 ≤ m) (hm2 : m ≤ 256) :
    Calls Try.prog 47 #[.pointer (some ⟨L, 0, none⟩), .int .i64 m] w fun e w' => (∃ b : Bool, e = .returned (.bool b)) ∧ SrcSt w' L a n (k + 1) ∧ w.grownBy w' (some L) := by
  go_enter Try.func47, Try.ntmps47
  go_wp2_with fail
  refine (next_pos m L n k a _ h hr hk hn hm hm2).mono ?_
  rintro e w1 ⟨⟨v, hv, rfl⟩, st, hg⟩
  have HS1 : Hid (SrcSt w1 L a n (k + 1)) := st
  have HG1 : Hid (w.grownBy w1 (some L)) := hg
  clear st hg h hr
  go_wp2_with fail
  go_ret
  exact ⟨⟨_, rfl⟩, HS1.out, HG1.out⟩
set_option maxHeartbeats 1000000 in
theorem size_any (L n k : Nat) (a : Option Addr) (w : World) (h : SrcSt w L a n k) (hn : n ≤ 1048576) :
    Calls Try.prog 45 #[.pointer (some ⟨L, 0, none⟩), .int .i64 10] w fun e w' => (∃ v : Nat, 1 ≤ v ∧ v ≤ 10 ∧ e = .returned (.int .i64 v)) ∧ Below w.heap.size w w' := by
  obtain ⟨c, p, sd, hh, hp, hs0, hsd⟩ := h
  have d0 := row_cell hh 0
  simp at d0
  clear hh
  obtain ⟨r, hr, hr2⟩ := tdiv_nat n 12
  have hr' : (n : Int).tdiv 12 = r := hr
  by_cases h10 : (1 : Int) + r ≤ 10
  · go_enter Try.func45, Try.ntmps45
    go_wp2_with fail
    go_ret
    exact ⟨⟨1 + r, by omega, by omega, by go_num⟩, Below.refl _ _⟩
  · go_enter Try.func45, Try.ntmps45
    go_wp2_with fail
    go_ret
    exact ⟨⟨10, by omega, by omega, rfl⟩, Below.refl _ _⟩
set_option maxHeartbeats 1000000 in
theorem source_any (n c : Nat) (a : Option Addr) (w : World) (hn : n ≤ 1048576) :
    Calls Try.prog 21 #[.slice a n c] w fun e w' => e = .returned (.pointer (some ⟨w.heap.size, 0, none⟩)) ∧ SrcSt w' w.heap.size a n 0 ∧ Below w.heap.size w w' := by
  obtain ⟨r, hr, hr2⟩ := tmod_nat n 1000 (by omega)
  have hr' : (n : Int).tmod 1000 = r := hr
  go_enter Try.func21, Try.ntmps21
  go_wp2_with fail
  go_ret
  exact ⟨rfl, ⟨c, 0, r, heap_alloc_new _ _, by omega, by omega, by omega⟩, (Below.refl _ _).alloc (Nat.le_refl _) _⟩
theorem valB_odd {q v : Nat} (h : q % 2 = 1) (hv : v < 9) : valB q v = true := by
  have : ((q : Int) % 2 = 1) := by omega
  simp [valB, this, nodeB]; omega
theorem valB_even {q : Nat} {v : Int} (h : ¬ q % 2 = 1) (hv : -2147483648 ≤ v ∧ v ≤ 2147483647) : valB q v = true := by
  have : ¬ ((q : Int) % 2 = 1) := by omega
  simp [valB, this, intB]; omega
theorem putB_of {q : Nat} {v : Int} (h : q < 16) (hv : valB q v = true) : putB q v = true := by
  simp [putB, keyS, hv]; omega
theorem grown_far {a w : World} {r : Option Nat} (h : a.grownBy w r) {b : Nat} (hb : a.heap.size ≤ b) (o : Nat) (v : Value) : a.grownBy (w.setCell ⟨b, o, none⟩ v) r :=
  ⟨h.os, h.tape, h.output, by simpa using h.size, fun k hk hn => (heap_set _ _ _ _ _ (by omega)).trans (h.block k hk hn)⟩
set_option maxHeartbeats 2000000 in
theorem put_any (L n k : Nat) (a : Option Addr) (w : World) (h : SrcSt w L a n k) (hr : ByteRow L w a n) (hk : k ≤ 99990) (hn : n ≤ 1048576) :
    Calls Try.prog 52 #[.pointer (some ⟨L, 0, none⟩)] w fun e w' => (∃ p : Ve, e = .returned (.agg #[.int .i64 p.ts, .int .i64 p.v]) ∧ putB p.ts p.v = true) ∧ SrcSt w' L a n (k + 3) ∧ w.grownBy w' (some L) := by
  obtain ⟨wa, hwa⟩ : ∃ x : World, x = w.alloc (.cells #[.int .i64 0, .int .i64 0] 43) := ⟨_, rfl⟩
  have hL := h.lt
  have za : wa.heap.size = w.heap.size + 1 := by rw [hwa]; simp
  have ba : Below w.heap.size w wa := by rw [hwa]; exact (Below.refl _ _).alloc (Nat.le_refl _) _
  have ca : wa.heap[w.heap.size]? = some (.cells #[.int .i64 0, .int .i64 0] 43 (0, 0)) := by rw [hwa]; exact heap_alloc_new _ _
  have HS : Hid _ := h.move (ba.block L hL)
  have HR : Hid _ := hr.up (by omega) ba
  have GA : Hid (w.grownBy wa (some L)) := grown_below (grown_refl _ _) ba
  have CA : Hid _ := ca
  clear h hr ba ca
  go_enter Try.func52, Try.ntmps52
  go_wp2_with fail
  rw [← hwa]
  refine (next_any 16 L n k a _ HS.out HR.out (by omega) hn (by omega) (by omega)).mono ?_
  rintro e w1 ⟨⟨q, hq, rfl⟩, s1, g1⟩
  have c1 := (g1.block w.heap.size (by omega) (by simp; omega)).trans CA.out
  have HS1 : Hid _ := s1
  have HR1 : Hid _ := row_keep HR.out g1
  have G1 : Hid (w.grownBy w1 (some L)) := grown_trans GA.out g1
  have C1 : Hid _ := c1
  have z1 := g1.size
  clear s1 g1 c1 HS HR GA CA
  have hm : (q : Int).tmod 2 = ((q % 2 : Nat) : Int) := by rw [Int.tmod_eq_emod_of_nonneg (by omega)]; omega
  by_cases hodd : q % 2 = 1
  · have hm1 : (q : Int).tmod 2 = 1 := by omega
    clear hm
    go_wp2_with fail
    refine (next_any 9 L n (k + 1) a _ HS1.out HR1.out (by omega) hn (by omega) (by omega)).mono ?_
    rintro e w2 ⟨⟨v, hv, rfl⟩, s2, g2⟩
    have c2 := (g2.block w.heap.size (by omega) (by simp; omega)).trans C1.out
    have HS2 : Hid _ := s2
    have G2 : Hid (w.grownBy w2 (some L)) := grown_trans G1.out g2
    have x2 := fun o => row_cell c2 o
    have y2 := fun o => row_frozen c2 o
    have HV : Hid (putB q v = true) := putB_of hq (valB_odd hodd hv)
    clear s2 g2 c2 HS1 HR1 G1 C1
    go_wp2_with fail
    refine bodyPost_ret (v := .agg #[.int .i64 q, .int .i64 v]) (by simp [results, Try.results52, go_sem, x2]) rfl ⟨⟨⟨q, v⟩, rfl, HV.out⟩, ?_, ?_⟩
    · exact SrcSt.move (SrcSt.more HS2.out (by omega)) (by rw [heap_set _ _ _ _ _ (by omega), heap_set _ _ _ _ _ (by omega)])
    · exact grown_far (grown_far G2.out (Nat.le_refl _) _ _) (Nat.le_refl _) _ _
  · have hm1 : ¬ (q : Int).tmod 2 = 1 := by omega
    clear hm
    go_wp2_with fail
    refine (next_any 20 L n (k + 1) a _ HS1.out HR1.out (by omega) hn (by omega) (by omega)).mono ?_
    rintro e w2 ⟨⟨v, hv, rfl⟩, s2, g2⟩
    have z2 := g2.size
    obtain ⟨wb, hwb⟩ : ∃ x : World, x = w2.alloc (.cells #[.int .i64 ((v : Int) - 4), .int .i64 2147483647] 3) := ⟨_, rfl⟩
    have zb : wb.heap.size = w2.heap.size + 1 := by rw [hwb]; simp
    have bb : Below w2.heap.size w2 wb := by rw [hwb]; exact (Below.refl _ _).alloc (Nat.le_refl _) _
    have cb : wb.heap[w2.heap.size]? = some (.cells #[.int .i64 ((v : Int) - 4), .int .i64 2147483647] 3 (0, 0)) := by rw [hwb]; exact heap_alloc_new _ _
    have c2 := (bb.block w.heap.size (by omega)).trans ((g2.block w.heap.size (by omega) (by simp; omega)).trans C1.out)
    have HS2 : Hid _ := s2.move (bb.block L (by omega))
    have HR2 : Hid _ := (row_keep HR1.out g2).up (by omega) bb
    have G2 : Hid (w.grownBy wb (some L)) := grown_below (grown_trans G1.out g2) bb
    have C2 : Hid _ := c2
    have CB : Hid _ := cb
    clear s2 g2 c2 HS1 HR1 G1 C1 bb cb
    go_wp2_with fail
    rw [← hwb]
    refine (next_any 9 L n (k + 1 + 1) a _ HS2.out HR2.out (by omega) hn (by omega) (by omega)).mono ?_
    rintro e w3 ⟨⟨v2, hv2, rfl⟩, s3, g3⟩
    have c3 := (g3.block w.heap.size (by omega) (by simp; omega)).trans C2.out
    have b3 := (g3.block w2.heap.size (by omega) (by simp; omega)).trans CB.out
    have HS3 : Hid _ := s3
    have G3 : Hid (w.grownBy w3 (some L)) := grown_trans G2.out g3
    have x3 := fun o => row_cell c3 o
    have y3 := fun o => row_frozen c3 o
    have xb := fun o => row_cell b3 o
    have hd : (v2 : Int).tdiv 8 = ((v2 / 8 : Nat) : Int) := by rw [Int.tdiv_eq_ediv_of_nonneg (by omega)]; omega
    clear s3 g3 c3 b3 HS2 HR2 G2 C2 CB
    by_cases h8 : v2 / 8 = 0
    · have hd0 : (v2 : Int).tdiv 8 = 0 := by omega
      have HV : Hid (putB q ((v : Int) - 4) = true) := putB_of hq (valB_even hodd (by omega))
      clear hd
      go_wp2_with fail
      refine bodyPost_ret (v := .agg #[.int .i64 q, .int .i64 ((v : Int) - 4)]) (by simp [results, Try.results52, go_sem, x3]) rfl ⟨⟨⟨q, (v : Int) - 4⟩, rfl, HV.out⟩, ?_, ?_⟩
      · exact SrcSt.move (SrcSt.more HS3.out (by omega)) (by rw [heap_set _ _ _ _ _ (by omega), heap_set _ _ _ _ _ (by omega)])
      · exact grown_far (grown_far G3.out (Nat.le_refl _) _ _) (Nat.le_refl _) _ _
    · have hd0 : (v2 : Int).tdiv 8 = 1 := by omega
      have HV : Hid (putB q 2147483647 = true) := putB_of hq (valB_even hodd (by omega))
      clear hd
      go_wp2_with fail
      refine bodyPost_ret (v := .agg #[.int .i64 q, .int .i64 2147483647]) (by simp [results, Try.results52, go_sem, x3]) rfl ⟨⟨⟨q, 2147483647⟩, rfl, HV.out⟩, ?_, ?_⟩
      · exact SrcSt.move (SrcSt.more HS3.out (by omega)) (by rw [heap_set _ _ _ _ _ (by omega), heap_set _ _ _ _ _ (by omega)])
      · exact grown_far (grown_far G3.out (Nat.le_refl _) _ _) (Nat.le_refl _) _ _
end Go.Proofs.Ytoahbfledamnnaa.G
