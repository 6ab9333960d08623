/- The specification's reader of documents: a selection, given its set: written by wip/tools/pssel.py. -/
import Derived.Test.YtlilfbcngncllaaGreatDoorPsSelS
namespace Go.Proofs.YtlilfbcngncllaaGreatDoor
open Go.ChangeShapes Go.WideShapes Go.ChangeAt Go.RowKit
set_option linter.unusedVariables false

set_option maxHeartbeats 16000000 in
set_option maxRecDepth 20000 in
theorem ps_sel (d : Nat) (hd : d < 1000) (hset : SetsOk d) : OneOk d := by
  intro D L c i a l dp w hD h hl hi
  have HG : Hid _ := hl
  have hln := hl.len
  have hLw := h.lt
  have HSET : Hid _ := hset
  have HD1 : Hid (D - 1 = d) := by rw [Hid, hD]; omega
  have HDB : Hid (-1000000 ≤ D ∧ D ≤ 9223372036854775807) := by rw [Hid, hD]; have := hd; omega
  obtain ⟨P, HP⟩ : ∃ z, Hid (z = pSel (d + 1) (l.drop i)) := ⟨_, rfl⟩
  rw [← HP.out]
  rw [pSel_at hl, Nat.add_sub_cancel] at HP
  obtain ⟨V1, hV1⟩ : ∃ V, V = w.alloc (.cells #[.int .i64 0, .string ⟨#[]⟩, .string ⟨#[]⟩, .slice none 0 0, .slice none 0 0, .slice none 0 0] 84) := ⟨_, rfl⟩
  obtain ⟨V2, hV2⟩ : ∃ V, V = V1.alloc (.cells #[] 103) := ⟨_, rfl⟩
  obtain ⟨V3, hV3⟩ : ∃ V, V = V2.alloc (.cells #[] 84) := ⟨_, rfl⟩
  obtain ⟨V, hV⟩ : ∃ V, V = V3.alloc (.cells #[.int .i64 1, .string ⟨#[]⟩, .string ⟨#[]⟩, .slice (some ⟨w.heap.size + 1, 0, none⟩) 0 0, .slice none 0 0, .slice (some ⟨w.heap.size + 1 + 1, 0, none⟩) 0 0] 84) := ⟨_, rfl⟩
  have z1 : V1.heap.size = w.heap.size + 1 := by rw [hV1]; simp
  have z2 : V2.heap.size = w.heap.size + 1 + 1 := by rw [hV2]; simp [z1]
  have z3 : V3.heap.size = w.heap.size + 1 + 1 + 1 := by rw [hV3]; simp [z2]
  have z4 : V.heap.size = w.heap.size + 1 + 1 + 1 + 1 := by rw [hV]; simp [z3]
  have B1 : Below w.heap.size w V1 := by rw [hV1]; exact (Below.refl _ _).alloc (Nat.le_refl _) _
  have B2 : Below V1.heap.size V1 V2 := by rw [hV2]; exact (Below.refl _ _).alloc (Nat.le_refl _) _
  have B3 : Below V2.heap.size V2 V3 := by rw [hV3]; exact (Below.refl _ _).alloc (Nat.le_refl _) _
  have B4 : Below V3.heap.size V3 V := by rw [hV]; exact (Below.refl _ _).alloc (Nat.le_refl _) _
  have BV : Below w.heap.size w V := B1.trans ((B2.mono (by omega)).trans ((B3.mono (by omega)).trans (B4.mono (by omega))))
  have S0 : Hid (SeS w L a c l i true dp #[.int .i64 1, .string ⟨#[]⟩, .string ⟨#[]⟩, .slice (some ⟨w.heap.size + 1, 0, none⟩) 0 0, .slice none 0 0, .slice (some ⟨w.heap.size + 1 + 1, 0, none⟩) 0 0] V) := by
    refine ⟨h.below BV, ?_, ?_, ?_, ?_, grown_below (grown_refl w _) BV, hLw, by omega⟩
    · exact (B4.block _ (by omega)).trans ((B3.block _ (by omega)).trans ((B2.block _ (by omega)).trans (by rw [hV1]; exact heap_alloc_new _ _)))
    · rw [← z3, hV]; exact heap_alloc_new _ _
    · exact (B4.block _ (by omega)).trans ((B3.block _ (by omega)).trans (by rw [← z1, hV2]; exact heap_alloc_new _ _))
    · exact (B4.block _ (by omega)).trans (by rw [← z2, hV3]; exact heap_alloc_new _ _)
  have HQ : Hid _ := rs_take ⟨#[46, 46, 46]⟩ L c i a l true dp V S0.out.rd (by omega)
  obtain ⟨r, HR⟩ : ∃ r, Hid (r = isB 4 ⟨#[46, 46, 46]⟩ l i) := ⟨_, rfl⟩
  have HP' : Hid (P = if r = true then fin d (pSpr l (i + 1)) else fin d (pFld l i)) := by rw [Hid, HP.out, HR.out, isB_tk HG.out.ok']
  rw [← HR.out] at HQ
  rw [hV3, hV2, hV1] at hV
  clear h hl hset BV hD HP hV1 hV2 hV3 B1 B2 B3 B4 z1 z2 z3 z4
  go_enter Tryz.func62, Tryz.ntmps62
  go_upto_region 2 with fail
  rw [← hV]
  clear hV
  go_wp2_with fail
  refine Calls.mono HQ.out ?_
  rintro e w1 ⟨rfl, s1, g1⟩
  have S1 : Hid _ := S0.out.call s1 g1
  clear s1 g1 HQ S0
  cases r with
  | true =>
    have HPS : Hid (P = fin d (pSpr l (i + 1))) := by rw [Hid, HP'.out, if_pos rfl]
    have hlt : i < l.length := isB_lt HR.out.symm
    obtain ⟨j1, hj1⟩ : ∃ z, z = i + 1 := ⟨_, rfl⟩
    have S2 : Hid (SeS w L a c l j1 true dp #[.int .i64 1, .string ⟨#[]⟩, .string ⟨#[]⟩, .slice (some ⟨w.heap.size + 1, 0, none⟩) 0 0, .slice none 0 0, .slice (some ⟨w.heap.size + 1 + 1, 0, none⟩) 0 0] w1) := by rw [hj1]; exact S1.out
    rw [← hj1] at HPS
    have lj1 : j1 ≤ l.length := by omega
    clear S1 HR HP' hj1 hlt
    have yx11 := fun o => row_cell S2.out.x o
    have fx11 := fun o => row_frozen S2.out.x o
    obtain ⟨X11, hX11⟩ : ∃ X : World, X = w1.setCell ⟨w.heap.size + 1 + 1 + 1, 0, none⟩ (.int .i64 3) := ⟨_, rfl⟩
    have zz11 : w1.heap.size ≤ X11.heap.size := by rw [hX11]; exact ((Below.refl 0 w1).setCell (p := ⟨w.heap.size + 1 + 1 + 1, 0, none⟩) (Nat.zero_le _) _).size
    have S11 : Hid (SeS w L a c l j1 true dp #[.int .i64 3, .string ⟨#[]⟩, .string ⟨#[]⟩, .slice (some ⟨w.heap.size + 1, 0, none⟩) 0 0, .slice none 0 0, .slice (some ⟨w.heap.size + 1 + 1, 0, none⟩) 0 0] X11) := by rw [Hid, hX11]; exact S2.out.put 0 _
    go_upto_region 4 with fail
    rw [← hX11]
    clear hX11 yx11 fx11 S2 
    have HQ4 : Hid _ := rs_is 1 ⟨#[111, 110]⟩ L c j1 a l true dp X11 S11.out.rd
    obtain ⟨r2, HR2⟩ : ∃ r, Hid (r = isB 1 ⟨#[111, 110]⟩ l j1) := ⟨_, rfl⟩
    rw [← HR2.out] at HQ4
    go_wp2_with fail
    refine Calls.mono HQ4.out ?_
    rintro e w4 ⟨rfl, n4, hw4⟩
    have S4 : Hid (SeS w L a c l j1 true dp #[.int .i64 3, .string ⟨#[]⟩, .string ⟨#[]⟩, .slice (some ⟨w.heap.size + 1, 0, none⟩) 0 0, .slice none 0 0, .slice (some ⟨w.heap.size + 1 + 1, 0, none⟩) 0 0] w4) := by rw [Hid, hw4]; exact S11.out.drewN n4
    clear hw4 HQ4 S11
    cases r2 with
    | true =>
      have hlt2 : j1 < l.length := isB_lt HR2.out.symm
      have xL := fun o => row_cell S4.out.rd.cell o
      have fL := fun o => row_frozen S4.out.rd.cell o
      have hi64 : (j1 : Int) + 1 ≤ 9223372036854775807 := by omega
      obtain ⟨j2, hj2⟩ : ∃ z, z = j1 + 1 := ⟨_, rfl⟩
      obtain ⟨X5, hX5⟩ : ∃ X : World, X = w4.setCell ⟨L, 1, none⟩ (.int .i64 ((j1 : Int) + 1)) := ⟨_, rfl⟩
      have S5 : Hid (SeS w L a c l j2 true dp #[.int .i64 3, .string ⟨#[]⟩, .string ⟨#[]⟩, .slice (some ⟨w.heap.size + 1, 0, none⟩) 0 0, .slice none 0 0, .slice (some ⟨w.heap.size + 1 + 1, 0, none⟩) 0 0] X5) := by rw [Hid, hX5, hj2, show (j1 : Int) + 1 = ((j1 + 1 : Nat) : Int) by omega]; exact S4.out.at_ (j1 + 1)
      have HJ2 : Hid (j2 = j1 + 1) := hj2
      have lj2 : j2 ≤ l.length := by omega
      go_upto_region 6 with fail
      rw [← hX5]
      clear hX5 xL fL hi64 S4 hj2 hlt2
      have HQ12 : Hid _ := rs_name L c j2 a l true dp X5 S5.out.rd (by omega)
      obtain ⟨b2, Hb2⟩ : ∃ z, Hid (z = nmB l j2) := ⟨_, rfl⟩
      obtain ⟨n2, Hn2⟩ : ∃ z, Hid (z = nmI l j2) := ⟨_, rfl⟩
      obtain ⟨p2, Hp2⟩ : ∃ z, Hid (z = adv b2 j2) := ⟨_, rfl⟩
      rw [← Hb2.out, ← Hn2.out, ← Hp2.out, Bool.and_true] at HQ12
      have lp2 : p2 ≤ l.length + 1 := by rw [Hp2.out, Hb2.out]; exact adv_nmB (by omega) (by omega)
      go_wp2_with fail
      refine Calls.mono HQ12.out ?_
      rintro e w13 ⟨rfl, s13, g13⟩
      have zz13 : X5.heap.size ≤ w13.heap.size := g13.size
      have S13 : Hid (SeS w L a c l p2 b2 dp #[.int .i64 3, .string ⟨#[]⟩, .string ⟨#[]⟩, .slice (some ⟨w.heap.size + 1, 0, none⟩) 0 0, .slice none 0 0, .slice (some ⟨w.heap.size + 1 + 1, 0, none⟩) 0 0] w13) := S5.out.call s13 g13
      clear s13 g13 HQ12 S5 
      have yx14 := fun o => row_cell S13.out.x o
      have fx14 := fun o => row_frozen S13.out.x o
      obtain ⟨X14, hX14⟩ : ∃ X : World, X = w13.setCell ⟨w.heap.size + 1 + 1 + 1, 2, none⟩ (.string n2) := ⟨_, rfl⟩
      have zz14 : w13.heap.size ≤ X14.heap.size := by rw [hX14]; exact ((Below.refl 0 w13).setCell (p := ⟨w.heap.size + 1 + 1 + 1, 2, none⟩) (Nat.zero_le _) _).size
      have S14 : Hid (SeS w L a c l p2 b2 dp #[.int .i64 3, .string ⟨#[]⟩, .string n2, .slice (some ⟨w.heap.size + 1, 0, none⟩) 0 0, .slice none 0 0, .slice (some ⟨w.heap.size + 1 + 1, 0, none⟩) 0 0] X14) := by rw [Hid, hX14]; exact S13.out.put 2 _
      go_upto_region 10 with fail
      rw [← hX14]
      clear hX14 yx14 fx14 S13 
      have HPR : Hid (pSpr l j1 = if b2 = true then (pDirs (l.drop p2)).map fun x => ((⟨3, ⟨#[]⟩, n2, [], x.1⟩ : Hd), true, x.2) else none) := spr_on HG.out HR2.out.symm (by rw [← HJ2.out]; exact Hb2.out) (by rw [← HJ2.out]; exact Hn2.out) (by rw [← HJ2.out]; exact Hp2.out)
      have hp2l : p2 ≤ l.length := by rw [Hp2.out, Hb2.out]; exact adv_nmB lj2 (Nat.le_refl _)
      clear HJ2 HR2 Hb2 Hn2 Hp2 lp2 lj2
      have HQ15 : Hid _ := ps_dirs L c p2 a l b2 dp X14 S14.out.rd HG.out (by omega) (fun _ => by omega)
      have hz15 := S14.out.hz
      go_wp2_with fail
      refine Calls.mono HQ15.out ?_
      rintro e w16 ⟨ds, jd, a4, c4, okD, rfl, o4, s16, AD, g16⟩
      have zz16 : X14.heap.size ≤ w16.heap.size := g16.size
      have S16 : Hid (SeS w L a c l jd okD dp #[.int .i64 3, .string ⟨#[]⟩, .string n2, .slice (some ⟨w.heap.size + 1, 0, none⟩) 0 0, .slice none 0 0, .slice (some ⟨w.heap.size + 1 + 1, 0, none⟩) 0 0] w16) := S14.out.call s16 g16
      have HAD : Hid _ := AD
      have O4 : Hid (w16.ownsRow X14.heap.size 105 4 (.slice a4 ds.length c4) ds.length (diVs ds)) := o4
      have ljd := AD.le
      have LO : True := trivial
      clear s16 g16 o4 AD HQ15 S14 
      have yx17 := fun o => row_cell S16.out.x o
      have fx17 := fun o => row_frozen S16.out.x o
      obtain ⟨X17, hX17⟩ : ∃ X : World, X = w16.setCell ⟨w.heap.size + 1 + 1 + 1, 4, none⟩ (.slice a4 ds.length c4) := ⟨_, rfl⟩
      have zz17 : w16.heap.size ≤ X17.heap.size := by rw [hX17]; exact ((Below.refl 0 w16).setCell (p := ⟨w.heap.size + 1 + 1 + 1, 4, none⟩) (Nat.zero_le _) _).size
      have S17 : Hid (SeS w L a c l jd okD dp #[.int .i64 3, .string ⟨#[]⟩, .string n2, .slice (some ⟨w.heap.size + 1, 0, none⟩) 0 0, .slice a4 ds.length c4, .slice (some ⟨w.heap.size + 1 + 1, 0, none⟩) 0 0] X17) := by rw [Hid, hX17]; exact S16.out.put 4 _
      have O4_17 : Hid (World.ownsRow X17 X14.heap.size 105 4 (.slice a4 ds.length c4) ds.length (diVs ds)) := by rw [Hid, hX17]; exact own_far O4.out (by omega)
      go_upto_region 11 with fail
      rw [← hX17]
      clear hX17 yx17 fx17 S16 O4
      have yk18 := fun o => row_cell S17.out.x o
      go_upto_region 12 with fail
      clear yk18
      have LD : Hid (∀ g, (Value.slice a4 ds.length c4).ownBlock = some g → g < X17.heap.size) := fun g hg => (World.ownsRow.lt O4_17.out g hg).2
      have HQ19 : Hid _ := HSET.out (D - 1) L c jd a l okD dp X17 HD1.out S17.out.rd HG.out (by omega) (fun q => (HAD.out.yes q).2.1)
      have hz19 := S17.out.hz
      have hdb := HDB.out
      go_wp2_with fail
      refine Calls.mono HQ19.out ?_
      rintro e w20 ⟨sb, js, a5, c5, okS, dpS, rfl, ⟨ws5, bk5, o5⟩, s20, AS, g20⟩
      have zz20 : X17.heap.size ≤ w20.heap.size := g20.size
      have S20 : Hid (SeS w L a c l js okS dpS #[.int .i64 3, .string ⟨#[]⟩, .string n2, .slice (some ⟨w.heap.size + 1, 0, none⟩) 0 0, .slice a4 ds.length c4, .slice (some ⟨w.heap.size + 1 + 1, 0, none⟩) 0 0] w20) := S17.out.call s20 g20
      have O4_17_20 : Hid (World.ownsRow w20 X14.heap.size 105 4 (.slice a4 ds.length c4) ds.length (diVs ds)) := own_grown O4_17.out g20 (by omega)
      have HAS : Hid _ := AS
      have R5 : Hid (RowK X17.heap.size w20 (.slice a5 sb.len c5) sb ws5 bk5) := o5
      clear s20 g20 o5 AS HQ19 S17 O4_17
      have yx21 := fun o => row_cell S20.out.x o
      have fx21 := fun o => row_frozen S20.out.x o
      obtain ⟨X21, hX21⟩ : ∃ X : World, X = w20.setCell ⟨w.heap.size + 1 + 1 + 1, 5, none⟩ (.slice a5 sb.len c5) := ⟨_, rfl⟩
      have zz21 : w20.heap.size ≤ X21.heap.size := by rw [hX21]; exact ((Below.refl 0 w20).setCell (p := ⟨w.heap.size + 1 + 1 + 1, 5, none⟩) (Nat.zero_le _) _).size
      have S21 : Hid (SeS w L a c l js okS dpS #[.int .i64 3, .string ⟨#[]⟩, .string n2, .slice (some ⟨w.heap.size + 1, 0, none⟩) 0 0, .slice a4 ds.length c4, .slice a5 sb.len c5] X21) := by rw [Hid, hX21]; exact S20.out.put 5 _
      have O4_17_20_21 : Hid (World.ownsRow X21 X14.heap.size 105 4 (.slice a4 ds.length c4) ds.length (diVs ds)) := by rw [Hid, hX21]; exact own_far O4_17_20.out (by omega)
      have R5_21 : Hid (RowK X17.heap.size X21 (.slice a5 sb.len c5) sb ws5 bk5) := by rw [Hid, hX21]; exact R5.out.far (by omega)
      go_upto_region 13 with fail
      rw [← hX21]
      clear hX21 yx21 fx21 S20 O4_17_20 R5
      have zs18 := S21.out.hz
      have HO : Hid (OneB (w.heap.size + 1) X21 ⟨3, ⟨#[]⟩, n2, [], ds⟩ sb (.slice (some ⟨w.heap.size + 1, 0, none⟩) 0 0) (.slice a4 ds.length c4) (.slice a5 sb.len c5)) := one_a S21.out O4_17_20_21.out LD.out R5_21.out (by omega) (by omega) (by omega)
      have HA : Hid (Af P l true dp okS dpS (⟨3, ⟨#[]⟩, n2, [], ds⟩, sb) js) := by rw [Hid, HPS.out]; exact sel_inl (fun ds => (⟨3, ⟨#[]⟩, n2, [], ds⟩ : Hd)) HPR.out HAD.out HAS.out
      have HDN : Hid _ := S21.out.done HO.out
      have yx := fun o => row_cell S21.out.x o
      have yr := fun o => row_cell S21.out.r o
      have fr := fun o => row_frozen S21.out.r o
      clear S21 HO O4_17_20_21 R5_21
      go_wp2_with fail
      exact bodyPost_ret (v := .agg #[.int .i64 3, .string ⟨#[]⟩, .string n2, .slice (some ⟨w.heap.size + 1, 0, none⟩) 0 0, .slice a4 ds.length c4, .slice a5 sb.len c5]) (results_selS _ _ w.heap.size _ rfl HDN.out.2.2.2 rfl) rfl ⟨⟨3, ⟨#[]⟩, n2, [], ds⟩, sb, _, _, _, _, _, _, _, _, _, rfl, HDN.out.2.1, HDN.out.1, HA.out, HDN.out.2.2.1⟩
    | false =>
      have c0 : w4.cell? ⟨L, 0, none⟩ = some (.slice a l.length c) := row_cell S4.out.rd.cell 0
      have c1 : w4.cell? ⟨L, 1, none⟩ = some (.int .i64 j1) := row_cell S4.out.rd.cell 1
      by_cases hlt : j1 < l.length
      case neg =>
        have hltb : decide (j1 < l.length) = false := decide_eq_false hlt
        have HNB : Hid (nmB l j1 = false) := by rw [Hid]; unfold nmB; rw [hltb]; rfl
        clear hlt
        go_wp2_with fail
        go_quiet (fail)
        clear c0 c1 hltb
        have S7 : Hid (SeS w L a c l j1 true dp #[.int .i64 3, .string ⟨#[]⟩, .string ⟨#[]⟩, .slice (some ⟨w.heap.size + 1, 0, none⟩) 0 0, .slice none 0 0, .slice (some ⟨w.heap.size + 1 + 1, 0, none⟩) 0 0] (w4.drewN nq)) := S4.out.drewN nq
        have HPR : Hid (pSpr l j1 = (pDirs (l.drop j1)).map fun x => ((⟨3, ⟨#[]⟩, ⟨#[]⟩, [], x.1⟩ : Hd), true, x.2)) := by rw [Hid, spr_bare HG.out HNB.out, if_pos rfl]
        obtain ⟨w7, hw7⟩ : ∃ z : World, z = w4.drewN nq := ⟨_, rfl⟩
        rw [← hw7] at S7 ⊢
        clear hw7 S4 HR2 HNB
        go_upto_region 10 with fail
        have HQ22 : Hid _ := ps_dirs L c j1 a l true dp w7 S7.out.rd HG.out (by omega) (fun _ => by omega)
        have hz22 := S7.out.hz
        go_wp2_with fail
        refine Calls.mono HQ22.out ?_
        rintro e w23 ⟨ds, jd, a4, c4, okD, rfl, o4, s23, AD, g23⟩
        have zz23 : w7.heap.size ≤ w23.heap.size := g23.size
        have S23 : Hid (SeS w L a c l jd okD dp #[.int .i64 3, .string ⟨#[]⟩, .string ⟨#[]⟩, .slice (some ⟨w.heap.size + 1, 0, none⟩) 0 0, .slice none 0 0, .slice (some ⟨w.heap.size + 1 + 1, 0, none⟩) 0 0] w23) := S7.out.call s23 g23
        have HAD : Hid _ := AD
        have O4 : Hid (w23.ownsRow w7.heap.size 105 4 (.slice a4 ds.length c4) ds.length (diVs ds)) := o4
        have ljd := AD.le
        have LO : True := trivial
        clear s23 g23 o4 AD HQ22 S7 
        have yx24 := fun o => row_cell S23.out.x o
        have fx24 := fun o => row_frozen S23.out.x o
        obtain ⟨X24, hX24⟩ : ∃ X : World, X = w23.setCell ⟨w.heap.size + 1 + 1 + 1, 4, none⟩ (.slice a4 ds.length c4) := ⟨_, rfl⟩
        have zz24 : w23.heap.size ≤ X24.heap.size := by rw [hX24]; exact ((Below.refl 0 w23).setCell (p := ⟨w.heap.size + 1 + 1 + 1, 4, none⟩) (Nat.zero_le _) _).size
        have S24 : Hid (SeS w L a c l jd okD dp #[.int .i64 3, .string ⟨#[]⟩, .string ⟨#[]⟩, .slice (some ⟨w.heap.size + 1, 0, none⟩) 0 0, .slice a4 ds.length c4, .slice (some ⟨w.heap.size + 1 + 1, 0, none⟩) 0 0] X24) := by rw [Hid, hX24]; exact S23.out.put 4 _
        have O4_24 : Hid (World.ownsRow X24 w7.heap.size 105 4 (.slice a4 ds.length c4) ds.length (diVs ds)) := by rw [Hid, hX24]; exact own_far O4.out (by omega)
        go_upto_region 11 with fail
        rw [← hX24]
        clear hX24 yx24 fx24 S23 O4
        have yk25 := fun o => row_cell S24.out.x o
        go_upto_region 12 with fail
        clear yk25
        have LD : Hid (∀ g, (Value.slice a4 ds.length c4).ownBlock = some g → g < X24.heap.size) := fun g hg => (World.ownsRow.lt O4_24.out g hg).2
        have HQ26 : Hid _ := HSET.out (D - 1) L c jd a l okD dp X24 HD1.out S24.out.rd HG.out (by omega) (fun q => (HAD.out.yes q).2.1)
        have hz26 := S24.out.hz
        have hdb := HDB.out
        go_wp2_with fail
        refine Calls.mono HQ26.out ?_
        rintro e w27 ⟨sb, js, a5, c5, okS, dpS, rfl, ⟨ws5, bk5, o5⟩, s27, AS, g27⟩
        have zz27 : X24.heap.size ≤ w27.heap.size := g27.size
        have S27 : Hid (SeS w L a c l js okS dpS #[.int .i64 3, .string ⟨#[]⟩, .string ⟨#[]⟩, .slice (some ⟨w.heap.size + 1, 0, none⟩) 0 0, .slice a4 ds.length c4, .slice (some ⟨w.heap.size + 1 + 1, 0, none⟩) 0 0] w27) := S24.out.call s27 g27
        have O4_24_27 : Hid (World.ownsRow w27 w7.heap.size 105 4 (.slice a4 ds.length c4) ds.length (diVs ds)) := own_grown O4_24.out g27 (by omega)
        have HAS : Hid _ := AS
        have R5 : Hid (RowK X24.heap.size w27 (.slice a5 sb.len c5) sb ws5 bk5) := o5
        clear s27 g27 o5 AS HQ26 S24 O4_24
        have yx28 := fun o => row_cell S27.out.x o
        have fx28 := fun o => row_frozen S27.out.x o
        obtain ⟨X28, hX28⟩ : ∃ X : World, X = w27.setCell ⟨w.heap.size + 1 + 1 + 1, 5, none⟩ (.slice a5 sb.len c5) := ⟨_, rfl⟩
        have zz28 : w27.heap.size ≤ X28.heap.size := by rw [hX28]; exact ((Below.refl 0 w27).setCell (p := ⟨w.heap.size + 1 + 1 + 1, 5, none⟩) (Nat.zero_le _) _).size
        have S28 : Hid (SeS w L a c l js okS dpS #[.int .i64 3, .string ⟨#[]⟩, .string ⟨#[]⟩, .slice (some ⟨w.heap.size + 1, 0, none⟩) 0 0, .slice a4 ds.length c4, .slice a5 sb.len c5] X28) := by rw [Hid, hX28]; exact S27.out.put 5 _
        have O4_24_27_28 : Hid (World.ownsRow X28 w7.heap.size 105 4 (.slice a4 ds.length c4) ds.length (diVs ds)) := by rw [Hid, hX28]; exact own_far O4_24_27.out (by omega)
        have R5_28 : Hid (RowK X24.heap.size X28 (.slice a5 sb.len c5) sb ws5 bk5) := by rw [Hid, hX28]; exact R5.out.far (by omega)
        go_upto_region 13 with fail
        rw [← hX28]
        clear hX28 yx28 fx28 S27 O4_24_27 R5
        have zs25 := S28.out.hz
        have HO : Hid (OneB (w.heap.size + 1) X28 ⟨3, ⟨#[]⟩, ⟨#[]⟩, [], ds⟩ sb (.slice (some ⟨w.heap.size + 1, 0, none⟩) 0 0) (.slice a4 ds.length c4) (.slice a5 sb.len c5)) := one_a S28.out O4_24_27_28.out LD.out R5_28.out (by omega) (by omega) (by omega)
        have HA : Hid (Af P l true dp okS dpS (⟨3, ⟨#[]⟩, ⟨#[]⟩, [], ds⟩, sb) js) := by rw [Hid, HPS.out]; exact sel_inl (fun ds => (⟨3, ⟨#[]⟩, ⟨#[]⟩, [], ds⟩ : Hd)) (by rw [if_pos rfl]; exact HPR.out) HAD.out HAS.out
        have HDN : Hid _ := S28.out.done HO.out
        have yx := fun o => row_cell S28.out.x o
        have yr := fun o => row_cell S28.out.r o
        have fr := fun o => row_frozen S28.out.r o
        clear S28 HO O4_24_27_28 R5_28
        go_wp2_with fail
        exact bodyPost_ret (v := .agg #[.int .i64 3, .string ⟨#[]⟩, .string ⟨#[]⟩, .slice (some ⟨w.heap.size + 1, 0, none⟩) 0 0, .slice a4 ds.length c4, .slice a5 sb.len c5]) (results_selS _ _ w.heap.size _ rfl HDN.out.2.2.2 rfl) rfl ⟨⟨3, ⟨#[]⟩, ⟨#[]⟩, [], ds⟩, sb, _, _, _, _, _, _, _, _, _, rfl, HDN.out.2.1, HDN.out.1, HA.out, HDN.out.2.2.1⟩
      case pos =>
        have hltb : decide (j1 < l.length) = true := decide_eq_true hlt
        have hlt' : (j1 : Int) < l.length := by omega
        obtain ⟨bb, oo, ha, _, hbL, d0, d1, d2⟩ := S4.out.rd.row.at_ j1 hlt
        subst ha
        replace d0 : w4.cell? ⟨bb, oo + j1 * 3, none⟩ = some (.int .i64 l[j1].k) := d0
        have hnx : nxT l j1 = l[j1] := by unfold nxT; rw [List.getElem?_eq_getElem hlt]
        have HNK : Hid (nmB l j1 = (l[j1].k == 1)) := by rw [Hid]; unfold nmB; rw [hltb, hnx]; rfl
        obtain ⟨kk, hkk⟩ : ∃ z, z = l[j1].k := ⟨_, rfl⟩
        rw [← hkk] at d0 HNK
        have HLT : Hid (j1 < l.length) := hlt
        clear d1 d2 hbL hnx hkk hlt
        cases hk : (kk == 1) with
        | false =>
          have HNB : Hid (nmB l j1 = false) := by rw [Hid, HNK.out, hk]
          clear HNK HLT
          go_wp2_with fail
          go_quiet (fail)
          clear c0 c1 hltb hlt' d0 hk
          have S7 : Hid (SeS w L (some ⟨bb, oo, none⟩) c l j1 true dp #[.int .i64 3, .string ⟨#[]⟩, .string ⟨#[]⟩, .slice (some ⟨w.heap.size + 1, 0, none⟩) 0 0, .slice none 0 0, .slice (some ⟨w.heap.size + 1 + 1, 0, none⟩) 0 0] (w4.drewN nq)) := S4.out.drewN nq
          have HPR : Hid (pSpr l j1 = (pDirs (l.drop j1)).map fun x => ((⟨3, ⟨#[]⟩, ⟨#[]⟩, [], x.1⟩ : Hd), true, x.2)) := by rw [Hid, spr_bare HG.out HNB.out, if_pos rfl]
          obtain ⟨w7, hw7⟩ : ∃ z : World, z = w4.drewN nq := ⟨_, rfl⟩
          rw [← hw7] at S7 ⊢
          clear hw7 S4 HR2 HNB
          go_upto_region 10 with fail
          have HQ29 : Hid _ := ps_dirs L c j1 (some ⟨bb, oo, none⟩) l true dp w7 S7.out.rd HG.out (by omega) (fun _ => by omega)
          have hz29 := S7.out.hz
          go_wp2_with fail
          refine Calls.mono HQ29.out ?_
          rintro e w30 ⟨ds, jd, a4, c4, okD, rfl, o4, s30, AD, g30⟩
          have zz30 : w7.heap.size ≤ w30.heap.size := g30.size
          have S30 : Hid (SeS w L (some ⟨bb, oo, none⟩) c l jd okD dp #[.int .i64 3, .string ⟨#[]⟩, .string ⟨#[]⟩, .slice (some ⟨w.heap.size + 1, 0, none⟩) 0 0, .slice none 0 0, .slice (some ⟨w.heap.size + 1 + 1, 0, none⟩) 0 0] w30) := S7.out.call s30 g30
          have HAD : Hid _ := AD
          have O4 : Hid (w30.ownsRow w7.heap.size 105 4 (.slice a4 ds.length c4) ds.length (diVs ds)) := o4
          have ljd := AD.le
          have LO : True := trivial
          clear s30 g30 o4 AD HQ29 S7 
          have yx31 := fun o => row_cell S30.out.x o
          have fx31 := fun o => row_frozen S30.out.x o
          obtain ⟨X31, hX31⟩ : ∃ X : World, X = w30.setCell ⟨w.heap.size + 1 + 1 + 1, 4, none⟩ (.slice a4 ds.length c4) := ⟨_, rfl⟩
          have zz31 : w30.heap.size ≤ X31.heap.size := by rw [hX31]; exact ((Below.refl 0 w30).setCell (p := ⟨w.heap.size + 1 + 1 + 1, 4, none⟩) (Nat.zero_le _) _).size
          have S31 : Hid (SeS w L (some ⟨bb, oo, none⟩) c l jd okD dp #[.int .i64 3, .string ⟨#[]⟩, .string ⟨#[]⟩, .slice (some ⟨w.heap.size + 1, 0, none⟩) 0 0, .slice a4 ds.length c4, .slice (some ⟨w.heap.size + 1 + 1, 0, none⟩) 0 0] X31) := by rw [Hid, hX31]; exact S30.out.put 4 _
          have O4_31 : Hid (World.ownsRow X31 w7.heap.size 105 4 (.slice a4 ds.length c4) ds.length (diVs ds)) := by rw [Hid, hX31]; exact own_far O4.out (by omega)
          go_upto_region 11 with fail
          rw [← hX31]
          clear hX31 yx31 fx31 S30 O4
          have yk32 := fun o => row_cell S31.out.x o
          go_upto_region 12 with fail
          clear yk32
          have LD : Hid (∀ g, (Value.slice a4 ds.length c4).ownBlock = some g → g < X31.heap.size) := fun g hg => (World.ownsRow.lt O4_31.out g hg).2
          have HQ33 : Hid _ := HSET.out (D - 1) L c jd (some ⟨bb, oo, none⟩) l okD dp X31 HD1.out S31.out.rd HG.out (by omega) (fun q => (HAD.out.yes q).2.1)
          have hz33 := S31.out.hz
          have hdb := HDB.out
          go_wp2_with fail
          refine Calls.mono HQ33.out ?_
          rintro e w34 ⟨sb, js, a5, c5, okS, dpS, rfl, ⟨ws5, bk5, o5⟩, s34, AS, g34⟩
          have zz34 : X31.heap.size ≤ w34.heap.size := g34.size
          have S34 : Hid (SeS w L (some ⟨bb, oo, none⟩) c l js okS dpS #[.int .i64 3, .string ⟨#[]⟩, .string ⟨#[]⟩, .slice (some ⟨w.heap.size + 1, 0, none⟩) 0 0, .slice a4 ds.length c4, .slice (some ⟨w.heap.size + 1 + 1, 0, none⟩) 0 0] w34) := S31.out.call s34 g34
          have O4_31_34 : Hid (World.ownsRow w34 w7.heap.size 105 4 (.slice a4 ds.length c4) ds.length (diVs ds)) := own_grown O4_31.out g34 (by omega)
          have HAS : Hid _ := AS
          have R5 : Hid (RowK X31.heap.size w34 (.slice a5 sb.len c5) sb ws5 bk5) := o5
          clear s34 g34 o5 AS HQ33 S31 O4_31
          have yx35 := fun o => row_cell S34.out.x o
          have fx35 := fun o => row_frozen S34.out.x o
          obtain ⟨X35, hX35⟩ : ∃ X : World, X = w34.setCell ⟨w.heap.size + 1 + 1 + 1, 5, none⟩ (.slice a5 sb.len c5) := ⟨_, rfl⟩
          have zz35 : w34.heap.size ≤ X35.heap.size := by rw [hX35]; exact ((Below.refl 0 w34).setCell (p := ⟨w.heap.size + 1 + 1 + 1, 5, none⟩) (Nat.zero_le _) _).size
          have S35 : Hid (SeS w L (some ⟨bb, oo, none⟩) c l js okS dpS #[.int .i64 3, .string ⟨#[]⟩, .string ⟨#[]⟩, .slice (some ⟨w.heap.size + 1, 0, none⟩) 0 0, .slice a4 ds.length c4, .slice a5 sb.len c5] X35) := by rw [Hid, hX35]; exact S34.out.put 5 _
          have O4_31_34_35 : Hid (World.ownsRow X35 w7.heap.size 105 4 (.slice a4 ds.length c4) ds.length (diVs ds)) := by rw [Hid, hX35]; exact own_far O4_31_34.out (by omega)
          have R5_35 : Hid (RowK X31.heap.size X35 (.slice a5 sb.len c5) sb ws5 bk5) := by rw [Hid, hX35]; exact R5.out.far (by omega)
          go_upto_region 13 with fail
          rw [← hX35]
          clear hX35 yx35 fx35 S34 O4_31_34 R5
          have zs32 := S35.out.hz
          have HO : Hid (OneB (w.heap.size + 1) X35 ⟨3, ⟨#[]⟩, ⟨#[]⟩, [], ds⟩ sb (.slice (some ⟨w.heap.size + 1, 0, none⟩) 0 0) (.slice a4 ds.length c4) (.slice a5 sb.len c5)) := one_a S35.out O4_31_34_35.out LD.out R5_35.out (by omega) (by omega) (by omega)
          have HA : Hid (Af P l true dp okS dpS (⟨3, ⟨#[]⟩, ⟨#[]⟩, [], ds⟩, sb) js) := by rw [Hid, HPS.out]; exact sel_inl (fun ds => (⟨3, ⟨#[]⟩, ⟨#[]⟩, [], ds⟩ : Hd)) (by rw [if_pos rfl]; exact HPR.out) HAD.out HAS.out
          have HDN : Hid _ := S35.out.done HO.out
          have yx := fun o => row_cell S35.out.x o
          have yr := fun o => row_cell S35.out.r o
          have fr := fun o => row_frozen S35.out.r o
          clear S35 HO O4_31_34_35 R5_35
          go_wp2_with fail
          exact bodyPost_ret (v := .agg #[.int .i64 3, .string ⟨#[]⟩, .string ⟨#[]⟩, .slice (some ⟨w.heap.size + 1, 0, none⟩) 0 0, .slice a4 ds.length c4, .slice a5 sb.len c5]) (results_selS _ _ w.heap.size _ rfl HDN.out.2.2.2 rfl) rfl ⟨⟨3, ⟨#[]⟩, ⟨#[]⟩, [], ds⟩, sb, _, _, _, _, _, _, _, _, _, rfl, HDN.out.2.1, HDN.out.1, HA.out, HDN.out.2.2.1⟩
        | true =>
          have HNB : Hid (nmB l j1 = true) := by rw [Hid, HNK.out, hk]
          clear HNK
          go_wp2_with fail
          go_quiet (fail)
          clear c0 c1 hltb hlt' d0 hk
          have S7 : Hid (SeS w L (some ⟨bb, oo, none⟩) c l j1 true dp #[.int .i64 3, .string ⟨#[]⟩, .string ⟨#[]⟩, .slice (some ⟨w.heap.size + 1, 0, none⟩) 0 0, .slice none 0 0, .slice (some ⟨w.heap.size + 1 + 1, 0, none⟩) 0 0] (w4.drewN nq)) := S4.out.drewN nq
          obtain ⟨w7, hw7⟩ : ∃ z : World, z = w4.drewN nq := ⟨_, rfl⟩
          rw [← hw7] at S7 ⊢
          clear hw7 S4
          go_upto_region 8 with fail
          have yx36 := fun o => row_cell S7.out.x o
          have fx36 := fun o => row_frozen S7.out.x o
          obtain ⟨X36, hX36⟩ : ∃ X : World, X = w7.setCell ⟨w.heap.size + 1 + 1 + 1, 0, none⟩ (.int .i64 2) := ⟨_, rfl⟩
          have zz36 : w7.heap.size ≤ X36.heap.size := by rw [hX36]; exact ((Below.refl 0 w7).setCell (p := ⟨w.heap.size + 1 + 1 + 1, 0, none⟩) (Nat.zero_le _) _).size
          have S36 : Hid (SeS w L (some ⟨bb, oo, none⟩) c l j1 true dp #[.int .i64 2, .string ⟨#[]⟩, .string ⟨#[]⟩, .slice (some ⟨w.heap.size + 1, 0, none⟩) 0 0, .slice none 0 0, .slice (some ⟨w.heap.size + 1 + 1, 0, none⟩) 0 0] X36) := by rw [Hid, hX36]; exact S7.out.put 0 _
          go_upto_region 9 with fail
          rw [← hX36]
          clear hX36 yx36 fx36 S7 
          have HQ37 : Hid _ := rs_name L c j1 (some ⟨bb, oo, none⟩) l true dp X36 S36.out.rd (by omega)
          obtain ⟨b2, Hb2⟩ : ∃ z, Hid (z = nmB l j1) := ⟨_, rfl⟩
          obtain ⟨n2, Hn2⟩ : ∃ z, Hid (z = nmI l j1) := ⟨_, rfl⟩
          obtain ⟨p2, Hp2⟩ : ∃ z, Hid (z = adv b2 j1) := ⟨_, rfl⟩
          rw [← Hb2.out, ← Hn2.out, ← Hp2.out, Bool.and_true] at HQ37
          have lp2 : p2 ≤ l.length + 1 := by rw [Hp2.out, Hb2.out]; exact adv_nmB (by omega) (by omega)
          go_wp2_with fail
          refine Calls.mono HQ37.out ?_
          rintro e w38 ⟨rfl, s38, g38⟩
          have zz38 : X36.heap.size ≤ w38.heap.size := g38.size
          have S38 : Hid (SeS w L (some ⟨bb, oo, none⟩) c l p2 b2 dp #[.int .i64 2, .string ⟨#[]⟩, .string ⟨#[]⟩, .slice (some ⟨w.heap.size + 1, 0, none⟩) 0 0, .slice none 0 0, .slice (some ⟨w.heap.size + 1 + 1, 0, none⟩) 0 0] w38) := S36.out.call s38 g38
          clear s38 g38 HQ37 S36 
          have yx39 := fun o => row_cell S38.out.x o
          have fx39 := fun o => row_frozen S38.out.x o
          obtain ⟨X39, hX39⟩ : ∃ X : World, X = w38.setCell ⟨w.heap.size + 1 + 1 + 1, 2, none⟩ (.string n2) := ⟨_, rfl⟩
          have zz39 : w38.heap.size ≤ X39.heap.size := by rw [hX39]; exact ((Below.refl 0 w38).setCell (p := ⟨w.heap.size + 1 + 1 + 1, 2, none⟩) (Nat.zero_le _) _).size
          have S39 : Hid (SeS w L (some ⟨bb, oo, none⟩) c l p2 b2 dp #[.int .i64 2, .string ⟨#[]⟩, .string n2, .slice (some ⟨w.heap.size + 1, 0, none⟩) 0 0, .slice none 0 0, .slice (some ⟨w.heap.size + 1 + 1, 0, none⟩) 0 0] X39) := by rw [Hid, hX39]; exact S38.out.put 2 _
          go_upto_region 10 with fail
          rw [← hX39]
          clear hX39 yx39 fx39 S38 
          have hb2 : b2 = true := by rw [Hb2.out]; exact HNB.out
          have hp2 : p2 = j1 + 1 := by rw [Hp2.out, hb2]; rfl
          have hlt' := HLT.out
          have hp2l : p2 ≤ l.length := by omega
          have HPR : Hid (pSpr l j1 = if b2 = true then (pDirs (l.drop p2)).map fun x => ((⟨2, ⟨#[]⟩, n2, [], x.1⟩ : Hd), false, x.2) else none) := by rw [Hid, hb2, hp2]; exact spr_name HG.out HR2.out.symm HNB.out Hn2.out
          clear hb2 hp2 hlt' HR2 HNB Hb2 Hn2 Hp2 lp2
          have HQ40 : Hid _ := ps_dirs L c p2 (some ⟨bb, oo, none⟩) l b2 dp X39 S39.out.rd HG.out (by omega) (fun _ => by omega)
          have hz40 := S39.out.hz
          go_wp2_with fail
          refine Calls.mono HQ40.out ?_
          rintro e w41 ⟨ds, jd, a4, c4, okD, rfl, o4, s41, AD, g41⟩
          have zz41 : X39.heap.size ≤ w41.heap.size := g41.size
          have S41 : Hid (SeS w L (some ⟨bb, oo, none⟩) c l jd okD dp #[.int .i64 2, .string ⟨#[]⟩, .string n2, .slice (some ⟨w.heap.size + 1, 0, none⟩) 0 0, .slice none 0 0, .slice (some ⟨w.heap.size + 1 + 1, 0, none⟩) 0 0] w41) := S39.out.call s41 g41
          have HAD : Hid _ := AD
          have O4 : Hid (w41.ownsRow X39.heap.size 105 4 (.slice a4 ds.length c4) ds.length (diVs ds)) := o4
          have ljd := AD.le
          have LO : True := trivial
          clear s41 g41 o4 AD HQ40 S39 
          have yx42 := fun o => row_cell S41.out.x o
          have fx42 := fun o => row_frozen S41.out.x o
          obtain ⟨X42, hX42⟩ : ∃ X : World, X = w41.setCell ⟨w.heap.size + 1 + 1 + 1, 4, none⟩ (.slice a4 ds.length c4) := ⟨_, rfl⟩
          have zz42 : w41.heap.size ≤ X42.heap.size := by rw [hX42]; exact ((Below.refl 0 w41).setCell (p := ⟨w.heap.size + 1 + 1 + 1, 4, none⟩) (Nat.zero_le _) _).size
          have S42 : Hid (SeS w L (some ⟨bb, oo, none⟩) c l jd okD dp #[.int .i64 2, .string ⟨#[]⟩, .string n2, .slice (some ⟨w.heap.size + 1, 0, none⟩) 0 0, .slice a4 ds.length c4, .slice (some ⟨w.heap.size + 1 + 1, 0, none⟩) 0 0] X42) := by rw [Hid, hX42]; exact S41.out.put 4 _
          have O4_42 : Hid (World.ownsRow X42 X39.heap.size 105 4 (.slice a4 ds.length c4) ds.length (diVs ds)) := by rw [Hid, hX42]; exact own_far O4.out (by omega)
          go_upto_region 11 with fail
          rw [← hX42]
          clear hX42 yx42 fx42 S41 O4
          have yk43 := fun o => row_cell S42.out.x o
          go_upto_region 13 with fail
          clear yk43
          have HO : Hid (OneB (w.heap.size + 1) X42 ⟨2, ⟨#[]⟩, n2, [], ds⟩ .nil (.slice (some ⟨w.heap.size + 1, 0, none⟩) 0 0) (.slice a4 ds.length c4) (.slice (some ⟨w.heap.size + 1 + 1, 0, none⟩) 0 0)) := one_b S42.out O4_42.out (by omega)
          have HA : Hid (Af P l true dp okD dp (⟨2, ⟨#[]⟩, n2, [], ds⟩, .nil) jd) := by rw [Hid, HPS.out]; exact sel_spr (fun ds => (⟨2, ⟨#[]⟩, n2, [], ds⟩ : Hd)) HPR.out HAD.out
          have HDN : Hid _ := S42.out.done HO.out
          have yx := fun o => row_cell S42.out.x o
          have yr := fun o => row_cell S42.out.r o
          have fr := fun o => row_frozen S42.out.r o
          clear S42 HO O4_42
          go_wp2_with fail
          exact bodyPost_ret (v := .agg #[.int .i64 2, .string ⟨#[]⟩, .string n2, .slice (some ⟨w.heap.size + 1, 0, none⟩) 0 0, .slice a4 ds.length c4, .slice (some ⟨w.heap.size + 1 + 1, 0, none⟩) 0 0]) (results_selS _ _ w.heap.size _ rfl HDN.out.2.2.2 rfl) rfl ⟨⟨2, ⟨#[]⟩, n2, [], ds⟩, .nil, _, _, _, _, _, _, _, _, _, rfl, HDN.out.2.1, HDN.out.1, HA.out, HDN.out.2.2.1⟩
  | false =>
    have HPF : Hid (P = fin d (pFld l i)) := by rw [Hid, HP'.out, if_neg (by decide)]
    have S2 : Hid (SeS w L a c l i true dp #[.int .i64 1, .string ⟨#[]⟩, .string ⟨#[]⟩, .slice (some ⟨w.heap.size + 1, 0, none⟩) 0 0, .slice none 0 0, .slice (some ⟨w.heap.size + 1 + 1, 0, none⟩) 0 0] w1) := S1.out
    clear S1 HR HP'
    go_upto_region 14 with fail
    have HQ44 : Hid _ := rs_name L c i a l true dp w1 S2.out.rd (by omega)
    obtain ⟨b1, Hb1⟩ : ∃ z, Hid (z = nmB l i) := ⟨_, rfl⟩
    obtain ⟨n1, Hn1⟩ : ∃ z, Hid (z = nmI l i) := ⟨_, rfl⟩
    obtain ⟨p1, Hp1⟩ : ∃ z, Hid (z = adv b1 i) := ⟨_, rfl⟩
    rw [← Hb1.out, ← Hn1.out, ← Hp1.out, Bool.and_true] at HQ44
    have lp1 : p1 ≤ l.length + 1 := by rw [Hp1.out, Hb1.out]; exact adv_nmB (by omega) (by omega)
    go_wp2_with fail
    refine Calls.mono HQ44.out ?_
    rintro e w45 ⟨rfl, s45, g45⟩
    have zz45 : w1.heap.size ≤ w45.heap.size := g45.size
    have S45 : Hid (SeS w L a c l p1 b1 dp #[.int .i64 1, .string ⟨#[]⟩, .string ⟨#[]⟩, .slice (some ⟨w.heap.size + 1, 0, none⟩) 0 0, .slice none 0 0, .slice (some ⟨w.heap.size + 1 + 1, 0, none⟩) 0 0] w45) := S2.out.call s45 g45
    clear s45 g45 HQ44 S2 
    have yx46 := fun o => row_cell S45.out.x o
    have fx46 := fun o => row_frozen S45.out.x o
    obtain ⟨X46, hX46⟩ : ∃ X : World, X = w45.setCell ⟨w.heap.size + 1 + 1 + 1, 2, none⟩ (.string n1) := ⟨_, rfl⟩
    have zz46 : w45.heap.size ≤ X46.heap.size := by rw [hX46]; exact ((Below.refl 0 w45).setCell (p := ⟨w.heap.size + 1 + 1 + 1, 2, none⟩) (Nat.zero_le _) _).size
    have S46 : Hid (SeS w L a c l p1 b1 dp #[.int .i64 1, .string ⟨#[]⟩, .string n1, .slice (some ⟨w.heap.size + 1, 0, none⟩) 0 0, .slice none 0 0, .slice (some ⟨w.heap.size + 1 + 1, 0, none⟩) 0 0] X46) := by rw [Hid, hX46]; exact S45.out.put 2 _
    go_upto_region 15 with fail
    rw [← hX46]
    clear hX46 yx46 fx46 S45 
    have hp1l : p1 ≤ l.length := by rw [Hp1.out, Hb1.out]; exact adv_nmB hi (Nat.le_refl _)
    have HQ15 : Hid _ := rs_take ⟨#[58]⟩ L c p1 a l b1 dp X46 S46.out.rd (by omega)
    obtain ⟨r3, HR3⟩ : ∃ z, Hid (z = isB 4 ⟨#[58]⟩ l p1) := ⟨_, rfl⟩
    rw [← HR3.out] at HQ15
    clear lp1
    go_wp2_with fail
    refine Calls.mono HQ15.out ?_
    rintro e w47 ⟨rfl, s47, g47⟩
    have zz47 : X46.heap.size ≤ w47.heap.size := g47.size
    have S47 : Hid (SeS w L a c l (adv r3 p1) b1 dp #[.int .i64 1, .string ⟨#[]⟩, .string n1, .slice (some ⟨w.heap.size + 1, 0, none⟩) 0 0, .slice none 0 0, .slice (some ⟨w.heap.size + 1 + 1, 0, none⟩) 0 0] w47) := S46.out.call s47 g47
    clear s47 g47 HQ15
    cases r3 with
    | false =>
      have S15 : Hid (SeS w L a c l p1 b1 dp #[.int .i64 1, .string ⟨#[]⟩, .string n1, .slice (some ⟨w.heap.size + 1, 0, none⟩) 0 0, .slice none 0 0, .slice (some ⟨w.heap.size + 1 + 1, 0, none⟩) 0 0] w47) := S47.out
      have HPR : Hid (pFld l i = if b1 = true then pFlA l ⟨#[]⟩ n1 p1 else none) := fld_one HG.out Hb1.out Hn1.out Hp1.out HR3.out.symm
      clear S47 HR3 Hb1 Hn1 Hp1
      go_upto_region 18 with fail
      have HQ48 : Hid _ := ps_args L c p1 a l b1 dp w47 S15.out.rd HG.out (by omega) (fun _ => by omega)
      have hz48 := S15.out.hz
      go_wp2_with fail
      refine Calls.mono HQ48.out ?_
      rintro e w49 ⟨gs, ja, a3, c3, okA, rfl, o3, s49, AA, g49⟩
      have zz49 : w47.heap.size ≤ w49.heap.size := g49.size
      have S49 : Hid (SeS w L a c l ja okA dp #[.int .i64 1, .string ⟨#[]⟩, .string n1, .slice (some ⟨w.heap.size + 1, 0, none⟩) 0 0, .slice none 0 0, .slice (some ⟨w.heap.size + 1 + 1, 0, none⟩) 0 0] w49) := S15.out.call s49 g49
      have HAA : Hid _ := AA
      have O3 : Hid (w49.ownsRow w47.heap.size 103 4 (.slice a3 gs.length c3) gs.length (arVs gs)) := o3
      have lja := AA.le
      clear s49 g49 o3 AA HQ48 
      have yx50 := fun o => row_cell S49.out.x o
      have fx50 := fun o => row_frozen S49.out.x o
      obtain ⟨X50, hX50⟩ : ∃ X : World, X = w49.setCell ⟨w.heap.size + 1 + 1 + 1, 3, none⟩ (.slice a3 gs.length c3) := ⟨_, rfl⟩
      have zz50 : w49.heap.size ≤ X50.heap.size := by rw [hX50]; exact ((Below.refl 0 w49).setCell (p := ⟨w.heap.size + 1 + 1 + 1, 3, none⟩) (Nat.zero_le _) _).size
      have S50 : Hid (SeS w L a c l ja okA dp #[.int .i64 1, .string ⟨#[]⟩, .string n1, .slice a3 gs.length c3, .slice none 0 0, .slice (some ⟨w.heap.size + 1 + 1, 0, none⟩) 0 0] X50) := by rw [Hid, hX50]; exact S49.out.put 3 _
      have O3_50 : Hid (World.ownsRow X50 w47.heap.size 103 4 (.slice a3 gs.length c3) gs.length (arVs gs)) := by rw [Hid, hX50]; exact own_far O3.out (by omega)
      go_upto_region 19 with fail
      rw [← hX50]
      clear hX50 yx50 fx50 S49 O3
      have LA : Hid (∀ g, (Value.slice a3 gs.length c3).ownBlock = some g → g < X50.heap.size) := fun g hg => (World.ownsRow.lt O3_50.out g hg).2
      have HQ51 : Hid _ := ps_dirs L c ja a l okA dp X50 S50.out.rd HG.out (by omega) (fun q => (HAA.out.yes q).2.1)
      have hz51 := S50.out.hz
      go_wp2_with fail
      refine Calls.mono HQ51.out ?_
      rintro e w52 ⟨ds, jd, a4, c4, okD, rfl, o4, s52, AD, g52⟩
      have zz52 : X50.heap.size ≤ w52.heap.size := g52.size
      have S52 : Hid (SeS w L a c l jd okD dp #[.int .i64 1, .string ⟨#[]⟩, .string n1, .slice a3 gs.length c3, .slice none 0 0, .slice (some ⟨w.heap.size + 1 + 1, 0, none⟩) 0 0] w52) := S50.out.call s52 g52
      have O3_50_52 : Hid (World.ownsRow w52 w47.heap.size 103 4 (.slice a3 gs.length c3) gs.length (arVs gs)) := own_grown O3_50.out g52 (by omega)
      have HAD : Hid _ := AD
      have O4 : Hid (w52.ownsRow X50.heap.size 105 4 (.slice a4 ds.length c4) ds.length (diVs ds)) := o4
      have ljd := AD.le
      have LO : True := trivial
      clear s52 g52 o4 AD HQ51 S50 O3_50
      have yx53 := fun o => row_cell S52.out.x o
      have fx53 := fun o => row_frozen S52.out.x o
      obtain ⟨X53, hX53⟩ : ∃ X : World, X = w52.setCell ⟨w.heap.size + 1 + 1 + 1, 4, none⟩ (.slice a4 ds.length c4) := ⟨_, rfl⟩
      have zz53 : w52.heap.size ≤ X53.heap.size := by rw [hX53]; exact ((Below.refl 0 w52).setCell (p := ⟨w.heap.size + 1 + 1 + 1, 4, none⟩) (Nat.zero_le _) _).size
      have S53 : Hid (SeS w L a c l jd okD dp #[.int .i64 1, .string ⟨#[]⟩, .string n1, .slice a3 gs.length c3, .slice a4 ds.length c4, .slice (some ⟨w.heap.size + 1 + 1, 0, none⟩) 0 0] X53) := by rw [Hid, hX53]; exact S52.out.put 4 _
      have O3_50_52_53 : Hid (World.ownsRow X53 w47.heap.size 103 4 (.slice a3 gs.length c3) gs.length (arVs gs)) := by rw [Hid, hX53]; exact own_far O3_50_52.out (by omega)
      have O4_53 : Hid (World.ownsRow X53 X50.heap.size 105 4 (.slice a4 ds.length c4) ds.length (diVs ds)) := by rw [Hid, hX53]; exact own_far O4.out (by omega)
      go_upto_region 20 with fail
      rw [← hX53]
      clear hX53 yx53 fx53 S52 O3_50_52 O4
      have yL := fun o => row_cell S53.out.rd.cell o
      cases okD with
      | false =>
        go_upto_region 22 with fail
        clear yL
        have HO : Hid (OneB (w.heap.size + 1) X53 ⟨1, ⟨#[]⟩, n1, gs, ds⟩ .nil (.slice a3 gs.length c3) (.slice a4 ds.length c4) (.slice (some ⟨w.heap.size + 1 + 1, 0, none⟩) 0 0)) := one_c S53.out O3_50_52_53.out LA.out O4_53.out (by omega) (by omega) (by omega)
        have HA : Hid (Af P l true dp false dp (⟨1, ⟨#[]⟩, n1, gs, ds⟩, .nil) jd) := by rw [Hid, HPF.out]; exact fld_no HG.out HPR.out HAA.out HAD.out (fun q => (by cases q))
        have HDN : Hid _ := S53.out.done HO.out
        have yx := fun o => row_cell S53.out.x o
        have yr := fun o => row_cell S53.out.r o
        have fr := fun o => row_frozen S53.out.r o
        clear S53 HO O3_50_52_53 O4_53
        go_wp2_with fail
        exact bodyPost_ret (v := .agg #[.int .i64 1, .string ⟨#[]⟩, .string n1, .slice a3 gs.length c3, .slice a4 ds.length c4, .slice (some ⟨w.heap.size + 1 + 1, 0, none⟩) 0 0]) (results_selS _ _ w.heap.size _ rfl HDN.out.2.2.2 rfl) rfl ⟨⟨1, ⟨#[]⟩, n1, gs, ds⟩, .nil, _, _, _, _, _, _, _, _, _, rfl, HDN.out.2.1, HDN.out.1, HA.out, HDN.out.2.2.1⟩
      | true =>
        have HQ54 : Hid _ := rs_is 4 ⟨#[123]⟩ L c jd a l true dp X53 S53.out.rd
        obtain ⟨r5, HR5⟩ : ∃ z, Hid (z = isB 4 ⟨#[123]⟩ l jd) := ⟨_, rfl⟩
        rw [← HR5.out] at HQ54
        have ljd2 := (HAD.out.yes rfl).2.1
        go_wp2_with fail
        refine Calls.mono HQ54.out ?_
        rintro e w54 ⟨rfl, n54, hw54⟩
        have zz54 : X53.heap.size ≤ w54.heap.size := by rw [hw54]; exact Nat.le_refl _
        have S54 : Hid (SeS w L a c l jd true dp #[.int .i64 1, .string ⟨#[]⟩, .string n1, .slice a3 gs.length c3, .slice a4 ds.length c4, .slice (some ⟨w.heap.size + 1 + 1, 0, none⟩) 0 0] w54) := by rw [Hid, hw54]; exact S53.out.drewN n54
        have O3_50_52_53_54 : Hid (World.ownsRow w54 w47.heap.size 103 4 (.slice a3 gs.length c3) gs.length (arVs gs)) := by rw [Hid, hw54]; exact own_grown O3_50_52_53.out (grown_drewN _ _ (some L)) (by omega)
        have O4_53_54 : Hid (World.ownsRow w54 X50.heap.size 105 4 (.slice a4 ds.length c4) ds.length (diVs ds)) := by rw [Hid, hw54]; exact own_grown O4_53.out (grown_drewN _ _ (some L)) (by omega)
        clear hw54 HQ54 S53 yL O3_50_52_53 O4_53
        cases r5 with
        | false =>
          go_upto_region 22 with fail
          have HO : Hid (OneB (w.heap.size + 1) w54 ⟨1, ⟨#[]⟩, n1, gs, ds⟩ .nil (.slice a3 gs.length c3) (.slice a4 ds.length c4) (.slice (some ⟨w.heap.size + 1 + 1, 0, none⟩) 0 0)) := one_c S54.out O3_50_52_53_54.out LA.out O4_53_54.out (by omega) (by omega) (by omega)
          have HA : Hid (Af P l true dp true dp (⟨1, ⟨#[]⟩, n1, gs, ds⟩, .nil) jd) := by rw [Hid, HPF.out]; exact fld_no HG.out HPR.out HAA.out HAD.out (fun _ => HR5.out.symm)
          have HDN : Hid _ := S54.out.done HO.out
          have yx := fun o => row_cell S54.out.x o
          have yr := fun o => row_cell S54.out.r o
          have fr := fun o => row_frozen S54.out.r o
          clear S54 HO O3_50_52_53_54 O4_53_54
          go_wp2_with fail
          exact bodyPost_ret (v := .agg #[.int .i64 1, .string ⟨#[]⟩, .string n1, .slice a3 gs.length c3, .slice a4 ds.length c4, .slice (some ⟨w.heap.size + 1 + 1, 0, none⟩) 0 0]) (results_selS _ _ w.heap.size _ rfl HDN.out.2.2.2 rfl) rfl ⟨⟨1, ⟨#[]⟩, n1, gs, ds⟩, .nil, _, _, _, _, _, _, _, _, _, rfl, HDN.out.2.1, HDN.out.1, HA.out, HDN.out.2.2.1⟩
        | true =>
          go_upto_region 21 with fail
          have LD : Hid (∀ g, (Value.slice a4 ds.length c4).ownBlock = some g → g < w54.heap.size) := fun g hg => (World.ownsRow.lt O4_53_54.out g hg).2
          have HQ55 : Hid _ := HSET.out (D - 1) L c jd a l true dp w54 HD1.out S54.out.rd HG.out (by omega) (fun _ => ljd2)
          have hz55 := S54.out.hz
          have hdb := HDB.out
          go_wp2_with fail
          refine Calls.mono HQ55.out ?_
          rintro e w56 ⟨sb, js, a5, c5, okS, dpS, rfl, ⟨ws5, bk5, o5⟩, s56, AS, g56⟩
          have zz56 : w54.heap.size ≤ w56.heap.size := g56.size
          have S56 : Hid (SeS w L a c l js okS dpS #[.int .i64 1, .string ⟨#[]⟩, .string n1, .slice a3 gs.length c3, .slice a4 ds.length c4, .slice (some ⟨w.heap.size + 1 + 1, 0, none⟩) 0 0] w56) := S54.out.call s56 g56
          have O3_50_52_53_54_56 : Hid (World.ownsRow w56 w47.heap.size 103 4 (.slice a3 gs.length c3) gs.length (arVs gs)) := own_grown O3_50_52_53_54.out g56 (by omega)
          have O4_53_54_56 : Hid (World.ownsRow w56 X50.heap.size 105 4 (.slice a4 ds.length c4) ds.length (diVs ds)) := own_grown O4_53_54.out g56 (by omega)
          have HAS : Hid _ := AS
          have R5 : Hid (RowK w54.heap.size w56 (.slice a5 sb.len c5) sb ws5 bk5) := o5
          clear s56 g56 o5 AS HQ55 S54 O3_50_52_53_54 O4_53_54
          have yx57 := fun o => row_cell S56.out.x o
          have fx57 := fun o => row_frozen S56.out.x o
          obtain ⟨X57, hX57⟩ : ∃ X : World, X = w56.setCell ⟨w.heap.size + 1 + 1 + 1, 5, none⟩ (.slice a5 sb.len c5) := ⟨_, rfl⟩
          have zz57 : w56.heap.size ≤ X57.heap.size := by rw [hX57]; exact ((Below.refl 0 w56).setCell (p := ⟨w.heap.size + 1 + 1 + 1, 5, none⟩) (Nat.zero_le _) _).size
          have S57 : Hid (SeS w L a c l js okS dpS #[.int .i64 1, .string ⟨#[]⟩, .string n1, .slice a3 gs.length c3, .slice a4 ds.length c4, .slice a5 sb.len c5] X57) := by rw [Hid, hX57]; exact S56.out.put 5 _
          have O3_50_52_53_54_56_57 : Hid (World.ownsRow X57 w47.heap.size 103 4 (.slice a3 gs.length c3) gs.length (arVs gs)) := by rw [Hid, hX57]; exact own_far O3_50_52_53_54_56.out (by omega)
          have O4_53_54_56_57 : Hid (World.ownsRow X57 X50.heap.size 105 4 (.slice a4 ds.length c4) ds.length (diVs ds)) := by rw [Hid, hX57]; exact own_far O4_53_54_56.out (by omega)
          have R5_57 : Hid (RowK w54.heap.size X57 (.slice a5 sb.len c5) sb ws5 bk5) := by rw [Hid, hX57]; exact R5.out.far (by omega)
          go_upto_region 22 with fail
          rw [← hX57]
          clear hX57 yx57 fx57 S56 O3_50_52_53_54_56 O4_53_54_56 R5
          have HO : Hid (OneB (w.heap.size + 1) X57 ⟨1, ⟨#[]⟩, n1, gs, ds⟩ sb (.slice a3 gs.length c3) (.slice a4 ds.length c4) (.slice a5 sb.len c5)) := one_d O3_50_52_53_54_56_57.out LA.out O4_53_54_56_57.out LD.out R5_57.out (by omega) (by omega) (by omega)
          have HA : Hid (Af P l true dp okS dpS (⟨1, ⟨#[]⟩, n1, gs, ds⟩, sb) js) := by rw [Hid, HPF.out]; exact fld_set HG.out HPR.out HAA.out HAD.out HR5.out.symm HAS.out
          have HDN : Hid _ := S57.out.done HO.out
          have yx := fun o => row_cell S57.out.x o
          have yr := fun o => row_cell S57.out.r o
          have fr := fun o => row_frozen S57.out.r o
          clear S57 HO O3_50_52_53_54_56_57 O4_53_54_56_57 R5_57
          go_wp2_with fail
          exact bodyPost_ret (v := .agg #[.int .i64 1, .string ⟨#[]⟩, .string n1, .slice a3 gs.length c3, .slice a4 ds.length c4, .slice a5 sb.len c5]) (results_selS _ _ w.heap.size _ rfl HDN.out.2.2.2 rfl) rfl ⟨⟨1, ⟨#[]⟩, n1, gs, ds⟩, sb, _, _, _, _, _, _, _, _, _, rfl, HDN.out.2.1, HDN.out.1, HA.out, HDN.out.2.2.1⟩
    | true =>
      have hltp : p1 < l.length := isB_lt HR3.out.symm
      obtain ⟨p2, hp2⟩ : ∃ z, z = p1 + 1 := ⟨_, rfl⟩
      have S15 : Hid (SeS w L a c l p2 b1 dp #[.int .i64 1, .string ⟨#[]⟩, .string n1, .slice (some ⟨w.heap.size + 1, 0, none⟩) 0 0, .slice none 0 0, .slice (some ⟨w.heap.size + 1 + 1, 0, none⟩) 0 0] w47) := by rw [hp2]; exact S47.out
      have HP2 : Hid (p2 = p1 + 1) := hp2
      have lp2 : p2 ≤ l.length := by omega
      clear S47 hp2 hltp
      go_upto_region 16 with fail
      have yx58 := fun o => row_cell S15.out.x o
      have fx58 := fun o => row_frozen S15.out.x o
      obtain ⟨X58, hX58⟩ : ∃ X : World, X = w47.setCell ⟨w.heap.size + 1 + 1 + 1, 1, none⟩ (.string n1) := ⟨_, rfl⟩
      have zz58 : w47.heap.size ≤ X58.heap.size := by rw [hX58]; exact ((Below.refl 0 w47).setCell (p := ⟨w.heap.size + 1 + 1 + 1, 1, none⟩) (Nat.zero_le _) _).size
      have S58 : Hid (SeS w L a c l p2 b1 dp #[.int .i64 1, .string n1, .string n1, .slice (some ⟨w.heap.size + 1, 0, none⟩) 0 0, .slice none 0 0, .slice (some ⟨w.heap.size + 1 + 1, 0, none⟩) 0 0] X58) := by rw [Hid, hX58]; exact S15.out.put 1 _
      go_upto_region 17 with fail
      rw [← hX58]
      clear hX58 yx58 fx58 S15 
      have HQ59 : Hid _ := rs_name L c p2 a l b1 dp X58 S58.out.rd (by omega)
      obtain ⟨b2, Hb2⟩ : ∃ z, Hid (z = nmB l p2) := ⟨_, rfl⟩
      obtain ⟨n2, Hn2⟩ : ∃ z, Hid (z = nmI l p2) := ⟨_, rfl⟩
      obtain ⟨p3, Hp3⟩ : ∃ z, Hid (z = adv b2 p2) := ⟨_, rfl⟩
      rw [← Hb2.out, ← Hn2.out, ← Hp3.out] at HQ59
      have lp3 : p3 ≤ l.length + 1 := by rw [Hp3.out, Hb2.out]; exact adv_nmB (by omega) (by omega)
      go_wp2_with fail
      refine Calls.mono HQ59.out ?_
      rintro e w60 ⟨rfl, s60, g60⟩
      have zz60 : X58.heap.size ≤ w60.heap.size := g60.size
      have S60 : Hid (SeS w L a c l p3 (b2 && b1) dp #[.int .i64 1, .string n1, .string n1, .slice (some ⟨w.heap.size + 1, 0, none⟩) 0 0, .slice none 0 0, .slice (some ⟨w.heap.size + 1 + 1, 0, none⟩) 0 0] w60) := S58.out.call s60 g60
      clear s60 g60 HQ59 S58 
      have yx61 := fun o => row_cell S60.out.x o
      have fx61 := fun o => row_frozen S60.out.x o
      obtain ⟨X61, hX61⟩ : ∃ X : World, X = w60.setCell ⟨w.heap.size + 1 + 1 + 1, 2, none⟩ (.string n2) := ⟨_, rfl⟩
      have zz61 : w60.heap.size ≤ X61.heap.size := by rw [hX61]; exact ((Below.refl 0 w60).setCell (p := ⟨w.heap.size + 1 + 1 + 1, 2, none⟩) (Nat.zero_le _) _).size
      have S61 : Hid (SeS w L a c l p3 (b2 && b1) dp #[.int .i64 1, .string n1, .string n2, .slice (some ⟨w.heap.size + 1, 0, none⟩) 0 0, .slice none 0 0, .slice (some ⟨w.heap.size + 1 + 1, 0, none⟩) 0 0] X61) := by rw [Hid, hX61]; exact S60.out.put 2 _
      go_upto_region 18 with fail
      rw [← hX61]
      clear hX61 yx61 fx61 S60 
      have HPR : Hid (pFld l i = if (b2 && b1) = true then pFlA l n1 n2 p3 else none) := fld_two HG.out Hb1.out Hn1.out Hp1.out HR3.out.symm (by rw [← HP2.out]; exact Hb2.out) (by rw [← HP2.out]; exact Hn2.out) (by rw [← HP2.out]; exact Hp3.out)
      have hp3l : p3 ≤ l.length := by rw [Hp3.out, Hb2.out]; exact adv_nmB lp2 (Nat.le_refl _)
      clear HR3 Hb1 Hn1 Hp1 HP2 Hb2 Hn2 Hp3 lp3
      obtain ⟨okN, hokN⟩ : ∃ z, z = (b2 && b1) := ⟨_, rfl⟩
      have S18 : Hid (SeS w L a c l p3 okN dp #[.int .i64 1, .string n1, .string n2, .slice (some ⟨w.heap.size + 1, 0, none⟩) 0 0, .slice none 0 0, .slice (some ⟨w.heap.size + 1 + 1, 0, none⟩) 0 0] X61) := by rw [hokN]; exact S61.out
      rw [← hokN] at HPR
      clear hokN S61
      have HQ62 : Hid _ := ps_args L c p3 a l okN dp X61 S18.out.rd HG.out (by omega) (fun _ => by omega)
      have hz62 := S18.out.hz
      go_wp2_with fail
      refine Calls.mono HQ62.out ?_
      rintro e w63 ⟨gs, ja, a3, c3, okA, rfl, o3, s63, AA, g63⟩
      have zz63 : X61.heap.size ≤ w63.heap.size := g63.size
      have S63 : Hid (SeS w L a c l ja okA dp #[.int .i64 1, .string n1, .string n2, .slice (some ⟨w.heap.size + 1, 0, none⟩) 0 0, .slice none 0 0, .slice (some ⟨w.heap.size + 1 + 1, 0, none⟩) 0 0] w63) := S18.out.call s63 g63
      have HAA : Hid _ := AA
      have O3 : Hid (w63.ownsRow X61.heap.size 103 4 (.slice a3 gs.length c3) gs.length (arVs gs)) := o3
      have lja := AA.le
      clear s63 g63 o3 AA HQ62 
      have yx64 := fun o => row_cell S63.out.x o
      have fx64 := fun o => row_frozen S63.out.x o
      obtain ⟨X64, hX64⟩ : ∃ X : World, X = w63.setCell ⟨w.heap.size + 1 + 1 + 1, 3, none⟩ (.slice a3 gs.length c3) := ⟨_, rfl⟩
      have zz64 : w63.heap.size ≤ X64.heap.size := by rw [hX64]; exact ((Below.refl 0 w63).setCell (p := ⟨w.heap.size + 1 + 1 + 1, 3, none⟩) (Nat.zero_le _) _).size
      have S64 : Hid (SeS w L a c l ja okA dp #[.int .i64 1, .string n1, .string n2, .slice a3 gs.length c3, .slice none 0 0, .slice (some ⟨w.heap.size + 1 + 1, 0, none⟩) 0 0] X64) := by rw [Hid, hX64]; exact S63.out.put 3 _
      have O3_64 : Hid (World.ownsRow X64 X61.heap.size 103 4 (.slice a3 gs.length c3) gs.length (arVs gs)) := by rw [Hid, hX64]; exact own_far O3.out (by omega)
      go_upto_region 19 with fail
      rw [← hX64]
      clear hX64 yx64 fx64 S63 O3
      have LA : Hid (∀ g, (Value.slice a3 gs.length c3).ownBlock = some g → g < X64.heap.size) := fun g hg => (World.ownsRow.lt O3_64.out g hg).2
      have HQ65 : Hid _ := ps_dirs L c ja a l okA dp X64 S64.out.rd HG.out (by omega) (fun q => (HAA.out.yes q).2.1)
      have hz65 := S64.out.hz
      go_wp2_with fail
      refine Calls.mono HQ65.out ?_
      rintro e w66 ⟨ds, jd, a4, c4, okD, rfl, o4, s66, AD, g66⟩
      have zz66 : X64.heap.size ≤ w66.heap.size := g66.size
      have S66 : Hid (SeS w L a c l jd okD dp #[.int .i64 1, .string n1, .string n2, .slice a3 gs.length c3, .slice none 0 0, .slice (some ⟨w.heap.size + 1 + 1, 0, none⟩) 0 0] w66) := S64.out.call s66 g66
      have O3_64_66 : Hid (World.ownsRow w66 X61.heap.size 103 4 (.slice a3 gs.length c3) gs.length (arVs gs)) := own_grown O3_64.out g66 (by omega)
      have HAD : Hid _ := AD
      have O4 : Hid (w66.ownsRow X64.heap.size 105 4 (.slice a4 ds.length c4) ds.length (diVs ds)) := o4
      have ljd := AD.le
      have LO : True := trivial
      clear s66 g66 o4 AD HQ65 S64 O3_64
      have yx67 := fun o => row_cell S66.out.x o
      have fx67 := fun o => row_frozen S66.out.x o
      obtain ⟨X67, hX67⟩ : ∃ X : World, X = w66.setCell ⟨w.heap.size + 1 + 1 + 1, 4, none⟩ (.slice a4 ds.length c4) := ⟨_, rfl⟩
      have zz67 : w66.heap.size ≤ X67.heap.size := by rw [hX67]; exact ((Below.refl 0 w66).setCell (p := ⟨w.heap.size + 1 + 1 + 1, 4, none⟩) (Nat.zero_le _) _).size
      have S67 : Hid (SeS w L a c l jd okD dp #[.int .i64 1, .string n1, .string n2, .slice a3 gs.length c3, .slice a4 ds.length c4, .slice (some ⟨w.heap.size + 1 + 1, 0, none⟩) 0 0] X67) := by rw [Hid, hX67]; exact S66.out.put 4 _
      have O3_64_66_67 : Hid (World.ownsRow X67 X61.heap.size 103 4 (.slice a3 gs.length c3) gs.length (arVs gs)) := by rw [Hid, hX67]; exact own_far O3_64_66.out (by omega)
      have O4_67 : Hid (World.ownsRow X67 X64.heap.size 105 4 (.slice a4 ds.length c4) ds.length (diVs ds)) := by rw [Hid, hX67]; exact own_far O4.out (by omega)
      go_upto_region 20 with fail
      rw [← hX67]
      clear hX67 yx67 fx67 S66 O3_64_66 O4
      have yL := fun o => row_cell S67.out.rd.cell o
      cases okD with
      | false =>
        go_upto_region 22 with fail
        clear yL
        have HO : Hid (OneB (w.heap.size + 1) X67 ⟨1, n1, n2, gs, ds⟩ .nil (.slice a3 gs.length c3) (.slice a4 ds.length c4) (.slice (some ⟨w.heap.size + 1 + 1, 0, none⟩) 0 0)) := one_c S67.out O3_64_66_67.out LA.out O4_67.out (by omega) (by omega) (by omega)
        have HA : Hid (Af P l true dp false dp (⟨1, n1, n2, gs, ds⟩, .nil) jd) := by rw [Hid, HPF.out]; exact fld_no HG.out HPR.out HAA.out HAD.out (fun q => (by cases q))
        have HDN : Hid _ := S67.out.done HO.out
        have yx := fun o => row_cell S67.out.x o
        have yr := fun o => row_cell S67.out.r o
        have fr := fun o => row_frozen S67.out.r o
        clear S67 HO O3_64_66_67 O4_67
        go_wp2_with fail
        exact bodyPost_ret (v := .agg #[.int .i64 1, .string n1, .string n2, .slice a3 gs.length c3, .slice a4 ds.length c4, .slice (some ⟨w.heap.size + 1 + 1, 0, none⟩) 0 0]) (results_selS _ _ w.heap.size _ rfl HDN.out.2.2.2 rfl) rfl ⟨⟨1, n1, n2, gs, ds⟩, .nil, _, _, _, _, _, _, _, _, _, rfl, HDN.out.2.1, HDN.out.1, HA.out, HDN.out.2.2.1⟩
      | true =>
        have HQ68 : Hid _ := rs_is 4 ⟨#[123]⟩ L c jd a l true dp X67 S67.out.rd
        obtain ⟨r5, HR5⟩ : ∃ z, Hid (z = isB 4 ⟨#[123]⟩ l jd) := ⟨_, rfl⟩
        rw [← HR5.out] at HQ68
        have ljd2 := (HAD.out.yes rfl).2.1
        go_wp2_with fail
        refine Calls.mono HQ68.out ?_
        rintro e w68 ⟨rfl, n68, hw68⟩
        have zz68 : X67.heap.size ≤ w68.heap.size := by rw [hw68]; exact Nat.le_refl _
        have S68 : Hid (SeS w L a c l jd true dp #[.int .i64 1, .string n1, .string n2, .slice a3 gs.length c3, .slice a4 ds.length c4, .slice (some ⟨w.heap.size + 1 + 1, 0, none⟩) 0 0] w68) := by rw [Hid, hw68]; exact S67.out.drewN n68
        have O3_64_66_67_68 : Hid (World.ownsRow w68 X61.heap.size 103 4 (.slice a3 gs.length c3) gs.length (arVs gs)) := by rw [Hid, hw68]; exact own_grown O3_64_66_67.out (grown_drewN _ _ (some L)) (by omega)
        have O4_67_68 : Hid (World.ownsRow w68 X64.heap.size 105 4 (.slice a4 ds.length c4) ds.length (diVs ds)) := by rw [Hid, hw68]; exact own_grown O4_67.out (grown_drewN _ _ (some L)) (by omega)
        clear hw68 HQ68 S67 yL O3_64_66_67 O4_67
        cases r5 with
        | false =>
          go_upto_region 22 with fail
          have HO : Hid (OneB (w.heap.size + 1) w68 ⟨1, n1, n2, gs, ds⟩ .nil (.slice a3 gs.length c3) (.slice a4 ds.length c4) (.slice (some ⟨w.heap.size + 1 + 1, 0, none⟩) 0 0)) := one_c S68.out O3_64_66_67_68.out LA.out O4_67_68.out (by omega) (by omega) (by omega)
          have HA : Hid (Af P l true dp true dp (⟨1, n1, n2, gs, ds⟩, .nil) jd) := by rw [Hid, HPF.out]; exact fld_no HG.out HPR.out HAA.out HAD.out (fun _ => HR5.out.symm)
          have HDN : Hid _ := S68.out.done HO.out
          have yx := fun o => row_cell S68.out.x o
          have yr := fun o => row_cell S68.out.r o
          have fr := fun o => row_frozen S68.out.r o
          clear S68 HO O3_64_66_67_68 O4_67_68
          go_wp2_with fail
          exact bodyPost_ret (v := .agg #[.int .i64 1, .string n1, .string n2, .slice a3 gs.length c3, .slice a4 ds.length c4, .slice (some ⟨w.heap.size + 1 + 1, 0, none⟩) 0 0]) (results_selS _ _ w.heap.size _ rfl HDN.out.2.2.2 rfl) rfl ⟨⟨1, n1, n2, gs, ds⟩, .nil, _, _, _, _, _, _, _, _, _, rfl, HDN.out.2.1, HDN.out.1, HA.out, HDN.out.2.2.1⟩
        | true =>
          go_upto_region 21 with fail
          have LD : Hid (∀ g, (Value.slice a4 ds.length c4).ownBlock = some g → g < w68.heap.size) := fun g hg => (World.ownsRow.lt O4_67_68.out g hg).2
          have HQ69 : Hid _ := HSET.out (D - 1) L c jd a l true dp w68 HD1.out S68.out.rd HG.out (by omega) (fun _ => ljd2)
          have hz69 := S68.out.hz
          have hdb := HDB.out
          go_wp2_with fail
          refine Calls.mono HQ69.out ?_
          rintro e w70 ⟨sb, js, a5, c5, okS, dpS, rfl, ⟨ws5, bk5, o5⟩, s70, AS, g70⟩
          have zz70 : w68.heap.size ≤ w70.heap.size := g70.size
          have S70 : Hid (SeS w L a c l js okS dpS #[.int .i64 1, .string n1, .string n2, .slice a3 gs.length c3, .slice a4 ds.length c4, .slice (some ⟨w.heap.size + 1 + 1, 0, none⟩) 0 0] w70) := S68.out.call s70 g70
          have O3_64_66_67_68_70 : Hid (World.ownsRow w70 X61.heap.size 103 4 (.slice a3 gs.length c3) gs.length (arVs gs)) := own_grown O3_64_66_67_68.out g70 (by omega)
          have O4_67_68_70 : Hid (World.ownsRow w70 X64.heap.size 105 4 (.slice a4 ds.length c4) ds.length (diVs ds)) := own_grown O4_67_68.out g70 (by omega)
          have HAS : Hid _ := AS
          have R5 : Hid (RowK w68.heap.size w70 (.slice a5 sb.len c5) sb ws5 bk5) := o5
          clear s70 g70 o5 AS HQ69 S68 O3_64_66_67_68 O4_67_68
          have yx71 := fun o => row_cell S70.out.x o
          have fx71 := fun o => row_frozen S70.out.x o
          obtain ⟨X71, hX71⟩ : ∃ X : World, X = w70.setCell ⟨w.heap.size + 1 + 1 + 1, 5, none⟩ (.slice a5 sb.len c5) := ⟨_, rfl⟩
          have zz71 : w70.heap.size ≤ X71.heap.size := by rw [hX71]; exact ((Below.refl 0 w70).setCell (p := ⟨w.heap.size + 1 + 1 + 1, 5, none⟩) (Nat.zero_le _) _).size
          have S71 : Hid (SeS w L a c l js okS dpS #[.int .i64 1, .string n1, .string n2, .slice a3 gs.length c3, .slice a4 ds.length c4, .slice a5 sb.len c5] X71) := by rw [Hid, hX71]; exact S70.out.put 5 _
          have O3_64_66_67_68_70_71 : Hid (World.ownsRow X71 X61.heap.size 103 4 (.slice a3 gs.length c3) gs.length (arVs gs)) := by rw [Hid, hX71]; exact own_far O3_64_66_67_68_70.out (by omega)
          have O4_67_68_70_71 : Hid (World.ownsRow X71 X64.heap.size 105 4 (.slice a4 ds.length c4) ds.length (diVs ds)) := by rw [Hid, hX71]; exact own_far O4_67_68_70.out (by omega)
          have R5_71 : Hid (RowK w68.heap.size X71 (.slice a5 sb.len c5) sb ws5 bk5) := by rw [Hid, hX71]; exact R5.out.far (by omega)
          go_upto_region 22 with fail
          rw [← hX71]
          clear hX71 yx71 fx71 S70 O3_64_66_67_68_70 O4_67_68_70 R5
          have HO : Hid (OneB (w.heap.size + 1) X71 ⟨1, n1, n2, gs, ds⟩ sb (.slice a3 gs.length c3) (.slice a4 ds.length c4) (.slice a5 sb.len c5)) := one_d O3_64_66_67_68_70_71.out LA.out O4_67_68_70_71.out LD.out R5_71.out (by omega) (by omega) (by omega)
          have HA : Hid (Af P l true dp okS dpS (⟨1, n1, n2, gs, ds⟩, sb) js) := by rw [Hid, HPF.out]; exact fld_set HG.out HPR.out HAA.out HAD.out HR5.out.symm HAS.out
          have HDN : Hid _ := S71.out.done HO.out
          have yx := fun o => row_cell S71.out.x o
          have yr := fun o => row_cell S71.out.r o
          have fr := fun o => row_frozen S71.out.r o
          clear S71 HO O3_64_66_67_68_70_71 O4_67_68_70_71 R5_71
          go_wp2_with fail
          exact bodyPost_ret (v := .agg #[.int .i64 1, .string n1, .string n2, .slice a3 gs.length c3, .slice a4 ds.length c4, .slice a5 sb.len c5]) (results_selS _ _ w.heap.size _ rfl HDN.out.2.2.2 rfl) rfl ⟨⟨1, n1, n2, gs, ds⟩, sb, _, _, _, _, _, _, _, _, _, rfl, HDN.out.2.1, HDN.out.1, HA.out, HDN.out.2.2.1⟩
end Go.Proofs.YtlilfbcngncllaaGreatDoor
