/- The specification's reader of documents: a definition: written by wip/tools/psdef.py. -/
import Derived.Test.YtlilfbcngncllaaGreatDoorPsDefM
namespace Go.Proofs.YtlilfbcngncllaaGreatDoor
open Go.ChangeShapes Go.WideShapes Go.ChangeAt Go.RowKit
set_option linter.unusedVariables false

set_option maxHeartbeats 16000000 in
set_option maxRecDepth 20000 in
theorem ps_def (L c i : Nat) (a : Option Addr) (l : List Tk) (dp : Bool) (w : World) (h : RsSt w L a c l i true dp) (hl : TkG l) (hi : i ≤ l.length) :
    Calls Tryz.prog 19 #[.pointer (some ⟨L, 0, none⟩)] w (DefS (pDef (l.drop i)) L a c l dp w) := by
  have HG : Hid _ := hl
  have hln := hl.len
  have hLw := h.lt
  have HSET : Hid (SetsOk 7) := sets_ok 7 (by omega)
  obtain ⟨V1, hV1⟩ : ∃ V, V = w.alloc (.cells #[.int .i64 0, .string ⟨#[]⟩, .string ⟨#[]⟩, .slice none 0 0] 47) := ⟨_, rfl⟩
  obtain ⟨V, hV⟩ : ∃ V, V = V1.alloc (.cells #[.int .i64 1, .string ⟨#[]⟩, .string ⟨#[]⟩, .slice none 0 0] 47) := ⟨_, rfl⟩
  have z1 : V1.heap.size = w.heap.size + 1 := by rw [hV1]; simp
  have z4 : V.heap.size = w.heap.size + 1 + 1 := by rw [hV]; simp [z1]
  have B1 : Below w.heap.size w V1 := by rw [hV1]; exact (Below.refl _ _).alloc (Nat.le_refl _) _
  have B2 : Below V1.heap.size V1 V := by rw [hV]; exact (Below.refl _ _).alloc (Nat.le_refl _) _
  have BV : Below w.heap.size w V := B1.trans (B2.mono (by omega))
  have S0 : Hid (DfS w L a c l i true dp #[.int .i64 1, .string ⟨#[]⟩, .string ⟨#[]⟩, .slice none 0 0] V) := by
    refine ⟨h.below BV, ?_, ?_, grown_below (grown_refl w _) BV, hLw, by omega⟩
    · exact (B2.block _ (by omega)).trans (by rw [hV1]; exact heap_alloc_new _ _)
    · rw [← z1, hV]; exact heap_alloc_new _ _
  have HQ : Hid _ := rs_is 4 ⟨#[123]⟩ L c i a l true dp V S0.out.rd
  obtain ⟨r, HR⟩ : ∃ r, Hid (r = isB 4 ⟨#[123]⟩ l i) := ⟨_, rfl⟩
  rw [← HR.out] at HQ
  rw [hV1] at hV
  clear h hl BV hV1 B1 B2 z1 z4
  go_enter Tryz.func19, Tryz.ntmps19
  go_upto_region 2 with fail
  rw [← hV]
  clear hV
  go_wp2_with fail
  refine Calls.mono HQ.out ?_
  rintro e w1 ⟨rfl, n1, hw1⟩
  have S1 : Hid (DfS w L a c l i true dp #[.int .i64 1, .string ⟨#[]⟩, .string ⟨#[]⟩, .slice none 0 0] w1) := by rw [Hid, hw1]; exact S0.out.drewN n1
  clear hw1 HQ S0
  go_upto_if 8 with fail
  go_cut [4] from 9 to 83 (fun _ wx => ∃ (k : Int) (nm on : ByteArray) (q : Nat) (okH : Bool), Hid (DfS w L a c l q okH dp #[.int .i64 k, .string nm, .string on, .slice none 0 0] wx) ∧ Hid (HdO (pDefHead (l.drop i)) l okH k nm on q))
  case first =>
    cases r with
    | true =>
      go_wp2_with fail
      have HH : Hid (HdO (pDefHead (l.drop i)) l true 1 ⟨#[]⟩ ⟨#[]⟩ i) := hd_bare HG.out hi HR.out.symm
      have SM : Hid (DfS w L a c l i true dp #[.int .i64 1, .string ⟨#[]⟩, .string ⟨#[]⟩, .slice none 0 0] w1) := S1.out
      go_meet
      exact ⟨1, ⟨#[]⟩, ⟨#[]⟩, i, true, SM, HH⟩
    | false =>
      have HB : Hid (isB 4 ⟨#[123]⟩ l i = false) := HR.out.symm
      clear HR
      go_upto_region 3 with fail
      have HQ21 : Hid _ := rs_name L c i a l true dp w1 S1.out.rd (by omega)
      obtain ⟨b1, Hb1⟩ : ∃ z, Hid (z = nmB l i) := ⟨_, rfl⟩
      obtain ⟨n1, Hn1⟩ : ∃ z, Hid (z = nmI l i) := ⟨_, rfl⟩
      obtain ⟨p1, Hp1⟩ : ∃ z, Hid (z = adv b1 i) := ⟨_, rfl⟩
      rw [← Hb1.out, ← Hn1.out, ← Hp1.out, Bool.and_true] at HQ21
      have lp1 : p1 ≤ l.length + 1 := by rw [Hp1.out, Hb1.out]; exact adv_nmB (by omega) (by omega)
      go_wp2_with fail
      refine Calls.mono HQ21.out ?_
      rintro e w21 ⟨rfl, s21, g21⟩
      have S21 : Hid (DfS w L a c l p1 b1 dp #[.int .i64 1, .string ⟨#[]⟩, .string ⟨#[]⟩, .slice none 0 0] w21) := S1.out.call s21 g21
      clear s21 g21 HQ21 S1
      go_upto_region 4 with fail
      have hp1l : p1 ≤ l.length := by rw [Hp1.out, Hb1.out]; exact adv_nmB hi (Nat.le_refl _)
      clear lp1
      by_cases w1q : n1.toList = [113, 117, 101, 114, 121]
      case pos =>
        have hb1 : b1 = true := by rw [Hb1.out]; exact nm_word HG.out (by simp) (Hn1.out ▸ w1q)
        have SB : Hid (DfS w L a c l p1 true dp #[.int .i64 1, .string ⟨#[]⟩, .string ⟨#[]⟩, .slice none 0 0] w21) := by have := S21.out; rw [hb1] at this; exact this
        clear S21 hb1
        have HW1 : Hid (n1.toList = [113, 117, 101, 114, 121]) := w1q
        have e1 : (n1.toList == [113, 117, 101, 114, 121]) = true := by simp [w1q]
        clear w1q
        go_upto_region 15 with fail
        clear e1
        have c0 : w21.cell? ⟨L, 0, none⟩ = some (.slice a l.length c) := row_cell SB.out.rd.cell 0
        have c1 : w21.cell? ⟨L, 1, none⟩ = some (.int .i64 p1) := row_cell SB.out.rd.cell 1
        have cx := fun o => row_cell SB.out.x o
        by_cases hlt : p1 < l.length
        case neg =>
          have hltb : decide (p1 < l.length) = false := decide_eq_false hlt
          have HNB : Hid (nmB l p1 = false) := by rw [Hid]; unfold nmB; rw [hltb]; rfl
          clear hlt
          go_wp2_with fail
          go_quiet (fail)
          clear c0 c1 cx hltb
          obtain ⟨wq, hwq⟩ : ∃ z : World, z = w21.drewN nq := ⟨_, rfl⟩
          have SQ : Hid (DfS w L a c l p1 true dp #[.int .i64 1, .string ⟨#[]⟩, .string ⟨#[]⟩, .slice none 0 0] wq) := by rw [Hid, hwq]; exact SB.out.drewN nq
          rw [← hwq]
          clear hwq SB
          go_wp2_with fail
          have HH : Hid (HdO (pDefHead (l.drop i)) l true 1 ⟨#[]⟩ ⟨#[]⟩ p1) := hd_op HG.out HB.out Hb1.out Hn1.out Hp1.out (.inl ⟨HW1.out, rfl⟩) (b2 := false) HNB.out.symm rfl (by rw [if_neg (by decide)]) hi
          have SM : Hid (DfS w L a c l p1 true dp #[.int .i64 1, .string ⟨#[]⟩, .string ⟨#[]⟩, .slice none 0 0] wq) := SQ.out
          go_meet
          exact ⟨1, ⟨#[]⟩, ⟨#[]⟩, p1, true, SM, HH⟩
        case pos =>
          have hltb : decide (p1 < l.length) = true := decide_eq_true hlt
          have hlt' : (p1 : Int) < l.length := by omega
          obtain ⟨bb, oo, ha, _, hbL, d0, d1, d2⟩ := SB.out.rd.row.at_ p1 hlt
          subst ha
          replace d0 : w21.cell? ⟨bb, oo + p1 * 3, none⟩ = some (.int .i64 l[p1].k) := d0
          have hnx : nxT l p1 = l[p1] := by unfold nxT; rw [List.getElem?_eq_getElem hlt]
          have HNK : Hid (nmB l p1 = (l[p1].k == 1)) := by rw [Hid]; unfold nmB; rw [hltb, hnx]; rfl
          obtain ⟨kk, hkk⟩ : ∃ z, z = l[p1].k := ⟨_, rfl⟩
          rw [← hkk] at d0 HNK
          have HLT : Hid (p1 < l.length) := hlt
          clear d1 d2 hbL hnx hkk hlt
          cases hk : (kk == 1) with
          | false =>
            have HNB : Hid (nmB l p1 = false) := by rw [Hid, HNK.out, hk]
            clear HNK HLT
            go_wp2_with fail
            go_quiet (fail)
            clear c0 c1 cx hltb hlt' d0 hk
            obtain ⟨wq, hwq⟩ : ∃ z : World, z = w21.drewN nq := ⟨_, rfl⟩
            have SQ : Hid (DfS w L (some ⟨bb, oo, none⟩) c l p1 true dp #[.int .i64 1, .string ⟨#[]⟩, .string ⟨#[]⟩, .slice none 0 0] wq) := by rw [Hid, hwq]; exact SB.out.drewN nq
            rw [← hwq]
            clear hwq SB
            go_wp2_with fail
            have HH : Hid (HdO (pDefHead (l.drop i)) l true 1 ⟨#[]⟩ ⟨#[]⟩ p1) := hd_op HG.out HB.out Hb1.out Hn1.out Hp1.out (.inl ⟨HW1.out, rfl⟩) (b2 := false) HNB.out.symm rfl (by rw [if_neg (by decide)]) hi
            have SM : Hid (DfS w L (some ⟨bb, oo, none⟩) c l p1 true dp #[.int .i64 1, .string ⟨#[]⟩, .string ⟨#[]⟩, .slice none 0 0] wq) := SQ.out
            go_meet
            exact ⟨1, ⟨#[]⟩, ⟨#[]⟩, p1, true, SM, HH⟩
          | true =>
            have HNB : Hid (nmB l p1 = true) := by rw [Hid, HNK.out, hk]
            clear HNK
            go_wp2_with fail
            go_quiet (fail)
            clear c0 c1 cx hltb hlt' d0 hk
            obtain ⟨wq, hwq⟩ : ∃ z : World, z = w21.drewN nq := ⟨_, rfl⟩
            have SQ : Hid (DfS w L (some ⟨bb, oo, none⟩) c l p1 true dp #[.int .i64 1, .string ⟨#[]⟩, .string ⟨#[]⟩, .slice none 0 0] wq) := by rw [Hid, hwq]; exact SB.out.drewN nq
            rw [← hwq]
            clear hwq SB
            go_upto_region 16 with fail
            have HQ23 : Hid _ := rs_name L c p1 (some ⟨bb, oo, none⟩) l true dp wq SQ.out.rd (by omega)
            obtain ⟨b2, Hb2⟩ : ∃ z, Hid (z = nmB l p1) := ⟨_, rfl⟩
            obtain ⟨n2, Hn2⟩ : ∃ z, Hid (z = nmI l p1) := ⟨_, rfl⟩
            obtain ⟨p2, Hp2⟩ : ∃ z, Hid (z = adv b2 p1) := ⟨_, rfl⟩
            rw [← Hb2.out, ← Hn2.out, ← Hp2.out, Bool.and_true] at HQ23
            have lp2 : p2 ≤ l.length + 1 := by rw [Hp2.out, Hb2.out]; exact adv_nmB (by omega) (by omega)
            go_wp2_with fail
            refine Calls.mono HQ23.out ?_
            rintro e w23 ⟨rfl, s23, g23⟩
            have S23 : Hid (DfS w L (some ⟨bb, oo, none⟩) c l p2 b2 dp #[.int .i64 1, .string ⟨#[]⟩, .string ⟨#[]⟩, .slice none 0 0] w23) := SQ.out.call s23 g23
            clear s23 g23 HQ23 SQ
            have yx24 := fun o => row_cell S23.out.x o
            have fx24 := fun o => row_frozen S23.out.x o
            obtain ⟨X24, hX24⟩ : ∃ X : World, X = w23.setCell ⟨w.heap.size + 1, 1, none⟩ (.string n2) := ⟨_, rfl⟩
            have S24 : Hid (DfS w L (some ⟨bb, oo, none⟩) c l p2 b2 dp #[.int .i64 1, .string n2, .string ⟨#[]⟩, .slice none 0 0] X24) := by rw [Hid, hX24]; exact S23.out.put 1 _
            go_wp2_with fail
            rw [← hX24]
            clear hX24 yx24 fx24 S23
            have hb2 : b2 = true := by rw [Hb2.out]; exact HNB.out
            have SR : Hid (DfS w L (some ⟨bb, oo, none⟩) c l p2 true dp #[.int .i64 1, .string n2, .string ⟨#[]⟩, .slice none 0 0] X24) := by have := S24.out; rw [hb2] at this; exact this
            clear S24
            have HH : Hid (HdO (pDefHead (l.drop i)) l true 1 n2 ⟨#[]⟩ p2) := hd_op HG.out HB.out Hb1.out Hn1.out Hp1.out (.inl ⟨HW1.out, rfl⟩) (b2 := b2) Hb2.out Hp2.out (by rw [hb2, if_pos rfl]; exact Hn2.out) hi
            have SM : Hid (DfS w L (some ⟨bb, oo, none⟩) c l p2 true dp #[.int .i64 1, .string n2, .string ⟨#[]⟩, .slice none 0 0] X24) := SR.out
            go_meet
            exact ⟨1, n2, ⟨#[]⟩, p2, true, SM, HH⟩
      case neg =>
        have e1 : (n1.toList == [113, 117, 101, 114, 121]) = false := by simp [w1q]
        by_cases w2q : n1.toList = [109, 117, 116, 97, 116, 105, 111, 110]
        case pos =>
          have hb1 : b1 = true := by rw [Hb1.out]; exact nm_word HG.out (by simp) (Hn1.out ▸ w2q)
          have SB : Hid (DfS w L a c l p1 true dp #[.int .i64 1, .string ⟨#[]⟩, .string ⟨#[]⟩, .slice none 0 0] w21) := by have := S21.out; rw [hb1] at this; exact this
          clear S21 hb1
          have HW2 : Hid (n1.toList = [109, 117, 116, 97, 116, 105, 111, 110]) := w2q
          have e2 : (n1.toList == [109, 117, 116, 97, 116, 105, 111, 110]) = true := by simp [w2q]
          clear w2q w1q
          go_upto_region 8 with fail
          have yx25 := fun o => row_cell SB.out.x o
          have fx25 := fun o => row_frozen SB.out.x o
          obtain ⟨X25, hX25⟩ : ∃ X : World, X = w21.setCell ⟨w.heap.size + 1, 0, none⟩ (.int .i64 2) := ⟨_, rfl⟩
          have S25 : Hid (DfS w L a c l p1 true dp #[.int .i64 2, .string ⟨#[]⟩, .string ⟨#[]⟩, .slice none 0 0] X25) := by rw [Hid, hX25]; exact SB.out.put 0 _
          go_upto_region 15 with fail
          rw [← hX25]
          clear hX25 yx25 fx25 SB
          clear e1 e2
          have c0 : X25.cell? ⟨L, 0, none⟩ = some (.slice a l.length c) := row_cell S25.out.rd.cell 0
          have c1 : X25.cell? ⟨L, 1, none⟩ = some (.int .i64 p1) := row_cell S25.out.rd.cell 1
          have cx := fun o => row_cell S25.out.x o
          by_cases hlt : p1 < l.length
          case neg =>
            have hltb : decide (p1 < l.length) = false := decide_eq_false hlt
            have HNB : Hid (nmB l p1 = false) := by rw [Hid]; unfold nmB; rw [hltb]; rfl
            clear hlt
            go_wp2_with fail
            go_quiet (fail)
            clear c0 c1 cx hltb
            obtain ⟨wq, hwq⟩ : ∃ z : World, z = X25.drewN nq := ⟨_, rfl⟩
            have SQ : Hid (DfS w L a c l p1 true dp #[.int .i64 2, .string ⟨#[]⟩, .string ⟨#[]⟩, .slice none 0 0] wq) := by rw [Hid, hwq]; exact S25.out.drewN nq
            rw [← hwq]
            clear hwq S25
            go_wp2_with fail
            have HH : Hid (HdO (pDefHead (l.drop i)) l true 2 ⟨#[]⟩ ⟨#[]⟩ p1) := hd_op HG.out HB.out Hb1.out Hn1.out Hp1.out (.inr ⟨HW2.out, rfl⟩) (b2 := false) HNB.out.symm rfl (by rw [if_neg (by decide)]) hi
            have SM : Hid (DfS w L a c l p1 true dp #[.int .i64 2, .string ⟨#[]⟩, .string ⟨#[]⟩, .slice none 0 0] wq) := SQ.out
            go_meet
            exact ⟨2, ⟨#[]⟩, ⟨#[]⟩, p1, true, SM, HH⟩
          case pos =>
            have hltb : decide (p1 < l.length) = true := decide_eq_true hlt
            have hlt' : (p1 : Int) < l.length := by omega
            obtain ⟨bb, oo, ha, _, hbL, d0, d1, d2⟩ := S25.out.rd.row.at_ p1 hlt
            subst ha
            replace d0 : X25.cell? ⟨bb, oo + p1 * 3, none⟩ = some (.int .i64 l[p1].k) := d0
            have hnx : nxT l p1 = l[p1] := by unfold nxT; rw [List.getElem?_eq_getElem hlt]
            have HNK : Hid (nmB l p1 = (l[p1].k == 1)) := by rw [Hid]; unfold nmB; rw [hltb, hnx]; rfl
            obtain ⟨kk, hkk⟩ : ∃ z, z = l[p1].k := ⟨_, rfl⟩
            rw [← hkk] at d0 HNK
            have HLT : Hid (p1 < l.length) := hlt
            clear d1 d2 hbL hnx hkk hlt
            cases hk : (kk == 1) with
            | false =>
              have HNB : Hid (nmB l p1 = false) := by rw [Hid, HNK.out, hk]
              clear HNK HLT
              go_wp2_with fail
              go_quiet (fail)
              clear c0 c1 cx hltb hlt' d0 hk
              obtain ⟨wq, hwq⟩ : ∃ z : World, z = X25.drewN nq := ⟨_, rfl⟩
              have SQ : Hid (DfS w L (some ⟨bb, oo, none⟩) c l p1 true dp #[.int .i64 2, .string ⟨#[]⟩, .string ⟨#[]⟩, .slice none 0 0] wq) := by rw [Hid, hwq]; exact S25.out.drewN nq
              rw [← hwq]
              clear hwq S25
              go_wp2_with fail
              have HH : Hid (HdO (pDefHead (l.drop i)) l true 2 ⟨#[]⟩ ⟨#[]⟩ p1) := hd_op HG.out HB.out Hb1.out Hn1.out Hp1.out (.inr ⟨HW2.out, rfl⟩) (b2 := false) HNB.out.symm rfl (by rw [if_neg (by decide)]) hi
              have SM : Hid (DfS w L (some ⟨bb, oo, none⟩) c l p1 true dp #[.int .i64 2, .string ⟨#[]⟩, .string ⟨#[]⟩, .slice none 0 0] wq) := SQ.out
              go_meet
              exact ⟨2, ⟨#[]⟩, ⟨#[]⟩, p1, true, SM, HH⟩
            | true =>
              have HNB : Hid (nmB l p1 = true) := by rw [Hid, HNK.out, hk]
              clear HNK
              go_wp2_with fail
              go_quiet (fail)
              clear c0 c1 cx hltb hlt' d0 hk
              obtain ⟨wq, hwq⟩ : ∃ z : World, z = X25.drewN nq := ⟨_, rfl⟩
              have SQ : Hid (DfS w L (some ⟨bb, oo, none⟩) c l p1 true dp #[.int .i64 2, .string ⟨#[]⟩, .string ⟨#[]⟩, .slice none 0 0] wq) := by rw [Hid, hwq]; exact S25.out.drewN nq
              rw [← hwq]
              clear hwq S25
              go_upto_region 16 with fail
              have HQ27 : Hid _ := rs_name L c p1 (some ⟨bb, oo, none⟩) l true dp wq SQ.out.rd (by omega)
              obtain ⟨b2, Hb2⟩ : ∃ z, Hid (z = nmB l p1) := ⟨_, rfl⟩
              obtain ⟨n2, Hn2⟩ : ∃ z, Hid (z = nmI l p1) := ⟨_, rfl⟩
              obtain ⟨p2, Hp2⟩ : ∃ z, Hid (z = adv b2 p1) := ⟨_, rfl⟩
              rw [← Hb2.out, ← Hn2.out, ← Hp2.out, Bool.and_true] at HQ27
              have lp2 : p2 ≤ l.length + 1 := by rw [Hp2.out, Hb2.out]; exact adv_nmB (by omega) (by omega)
              go_wp2_with fail
              refine Calls.mono HQ27.out ?_
              rintro e w27 ⟨rfl, s27, g27⟩
              have S27 : Hid (DfS w L (some ⟨bb, oo, none⟩) c l p2 b2 dp #[.int .i64 2, .string ⟨#[]⟩, .string ⟨#[]⟩, .slice none 0 0] w27) := SQ.out.call s27 g27
              clear s27 g27 HQ27 SQ
              have yx28 := fun o => row_cell S27.out.x o
              have fx28 := fun o => row_frozen S27.out.x o
              obtain ⟨X28, hX28⟩ : ∃ X : World, X = w27.setCell ⟨w.heap.size + 1, 1, none⟩ (.string n2) := ⟨_, rfl⟩
              have S28 : Hid (DfS w L (some ⟨bb, oo, none⟩) c l p2 b2 dp #[.int .i64 2, .string n2, .string ⟨#[]⟩, .slice none 0 0] X28) := by rw [Hid, hX28]; exact S27.out.put 1 _
              go_wp2_with fail
              rw [← hX28]
              clear hX28 yx28 fx28 S27
              have hb2 : b2 = true := by rw [Hb2.out]; exact HNB.out
              have SR : Hid (DfS w L (some ⟨bb, oo, none⟩) c l p2 true dp #[.int .i64 2, .string n2, .string ⟨#[]⟩, .slice none 0 0] X28) := by have := S28.out; rw [hb2] at this; exact this
              clear S28
              have HH : Hid (HdO (pDefHead (l.drop i)) l true 2 n2 ⟨#[]⟩ p2) := hd_op HG.out HB.out Hb1.out Hn1.out Hp1.out (.inr ⟨HW2.out, rfl⟩) (b2 := b2) Hb2.out Hp2.out (by rw [hb2, if_pos rfl]; exact Hn2.out) hi
              have SM : Hid (DfS w L (some ⟨bb, oo, none⟩) c l p2 true dp #[.int .i64 2, .string n2, .string ⟨#[]⟩, .slice none 0 0] X28) := SR.out
              go_meet
              exact ⟨2, n2, ⟨#[]⟩, p2, true, SM, HH⟩
        case neg =>
          have e2 : (n1.toList == [109, 117, 116, 97, 116, 105, 111, 110]) = false := by simp [w2q]
          by_cases w3q : n1.toList = [102, 114, 97, 103, 109, 101, 110, 116]
          case pos =>
            have hb1 : b1 = true := by rw [Hb1.out]; exact nm_word HG.out (by simp) (Hn1.out ▸ w3q)
            have SB : Hid (DfS w L a c l p1 true dp #[.int .i64 1, .string ⟨#[]⟩, .string ⟨#[]⟩, .slice none 0 0] w21) := by have := S21.out; rw [hb1] at this; exact this
            clear S21 hb1
            have HW3 : Hid (n1.toList = [102, 114, 97, 103, 109, 101, 110, 116]) := w3q
            have e3 : (n1.toList == [102, 114, 97, 103, 109, 101, 110, 116]) = true := by simp [w3q]
            clear w3q w2q w1q
            go_upto_region 10 with fail
            have yx29 := fun o => row_cell SB.out.x o
            have fx29 := fun o => row_frozen SB.out.x o
            obtain ⟨X29, hX29⟩ : ∃ X : World, X = w21.setCell ⟨w.heap.size + 1, 0, none⟩ (.int .i64 3) := ⟨_, rfl⟩
            have S29 : Hid (DfS w L a c l p1 true dp #[.int .i64 3, .string ⟨#[]⟩, .string ⟨#[]⟩, .slice none 0 0] X29) := by rw [Hid, hX29]; exact SB.out.put 0 _
            go_upto_region 11 with fail
            rw [← hX29]
            clear hX29 yx29 fx29 SB
            clear e1 e2 e3
            have HQ30 : Hid _ := rs_name L c p1 a l true dp X29 S29.out.rd (by omega)
            obtain ⟨b2, Hb2⟩ : ∃ z, Hid (z = nmB l p1) := ⟨_, rfl⟩
            obtain ⟨n2, Hn2⟩ : ∃ z, Hid (z = nmI l p1) := ⟨_, rfl⟩
            obtain ⟨p2, Hp2⟩ : ∃ z, Hid (z = adv b2 p1) := ⟨_, rfl⟩
            rw [← Hb2.out, ← Hn2.out, ← Hp2.out, Bool.and_true] at HQ30
            have lp2 : p2 ≤ l.length + 1 := by rw [Hp2.out, Hb2.out]; exact adv_nmB (by omega) (by omega)
            go_wp2_with fail
            refine Calls.mono HQ30.out ?_
            rintro e w30 ⟨rfl, s30, g30⟩
            have S30 : Hid (DfS w L a c l p2 b2 dp #[.int .i64 3, .string ⟨#[]⟩, .string ⟨#[]⟩, .slice none 0 0] w30) := S29.out.call s30 g30
            clear s30 g30 HQ30 S29
            have yx31 := fun o => row_cell S30.out.x o
            have fx31 := fun o => row_frozen S30.out.x o
            obtain ⟨X31, hX31⟩ : ∃ X : World, X = w30.setCell ⟨w.heap.size + 1, 1, none⟩ (.string n2) := ⟨_, rfl⟩
            have S31 : Hid (DfS w L a c l p2 b2 dp #[.int .i64 3, .string n2, .string ⟨#[]⟩, .slice none 0 0] X31) := by rw [Hid, hX31]; exact S30.out.put 1 _
            go_upto_region 12 with fail
            rw [← hX31]
            clear hX31 yx31 fx31 S30
            have hp2l : p2 ≤ l.length := by rw [Hp2.out, Hb2.out]; exact adv_nmB hp1l (Nat.le_refl _)
            clear lp2
            obtain ⟨t2, HT2⟩ : ∃ z, Hid (z = (n2.toList == [111, 110])) := ⟨_, rfl⟩
            obtain ⟨c2, HC2⟩ : ∃ z, Hid (z = isB 1 ⟨#[111, 110]⟩ l p2) := ⟨_, rfl⟩
            obtain ⟨o2, HO2⟩ : ∃ z, Hid (z = ((b2 && !t2) && c2)) := ⟨_, rfl⟩
            have hcase : (b2 = false ∧ o2 = false) ∨ (b2 = true ∧ t2 = true ∧ o2 = false) ∨ (b2 = true ∧ t2 = false ∧ o2 = c2) := by
              have ho := HO2.out
              cases hb : b2 with
              | false => rw [hb] at ho; exact .inl ⟨rfl, ho⟩
              | true =>
                cases ht : t2 with
                | true => rw [hb, ht] at ho; exact .inr (.inl ⟨rfl, rfl, ho⟩)
                | false => rw [hb, ht] at ho; exact .inr (.inr ⟨rfl, rfl, ho⟩)
            have yx := fun o => row_cell S31.out.x o
            have yL := fun o => row_cell S31.out.rd.cell o
            have fL := fun o => row_frozen S31.out.rd.cell o
            have HBB : Hid (b2 = nmB l p1) := Hb2.out
            have HDF : Hid (∀ (b3 : Bool) (n3 : ByteArray) (p3 : Nat), b3 = nmB l (p2 + 1) → n3 = nmI l (p2 + 1) → p3 = adv b3 (p2 + 1) → HdO (pDefHead (l.drop i)) l (b3 && o2) 3 n2 n3 p3) := fun b3 n3 p3 h3 hn3 hp3 => hd_frag HG.out HB.out Hb1.out Hn1.out Hp1.out HW3.out Hb2.out Hn2.out Hp2.out HC2.out (by rw [HO2.out, HT2.out]) h3 hn3 hp3
            clear Hb1 Hn1 Hp1 Hb2 Hn2 Hp2 HO2 HBB
            rcases hcase with ⟨hb, ho⟩ | ⟨hb, ht, ho⟩ | ⟨hb, ht, ho⟩
            · subst hb
              obtain ⟨X32, hX32⟩ : ∃ X : World, X = X31.setCell ⟨L, 2, none⟩ (.bool false) := ⟨_, rfl⟩
              have S32 : Hid (DfS w L a c l p2 false dp #[.int .i64 3, .string n2, .string ⟨#[]⟩, .slice none 0 0] X32) := by rw [Hid, hX32]; exact S31.out.ok_ false
              go_upto_region 13 with fail
              rw [← hX32]
              clear hX32 yx yL fL S31 
              have zL := fun o => row_cell S32.out.rd.cell o
              have zf := fun o => row_frozen S32.out.rd.cell o
              have hi64 : (p2 : Int) + 1 ≤ 9223372036854775807 := by omega
              obtain ⟨q2, hq2⟩ : ∃ z, z = p2 + 1 := ⟨_, rfl⟩
              obtain ⟨X33, hX33⟩ : ∃ X : World, X = X32.setCell ⟨L, 1, none⟩ (.int .i64 ((p2 : Int) + 1)) := ⟨_, rfl⟩
              have S33 : Hid (DfS w L a c l q2 false dp #[.int .i64 3, .string n2, .string ⟨#[]⟩, .slice none 0 0] X33) := by rw [Hid, hX33, hq2, show (p2 : Int) + 1 = ((p2 + 1 : Nat) : Int) by omega]; exact S32.out.at_ (p2 + 1)
              have lq2 : q2 ≤ l.length + 1 := by omega
              rw [← hq2] at HDF
              go_upto_region 14 with fail
              rw [← hX33]
              clear hX33 zL zf hi64 S32 hq2
              have HQ34 : Hid _ := rs_name L c q2 a l false dp X33 S33.out.rd (by omega)
              obtain ⟨b3, Hb3⟩ : ∃ z, Hid (z = nmB l q2) := ⟨_, rfl⟩
              obtain ⟨n3, Hn3⟩ : ∃ z, Hid (z = nmI l q2) := ⟨_, rfl⟩
              obtain ⟨p3, Hp3⟩ : ∃ z, Hid (z = adv b3 q2) := ⟨_, rfl⟩
              rw [← Hb3.out, ← Hn3.out, ← Hp3.out] at HQ34
              have lp3 : p3 ≤ l.length + 1 := by rw [Hp3.out, Hb3.out]; exact adv_nmB (by omega) (by omega)
              go_wp2_with fail
              refine Calls.mono HQ34.out ?_
              rintro e w34 ⟨rfl, s34, g34⟩
              have S34 : Hid (DfS w L a c l p3 (b3 && false) dp #[.int .i64 3, .string n2, .string ⟨#[]⟩, .slice none 0 0] w34) := S33.out.call s34 g34
              clear s34 g34 HQ34 S33
              have yx35 := fun o => row_cell S34.out.x o
              have fx35 := fun o => row_frozen S34.out.x o
              obtain ⟨X35, hX35⟩ : ∃ X : World, X = w34.setCell ⟨w.heap.size + 1, 2, none⟩ (.string n3) := ⟨_, rfl⟩
              have S35 : Hid (DfS w L a c l p3 (b3 && false) dp #[.int .i64 3, .string n2, .string n3, .slice none 0 0] X35) := by rw [Hid, hX35]; exact S34.out.put 2 _
              go_upto_region 15 with fail
              rw [← hX35]
              clear hX35 yx35 fx35 S34
              have cx := fun o => row_cell S35.out.x o
              go_wp2_with fail
              go_quiet (fail)
              clear cx
              obtain ⟨wq, hwq⟩ : ∃ z : World, z = X35.drewN nq := ⟨_, rfl⟩
              have SQ : Hid (DfS w L a c l p3 (b3 && o2) dp #[.int .i64 3, .string n2, .string n3, .slice none 0 0] wq) := by rw [Hid, hwq, ho]; exact S35.out.drewN nq
              rw [← hwq]
              clear hwq S35
              go_wp2_with fail
              have HH : Hid (HdO (pDefHead (l.drop i)) l (b3 && o2) 3 n2 n3 p3) := HDF.out b3 n3 p3 Hb3.out Hn3.out Hp3.out
              have SM : Hid (DfS w L a c l p3 (b3 && o2) dp #[.int .i64 3, .string n2, .string n3, .slice none 0 0] wq) := SQ.out
              go_meet
              exact ⟨3, n2, n3, p3, (b3 && o2), SM, HH⟩
            · have ht2 : (n2.toList == [111, 110]) = true := by rw [← HT2.out]; exact ht
              subst hb
              obtain ⟨X36, hX36⟩ : ∃ X : World, X = X31.setCell ⟨L, 2, none⟩ (.bool false) := ⟨_, rfl⟩
              have S36 : Hid (DfS w L a c l p2 false dp #[.int .i64 3, .string n2, .string ⟨#[]⟩, .slice none 0 0] X36) := by rw [Hid, hX36]; exact S31.out.ok_ false
              go_upto_region 13 with fail
              rw [← hX36]
              clear hX36 yx yL fL S31 ht2
              have zL := fun o => row_cell S36.out.rd.cell o
              have zf := fun o => row_frozen S36.out.rd.cell o
              have hi64 : (p2 : Int) + 1 ≤ 9223372036854775807 := by omega
              obtain ⟨q2, hq2⟩ : ∃ z, z = p2 + 1 := ⟨_, rfl⟩
              obtain ⟨X37, hX37⟩ : ∃ X : World, X = X36.setCell ⟨L, 1, none⟩ (.int .i64 ((p2 : Int) + 1)) := ⟨_, rfl⟩
              have S37 : Hid (DfS w L a c l q2 false dp #[.int .i64 3, .string n2, .string ⟨#[]⟩, .slice none 0 0] X37) := by rw [Hid, hX37, hq2, show (p2 : Int) + 1 = ((p2 + 1 : Nat) : Int) by omega]; exact S36.out.at_ (p2 + 1)
              have lq2 : q2 ≤ l.length + 1 := by omega
              rw [← hq2] at HDF
              go_upto_region 14 with fail
              rw [← hX37]
              clear hX37 zL zf hi64 S36 hq2
              have HQ38 : Hid _ := rs_name L c q2 a l false dp X37 S37.out.rd (by omega)
              obtain ⟨b3, Hb3⟩ : ∃ z, Hid (z = nmB l q2) := ⟨_, rfl⟩
              obtain ⟨n3, Hn3⟩ : ∃ z, Hid (z = nmI l q2) := ⟨_, rfl⟩
              obtain ⟨p3, Hp3⟩ : ∃ z, Hid (z = adv b3 q2) := ⟨_, rfl⟩
              rw [← Hb3.out, ← Hn3.out, ← Hp3.out] at HQ38
              have lp3 : p3 ≤ l.length + 1 := by rw [Hp3.out, Hb3.out]; exact adv_nmB (by omega) (by omega)
              go_wp2_with fail
              refine Calls.mono HQ38.out ?_
              rintro e w38 ⟨rfl, s38, g38⟩
              have S38 : Hid (DfS w L a c l p3 (b3 && false) dp #[.int .i64 3, .string n2, .string ⟨#[]⟩, .slice none 0 0] w38) := S37.out.call s38 g38
              clear s38 g38 HQ38 S37
              have yx39 := fun o => row_cell S38.out.x o
              have fx39 := fun o => row_frozen S38.out.x o
              obtain ⟨X39, hX39⟩ : ∃ X : World, X = w38.setCell ⟨w.heap.size + 1, 2, none⟩ (.string n3) := ⟨_, rfl⟩
              have S39 : Hid (DfS w L a c l p3 (b3 && false) dp #[.int .i64 3, .string n2, .string n3, .slice none 0 0] X39) := by rw [Hid, hX39]; exact S38.out.put 2 _
              go_upto_region 15 with fail
              rw [← hX39]
              clear hX39 yx39 fx39 S38
              have cx := fun o => row_cell S39.out.x o
              go_wp2_with fail
              go_quiet (fail)
              clear cx
              obtain ⟨wq, hwq⟩ : ∃ z : World, z = X39.drewN nq := ⟨_, rfl⟩
              have SQ : Hid (DfS w L a c l p3 (b3 && o2) dp #[.int .i64 3, .string n2, .string n3, .slice none 0 0] wq) := by rw [Hid, hwq, ho]; exact S39.out.drewN nq
              rw [← hwq]
              clear hwq S39
              go_wp2_with fail
              have HH : Hid (HdO (pDefHead (l.drop i)) l (b3 && o2) 3 n2 n3 p3) := HDF.out b3 n3 p3 Hb3.out Hn3.out Hp3.out
              have SM : Hid (DfS w L a c l p3 (b3 && o2) dp #[.int .i64 3, .string n2, .string n3, .slice none 0 0] wq) := SQ.out
              go_meet
              exact ⟨3, n2, n3, p3, (b3 && o2), SM, HH⟩
            · have ht2 : (n2.toList == [111, 110]) = false := by rw [← HT2.out]; exact ht
              subst hb
              have HQ40 : Hid _ := rs_is 1 ⟨#[111, 110]⟩ L c p2 a l true dp X31 S31.out.rd
              rw [← HC2.out] at HQ40
              go_wp2_with fail
              refine Calls.mono HQ40.out ?_
              rintro e w40 ⟨rfl, n40, hw40⟩
              have S40 : Hid (DfS w L a c l p2 true dp #[.int .i64 3, .string n2, .string ⟨#[]⟩, .slice none 0 0] w40) := by rw [Hid, hw40]; exact S31.out.drewN n40
              clear hw40 HQ40 S31 yx yL fL ht2
              have yL := fun o => row_cell S40.out.rd.cell o
              have fL := fun o => row_frozen S40.out.rd.cell o
              obtain ⟨Y40, hY40⟩ : ∃ X : World, X = w40.setCell ⟨L, 2, none⟩ (.bool c2) := ⟨_, rfl⟩
              have T40 : Hid (DfS w L a c l p2 c2 dp #[.int .i64 3, .string n2, .string ⟨#[]⟩, .slice none 0 0] Y40) := by rw [Hid, hY40]; exact S40.out.ok_ _
              go_upto_region 13 with fail
              rw [← hY40]
              clear hY40 yL fL S40
              have zL := fun o => row_cell T40.out.rd.cell o
              have zf := fun o => row_frozen T40.out.rd.cell o
              have hi64 : (p2 : Int) + 1 ≤ 9223372036854775807 := by omega
              obtain ⟨q2, hq2⟩ : ∃ z, z = p2 + 1 := ⟨_, rfl⟩
              obtain ⟨X41, hX41⟩ : ∃ X : World, X = Y40.setCell ⟨L, 1, none⟩ (.int .i64 ((p2 : Int) + 1)) := ⟨_, rfl⟩
              have S41 : Hid (DfS w L a c l q2 c2 dp #[.int .i64 3, .string n2, .string ⟨#[]⟩, .slice none 0 0] X41) := by rw [Hid, hX41, hq2, show (p2 : Int) + 1 = ((p2 + 1 : Nat) : Int) by omega]; exact T40.out.at_ (p2 + 1)
              have lq2 : q2 ≤ l.length + 1 := by omega
              rw [← hq2] at HDF
              go_upto_region 14 with fail
              rw [← hX41]
              clear hX41 zL zf hi64 T40 hq2
              have HQ42 : Hid _ := rs_name L c q2 a l c2 dp X41 S41.out.rd (by omega)
              obtain ⟨b3, Hb3⟩ : ∃ z, Hid (z = nmB l q2) := ⟨_, rfl⟩
              obtain ⟨n3, Hn3⟩ : ∃ z, Hid (z = nmI l q2) := ⟨_, rfl⟩
              obtain ⟨p3, Hp3⟩ : ∃ z, Hid (z = adv b3 q2) := ⟨_, rfl⟩
              rw [← Hb3.out, ← Hn3.out, ← Hp3.out] at HQ42
              have lp3 : p3 ≤ l.length + 1 := by rw [Hp3.out, Hb3.out]; exact adv_nmB (by omega) (by omega)
              go_wp2_with fail
              refine Calls.mono HQ42.out ?_
              rintro e w42 ⟨rfl, s42, g42⟩
              have S42 : Hid (DfS w L a c l p3 (b3 && c2) dp #[.int .i64 3, .string n2, .string ⟨#[]⟩, .slice none 0 0] w42) := S41.out.call s42 g42
              clear s42 g42 HQ42 S41
              have yx43 := fun o => row_cell S42.out.x o
              have fx43 := fun o => row_frozen S42.out.x o
              obtain ⟨X43, hX43⟩ : ∃ X : World, X = w42.setCell ⟨w.heap.size + 1, 2, none⟩ (.string n3) := ⟨_, rfl⟩
              have S43 : Hid (DfS w L a c l p3 (b3 && c2) dp #[.int .i64 3, .string n2, .string n3, .slice none 0 0] X43) := by rw [Hid, hX43]; exact S42.out.put 2 _
              go_upto_region 15 with fail
              rw [← hX43]
              clear hX43 yx43 fx43 S42
              have cx := fun o => row_cell S43.out.x o
              go_wp2_with fail
              go_quiet (fail)
              clear cx
              obtain ⟨wq, hwq⟩ : ∃ z : World, z = X43.drewN nq := ⟨_, rfl⟩
              have SQ : Hid (DfS w L a c l p3 (b3 && o2) dp #[.int .i64 3, .string n2, .string n3, .slice none 0 0] wq) := by rw [Hid, hwq, ho]; exact S43.out.drewN nq
              rw [← hwq]
              clear hwq S43
              go_wp2_with fail
              have HH : Hid (HdO (pDefHead (l.drop i)) l (b3 && o2) 3 n2 n3 p3) := HDF.out b3 n3 p3 Hb3.out Hn3.out Hp3.out
              have SM : Hid (DfS w L a c l p3 (b3 && o2) dp #[.int .i64 3, .string n2, .string n3, .slice none 0 0] wq) := SQ.out
              go_meet
              exact ⟨3, n2, n3, p3, (b3 && o2), SM, HH⟩
          case neg =>
            have e3 : (n1.toList == [102, 114, 97, 103, 109, 101, 110, 116]) = false := by simp [w3q]
            have HW1 : Hid (n1.toList ≠ [113, 117, 101, 114, 121]) := w1q
            have HW2 : Hid (n1.toList ≠ [109, 117, 116, 97, 116, 105, 111, 110]) := w2q
            have HW3 : Hid (n1.toList ≠ [102, 114, 97, 103, 109, 101, 110, 116]) := w3q
            clear w1q w2q w3q
            have yL := fun o => row_cell S21.out.rd.cell o
            have fL := fun o => row_frozen S21.out.rd.cell o
            obtain ⟨X44, hX44⟩ : ∃ X : World, X = w21.setCell ⟨L, 2, none⟩ (.bool false) := ⟨_, rfl⟩
            have S44 : Hid (DfS w L a c l p1 false dp #[.int .i64 1, .string ⟨#[]⟩, .string ⟨#[]⟩, .slice none 0 0] X44) := by rw [Hid, hX44]; exact S21.out.ok_ false
            go_upto_region 15 with fail
            rw [← hX44]
            clear hX44 yL fL S21 e1 e2 e3
            have c0 : X44.cell? ⟨L, 0, none⟩ = some (.slice a l.length c) := row_cell S44.out.rd.cell 0
            have c1 : X44.cell? ⟨L, 1, none⟩ = some (.int .i64 p1) := row_cell S44.out.rd.cell 1
            have cx := fun o => row_cell S44.out.x o
            by_cases hlt : p1 < l.length
            case neg =>
              have hltb : decide (p1 < l.length) = false := decide_eq_false hlt
              have HNB : Hid (nmB l p1 = false) := by rw [Hid]; unfold nmB; rw [hltb]; rfl
              clear hlt
              go_wp2_with fail
              go_quiet (fail)
              clear c0 c1 cx hltb
              obtain ⟨wq, hwq⟩ : ∃ z : World, z = X44.drewN nq := ⟨_, rfl⟩
              have SQ : Hid (DfS w L a c l p1 false dp #[.int .i64 1, .string ⟨#[]⟩, .string ⟨#[]⟩, .slice none 0 0] wq) := by rw [Hid, hwq]; exact S44.out.drewN nq
              rw [← hwq]
              clear hwq S44
              go_wp2_with fail
              have HH : Hid (HdO (pDefHead (l.drop i)) l false 1 ⟨#[]⟩ ⟨#[]⟩ p1) := hd_none HG.out HB.out Hn1.out HW1.out HW2.out HW3.out (by omega)
              have SM : Hid (DfS w L a c l p1 false dp #[.int .i64 1, .string ⟨#[]⟩, .string ⟨#[]⟩, .slice none 0 0] wq) := SQ.out
              go_meet
              exact ⟨1, ⟨#[]⟩, ⟨#[]⟩, p1, false, SM, HH⟩
            case pos =>
              have hltb : decide (p1 < l.length) = true := decide_eq_true hlt
              have hlt' : (p1 : Int) < l.length := by omega
              obtain ⟨bb, oo, ha, _, hbL, d0, d1, d2⟩ := S44.out.rd.row.at_ p1 hlt
              subst ha
              replace d0 : X44.cell? ⟨bb, oo + p1 * 3, none⟩ = some (.int .i64 l[p1].k) := d0
              have hnx : nxT l p1 = l[p1] := by unfold nxT; rw [List.getElem?_eq_getElem hlt]
              have HNK : Hid (nmB l p1 = (l[p1].k == 1)) := by rw [Hid]; unfold nmB; rw [hltb, hnx]; rfl
              obtain ⟨kk, hkk⟩ : ∃ z, z = l[p1].k := ⟨_, rfl⟩
              rw [← hkk] at d0 HNK
              have HLT : Hid (p1 < l.length) := hlt
              clear d1 d2 hbL hnx hkk hlt
              cases hk : (kk == 1) with
              | false =>
                have HNB : Hid (nmB l p1 = false) := by rw [Hid, HNK.out, hk]
                clear HNK HLT
                go_wp2_with fail
                go_quiet (fail)
                clear c0 c1 cx hltb hlt' d0 hk
                obtain ⟨wq, hwq⟩ : ∃ z : World, z = X44.drewN nq := ⟨_, rfl⟩
                have SQ : Hid (DfS w L (some ⟨bb, oo, none⟩) c l p1 false dp #[.int .i64 1, .string ⟨#[]⟩, .string ⟨#[]⟩, .slice none 0 0] wq) := by rw [Hid, hwq]; exact S44.out.drewN nq
                rw [← hwq]
                clear hwq S44
                go_wp2_with fail
                have HH : Hid (HdO (pDefHead (l.drop i)) l false 1 ⟨#[]⟩ ⟨#[]⟩ p1) := hd_none HG.out HB.out Hn1.out HW1.out HW2.out HW3.out (by omega)
                have SM : Hid (DfS w L (some ⟨bb, oo, none⟩) c l p1 false dp #[.int .i64 1, .string ⟨#[]⟩, .string ⟨#[]⟩, .slice none 0 0] wq) := SQ.out
                go_meet
                exact ⟨1, ⟨#[]⟩, ⟨#[]⟩, p1, false, SM, HH⟩
              | true =>
                have HNB : Hid (nmB l p1 = true) := by rw [Hid, HNK.out, hk]
                clear HNK
                go_wp2_with fail
                go_quiet (fail)
                clear c0 c1 cx hltb hlt' d0 hk
                obtain ⟨wq, hwq⟩ : ∃ z : World, z = X44.drewN nq := ⟨_, rfl⟩
                have SQ : Hid (DfS w L (some ⟨bb, oo, none⟩) c l p1 false dp #[.int .i64 1, .string ⟨#[]⟩, .string ⟨#[]⟩, .slice none 0 0] wq) := by rw [Hid, hwq]; exact S44.out.drewN nq
                rw [← hwq]
                clear hwq S44
                go_upto_region 16 with fail
                have HQ46 : Hid _ := rs_name L c p1 (some ⟨bb, oo, none⟩) l false dp wq SQ.out.rd (by omega)
                obtain ⟨b2, Hb2⟩ : ∃ z, Hid (z = nmB l p1) := ⟨_, rfl⟩
                obtain ⟨n2, Hn2⟩ : ∃ z, Hid (z = nmI l p1) := ⟨_, rfl⟩
                obtain ⟨p2, Hp2⟩ : ∃ z, Hid (z = adv b2 p1) := ⟨_, rfl⟩
                rw [← Hb2.out, ← Hn2.out, ← Hp2.out] at HQ46
                have lp2 : p2 ≤ l.length + 1 := by rw [Hp2.out, Hb2.out]; exact adv_nmB (by omega) (by omega)
                go_wp2_with fail
                refine Calls.mono HQ46.out ?_
                rintro e w46 ⟨rfl, s46, g46⟩
                have S46 : Hid (DfS w L (some ⟨bb, oo, none⟩) c l p2 (b2 && false) dp #[.int .i64 1, .string ⟨#[]⟩, .string ⟨#[]⟩, .slice none 0 0] w46) := SQ.out.call s46 g46
                clear s46 g46 HQ46 SQ
                have yx47 := fun o => row_cell S46.out.x o
                have fx47 := fun o => row_frozen S46.out.x o
                obtain ⟨X47, hX47⟩ : ∃ X : World, X = w46.setCell ⟨w.heap.size + 1, 1, none⟩ (.string n2) := ⟨_, rfl⟩
                have S47 : Hid (DfS w L (some ⟨bb, oo, none⟩) c l p2 (b2 && false) dp #[.int .i64 1, .string n2, .string ⟨#[]⟩, .slice none 0 0] X47) := by rw [Hid, hX47]; exact S46.out.put 1 _
                go_wp2_with fail
                rw [← hX47]
                clear hX47 yx47 fx47 S46
                have hb2 : b2 = true := by rw [Hb2.out]; exact HNB.out
                have SR : Hid (DfS w L (some ⟨bb, oo, none⟩) c l p2 false dp #[.int .i64 1, .string n2, .string ⟨#[]⟩, .slice none 0 0] X47) := by have := S47.out; rw [hb2] at this; exact this
                clear S47
                have HH : Hid (HdO (pDefHead (l.drop i)) l false 1 n2 ⟨#[]⟩ p2) := hd_none HG.out HB.out Hn1.out HW1.out HW2.out HW3.out (lp2)
                have SM : Hid (DfS w L (some ⟨bb, oo, none⟩) c l p2 false dp #[.int .i64 1, .string n2, .string ⟨#[]⟩, .slice none 0 0] X47) := SR.out
                go_meet
                exact ⟨1, n2, ⟨#[]⟩, p2, false, SM, HH⟩
  case rest =>
    obtain ⟨k, nm, on, q, okH, S9, HH⟩ := hcut
    have lq := HH.out.le
    have HQ9 : Hid _ := HSET.out 7 L c q a l okH dp wc rfl S9.out.rd HG.out (by omega) (fun z => (HH.out.yes z).1)
    have hz9 := S9.out.hz
    go_wp2_with fail
    refine Calls.mono HQ9.out ?_
    rintro e w10 ⟨sb, js, a5, c5, okS, dpS, rfl, ⟨ws5, bk5, o5⟩, s10, AS, g10⟩
    have S10 : Hid (DfS w L a c l js okS dpS #[.int .i64 k, .string nm, .string on, .slice none 0 0] w10) := S9.out.call s10 g10
    have HA : Hid (Af (pDef (l.drop i)) l true dp okS dpS ⟨k, nm, on, sb⟩ js) := def_end HH.out AS
    have R5 : Hid (RowK wc.heap.size w10 (.slice a5 sb.len c5) sb ws5 bk5) := o5
    clear s10 g10 o5 AS HQ9 S9 HH
    have yx := fun o => row_cell S10.out.x o
    have fx := fun o => row_frozen S10.out.x o
    obtain ⟨X11, hX11⟩ : ∃ X : World, X = w10.setCell ⟨w.heap.size + 1, 3, none⟩ (.slice a5 sb.len c5) := ⟨_, rfl⟩
    have S11 : Hid (DfS w L a c l js okS dpS #[.int .i64 k, .string nm, .string on, .slice a5 sb.len c5] X11) := by rw [Hid, hX11]; exact S10.out.put 3 _
    have R6 : Hid (RowK wc.heap.size X11 (.slice a5 sb.len c5) sb ws5 bk5) := by rw [Hid, hX11]; exact R5.out.far (by omega)
    go_upto_region 18 with fail
    rw [← hX11]
    clear hX11 yx fx S10 R5
    have HDN : Hid _ := S11.out.done R6.out (by omega)
    have yx := fun o => row_cell S11.out.x o
    have yr := fun o => row_cell S11.out.r o
    have fr := fun o => row_frozen S11.out.r o
    clear S11 R6
    go_wp2_with fail
    exact bodyPost_ret (v := .agg #[.int .i64 k, .string nm, .string on, .slice a5 sb.len c5]) (results_defS _ _ w.heap.size _ rfl HDN.out.2.2.2 rfl) rfl ⟨⟨k, nm, on, sb⟩, _, _, _, _, _, rfl, HDN.out.2.1, HDN.out.1, HA.out, HDN.out.2.2.1⟩
end Go.Proofs.YtlilfbcngncllaaGreatDoor
