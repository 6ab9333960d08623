/- The specification's test of a document. -/
import Derived.Test.YtajjaddlalbnmaaDocOKs
namespace Go.Proofs.Ytajjaddlalbnmaa
open Go.ChangeShapes Go.WideShapes Go.ChangeAt Go.RowKit
set_option linter.unusedVariables false

theorem size_nil {l : Sels} (h : l.size = 0) : l.isNil = true := by
  cases l with
  | nil => rfl
  | cons _ _ _ => simp [Sels.size] at h
theorem size_not {l : Sels} (h : ¬ l.size = 0) : l.isNil = false := by
  cases l with
  | nil => exact absurd rfl h
  | cons _ _ _ => rfl
theorem cnt_no_def {l : List De} {k : Nat} (hk : k < l.length) (h : cntB 7 l[k].sels = false) : docB l = false := by
  unfold cntB at h
  rw [Bool.and_eq_false_iff] at h
  rcases h with h | h
  · exact doc_no_def hk (by unfold defB; rw [h]; simp)
  · simp only [decide_eq_false_iff_not] at h
    exact doc_many hk (by omega)
theorem cnt_def {x : De} (hh : headB x = true) (h : cntB 7 x.sels = true) (h0 : ¬ x.sels.size = 0) : defB x = true := by
  unfold cntB at h
  rw [Bool.and_eq_true] at h
  unfold defB; rw [hh, h.1, size_not h0]; rfl
theorem head_no {l : List De} {k : Nat} (hk : k < l.length) (h : headB l[k] = false) : docB l = false := doc_no_def hk (by unfold defB; rw [h]; rfl)
/-- What the loop of the specification knows behind some definitions. -/
def DocPre (l : List De) (k s : Nat) : Prop := s = sizeL (l.take k) ∧ s ≤ 60 ∧ (l.take k).all defB = true
theorem DocPre.next {l : List De} {k s : Nat} (h : DocPre l k s) (hk : k < l.length) (hc : cntB 7 l[k].sels = true) (h0 : ¬ l[k].sels.size = 0) (hm : ¬ 60 < s + l[k].sels.size) (hh : headB l[k] = true) : DocPre l (k + 1) (s + l[k].sels.size) :=
  ⟨by rw [sizeL_take hk, h.1], by omega, all_take_b hk h.2.2 (cnt_def hh hc h0)⟩

set_option maxHeartbeats 4000000 in
set_option maxRecDepth 40000 in
theorem spec_doc (a : Option Addr) (c : Nat) (l : List De) (w : World) (hr : DeRow 0 w.heap.size w a l) (hl : l.length ≤ 1048576) (ht : ∀ x ∈ l, DeBd 1048576 x) :
    Calls Try.prog 5 #[.agg #[.slice a l.length c]] w fun e w' => e = .returned (.bool (docB l)) ∧ Below w.heap.size w w' := by
  have B0 : Hid (Below w.heap.size w (w.alloc (.cells #[.slice a l.length c] 25))) := (Below.refl _ _).alloc (Nat.le_refl _) _
  have HR : Hid (DeRow 0 w.heap.size w a l) := hr
  have HT : Hid (∀ x ∈ l, DeBd 1048576 x) := ht
  clear hr ht
  by_cases g1 : 1 ≤ l.length ∧ l.length ≤ 6
  case neg =>
    have HN : Hid (docB l = false) := doc_len g1
    have hin : inB l.length 1 6 = false := by unfold inB; rw [Bool.eq_false_iff]; intro h; simp at h; omega
    clear HR HT
    go_enter Try.func5, Try.ntmps5
    go_wp2_with fail
    refine (spec_in _ _ _ _).mono ?_
    rw [hin]
    rintro e w1 ⟨rfl, rfl⟩
    go_wp2_with fail
    go_ret
    exact ⟨ret_bool HN.out.symm, B0.out⟩
  have hin : inB l.length 1 6 = true := by unfold inB; simp; omega
  have G1 : Hid (1 ≤ l.length ∧ l.length ≤ 6) := g1
  have g1 := g1.2
  go_enter Try.func5, Try.ntmps5
  go_wp2_with fail
  refine (spec_in _ _ _ _).mono ?_
  rw [hin]
  rintro e w1 ⟨rfl, rfl⟩
  clear hin
  go_wp2_with fail
  go_loopw [3, 4] (fun n i w' => ∃ (k s : Nat), k ≤ l.length ∧ i = .int .i64 k ∧ n = .int .i64 s ∧ s ≤ 60 ∧ Below (w.heap.size + 1) (w.alloc (.cells #[.slice a l.length c] 25)) w' ∧ Hid (DocPre l k s)) (fun _ i _ => l.length - (intOf i).toNat)
  case atStart => exact ⟨0, 0, by omega, rfl, rfl, by omega, Below.refl _ _, ⟨rfl, by omega, rfl⟩⟩
  case round =>
    rename_i wr
    obtain ⟨k, s, hk, rfl, rfl, hs, hb, HA⟩ := hrel
    have k0 := fun o => hb.cell (p := ⟨w.heap.size, o, none⟩) (show w.heap.size < w.heap.size + 1 by omega)
    have hz := size_one hb
    have Q0 : Hid (Below w.heap.size w wr) := B0.out.trans (hb.mono (by omega))
    by_cases hlt : k < l.length
    · obtain ⟨b, o, a3, c3, ha, _, hbl, d0, d1, d2, d3, r3⟩ := DeRow.cells (DeRow.keep HR.out (Below.agree Q0.out (Nat.le_refl _))) k hlt
      subst ha
      have HX : Hid (DeBd 1048576 l[k]) := HT.out l[k] (List.getElem_mem hlt)
      have sn : l[k].nm.size ≤ maxLen := by have := HX.out.1; unfold maxLen; omega
      have so : l[k].on.size ≤ maxLen := by have := HX.out.2.1; unfold maxLen; omega
      have K3 : Hid (∀ W0, Below wr.heap.size wr W0 → SelRow 0 W0.heap.size W0 a3 l[k].sels) := fun W0 hB => SelRow.up (SelRow.wide r3 (Nat.le_refl _) (by omega)) hB
      clear r3
      go_wp2_with fail
      refine (spec_sels l[k].sels a3 c3 7 _ (K3.out _ ?b0) HX.out.2.2.1 HX.out.2.2.2 (by omega)).mono ?_
      case b0 => repeat (first | exact Below.refl _ _ | refine Below.setCell ?_ (by first | omega | (simp <;> omega)) _ | refine Below.alloc ?_ (by first | omega | (simp <;> omega)) _)
      cases hc : cntB 7 l[k].sels
      · rw [cnt_no hc]
        rintro e w1 ⟨rfl, hb1⟩
        have HN : Hid (docB l = false) := cnt_no_def hlt hc
        have q1 : Hid (Below w.heap.size w w1) := by
          refine Q0.out.trans (Below.trans ?_ (hb1.mono (by first | omega | (simp <;> omega))))
          repeat (first | exact Below.refl _ _ | refine Below.setCell ?_ (by first | omega | (simp <;> omega)) _ | refine Below.alloc ?_ (by first | omega | (simp <;> omega)) _)
        go_wp2_with fail
        go_ret
        exact ⟨ret_bool HN.out.symm, q1.out⟩
      rw [(cnt_yes hc).1]
      have h60 := (cnt_yes hc).2
      rintro e w1 ⟨rfl, hb1⟩
      have hz1 : wr.heap.size + 1 ≤ w1.heap.size := by have := hb1.size; simpa using this
      have p1 : Below wr.heap.size wr w1 := by
        refine Below.trans ?_ (hb1.mono (by first | omega | (simp <;> omega)))
        repeat (first | exact Below.refl _ _ | refine Below.setCell ?_ (by first | omega | (simp <;> omega)) _ | refine Below.alloc ?_ (by first | omega | (simp <;> omega)) _)
      have Q1 : Hid (Below (w.heap.size + 1) _ w1) := hb.trans (p1.mono (by omega))
      have q1 : Hid (Below w.heap.size w w1) := Q0.out.trans (p1.mono (by omega))
      have j0 := fun o => hb1.cell (p := ⟨wr.heap.size, o, none⟩) (by first | omega | (simp <;> omega))
      clear hb1 p1 k0 hb
      by_cases hz0 : l[k].sels.size = 0
      · have HN : Hid (docB l = false) := doc_no_def hlt (by unfold defB; rw [size_nil hz0]; simp)
        go_wp2_with fail
        go_ret
        exact ⟨ret_bool HN.out.symm, q1.out⟩
      have hzb : ((l[k].sels.size : Int) == 0) = false := by rw [beq_eq_false_iff_ne]; omega
      by_cases hm : 60 < s + l[k].sels.size
      · have HN : Hid (docB l = false) := doc_many hlt (by rw [← HA.out.1]; exact hm)
        clear hz0
        go_wp2_with fail
        go_ret
        exact ⟨ret_bool HN.out.symm, q1.out⟩
      have HX2 : Hid (headB l[k] = true → DocPre l (k + 1) (s + l[k].sels.size)) := fun hh => HA.out.next hlt hc hz0 hm hh
      have HX3 : Hid (headB l[k] = false → docB l = false) := head_no hlt
      have hm2 : s + l[k].sels.size ≤ 60 := by omega
      clear hz0 HX hc HA
      by_cases hkk : l[k].k = 1 ∨ l[k].k = 2
      · have HK : Hid (headB l[k] = ((noB l[k].nm || nameB l[k].nm) && noB l[k].on)) := by unfold Hid headB; rw [if_pos hkk]
        by_cases ho : l[k].on.toList = []
        case neg =>
          have HN : Hid (docB l = false) := HX3.out (by rw [HK.out, no_not ho]; simp)
          clear HX2 HX3 HK
          rcases hkk with hkk | hkk
          · go_wp2_with fail
            go_ret
            exact ⟨ret_bool HN.out.symm, q1.out⟩
          · have m1 : (l[k].k == 1) = false := by rw [hkk]; rfl
            go_wp2_with fail
            go_ret
            exact ⟨ret_bool HN.out.symm, q1.out⟩
        by_cases hn0 : l[k].nm.toList = []
        · have HN : Hid _ := HX2.out (by rw [HK.out, no_of ho, no_of hn0]; rfl)
          clear HX2 HX3 HK
          rcases hkk with hkk | hkk
          · go_wp2_with fail
            go_roundw
            case rel => exact ⟨k + 1, s + l[k].sels.size, by omega, by go_num, by go_num, hm2, Q1.out, HN⟩
            case measure => simp [intOf]; omega
          · have m1 : (l[k].k == 1) = false := by rw [hkk]; rfl
            go_wp2_with fail
            go_roundw
            case rel => exact ⟨k + 1, s + l[k].sels.size, by omega, by go_num, by go_num, hm2, Q1.out, HN⟩
            case measure => simp [intOf]; omega
        have nz : l[k].nm.toList.isEmpty = false := no_not hn0
        cases bn : nameB l[k].nm
        · have HN : Hid (docB l = false) := HX3.out (by rw [HK.out, no_not hn0, bn]; rfl)
          clear HX2 HX3 HK
          rcases hkk with hkk | hkk
          · go_wp2_with fail
            refine (spec_nameOK l[k].nm _ sn).mono ?_
            rw [bn]
            rintro e w9 ⟨rfl, rfl⟩
            go_wp2_with fail
            go_ret
            exact ⟨ret_bool HN.out.symm, q1.out⟩
          · have m1 : (l[k].k == 1) = false := by rw [hkk]; rfl
            go_wp2_with fail
            refine (spec_nameOK l[k].nm _ sn).mono ?_
            rw [bn]
            rintro e w9 ⟨rfl, rfl⟩
            go_wp2_with fail
            go_ret
            exact ⟨ret_bool HN.out.symm, q1.out⟩
        · have HN : Hid _ := HX2.out (by rw [HK.out, no_of ho, bn]; simp)
          clear HX2 HX3 HK
          rcases hkk with hkk | hkk
          · go_wp2_with fail
            refine (spec_nameOK l[k].nm _ sn).mono ?_
            rw [bn]
            rintro e w9 ⟨rfl, rfl⟩
            go_wp2_with fail
            go_roundw
            case rel => exact ⟨k + 1, s + l[k].sels.size, by omega, by go_num, by go_num, hm2, Q1.out, HN⟩
            case measure => simp [intOf]; omega
          · have m1 : (l[k].k == 1) = false := by rw [hkk]; rfl
            go_wp2_with fail
            refine (spec_nameOK l[k].nm _ sn).mono ?_
            rw [bn]
            rintro e w9 ⟨rfl, rfl⟩
            go_wp2_with fail
            go_roundw
            case rel => exact ⟨k + 1, s + l[k].sels.size, by omega, by go_num, by go_num, hm2, Q1.out, HN⟩
            case measure => simp [intOf]; omega
      have m1 : (l[k].k == 1) = false := by rw [beq_eq_false_iff_ne]; omega
      have m2 : (l[k].k == 2) = false := by rw [beq_eq_false_iff_ne]; omega
      by_cases h3 : l[k].k = 3
      · have HK : Hid (headB l[k] = (nameB l[k].nm && !onB l[k].nm && nameB l[k].on)) := by unfold Hid headB; rw [if_neg hkk, if_pos h3]
        clear hkk
        cases bn : nameB l[k].nm
        · have HN : Hid (docB l = false) := HX3.out (by rw [HK.out, bn]; rfl)
          clear HX2 HX3 HK
          go_wp2_with fail
          refine (spec_nameOK l[k].nm _ sn).mono ?_
          rw [bn]
          rintro e w9 ⟨rfl, rfl⟩
          go_wp2_with fail
          go_ret
          exact ⟨ret_bool HN.out.symm, q1.out⟩
        by_cases ho : l[k].nm.toList = [111, 110]
        · have HN : Hid (docB l = false) := HX3.out (by rw [HK.out, on_of ho]; simp)
          clear HX2 HX3 HK
          go_wp2_with fail
          refine (spec_nameOK l[k].nm _ sn).mono ?_
          rw [bn]
          rintro e w9 ⟨rfl, rfl⟩
          go_wp2_with fail
          go_ret
          exact ⟨ret_bool HN.out.symm, q1.out⟩
        have ho2 : (l[k].nm.toList == [111, 110]) = false := on_not ho
        cases bo : nameB l[k].on
        · have HN : Hid (docB l = false) := HX3.out (by rw [HK.out, bo]; simp)
          clear HX2 HX3 HK
          go_wp2_with fail
          refine (spec_nameOK l[k].nm _ sn).mono ?_
          rw [bn]
          rintro e w9 ⟨rfl, rfl⟩
          go_wp2_with fail
          refine (spec_nameOK l[k].on _ so).mono ?_
          rw [bo]
          rintro e w9 ⟨rfl, rfl⟩
          go_wp2_with fail
          go_ret
          exact ⟨ret_bool HN.out.symm, q1.out⟩
        · have HN : Hid _ := HX2.out (by rw [HK.out, bn, bo, on_not ho]; rfl)
          clear HX2 HX3 HK
          go_wp2_with fail
          refine (spec_nameOK l[k].nm _ sn).mono ?_
          rw [bn]
          rintro e w9 ⟨rfl, rfl⟩
          go_wp2_with fail
          refine (spec_nameOK l[k].on _ so).mono ?_
          rw [bo]
          rintro e w9 ⟨rfl, rfl⟩
          go_wp2_with fail
          go_roundw
          case rel => exact ⟨k + 1, s + l[k].sels.size, by omega, by go_num, by go_num, hm2, Q1.out, HN⟩
          case measure => simp [intOf]; omega
      have m3 : (l[k].k == 3) = false := by rw [beq_eq_false_iff_ne]; omega
      have HN : Hid (docB l = false) := HX3.out (by unfold headB; rw [if_neg hkk, if_neg h3])
      clear HX2 HX3 hkk h3
      go_wp2_with fail
      go_ret
      exact ⟨ret_bool HN.out.symm, q1.out⟩
    · have HN : Hid (docB l = true) := by
        have h1 := HA.out
        unfold DocPre at h1
        rw [List.take_of_length_le (by omega)] at h1
        exact doc_yes G1.out h1.2.2 (by omega)
      go_wp2_with fail
      go_ret
      exact ⟨ret_bool HN.out.symm, Q0.out⟩
end Go.Proofs.Ytajjaddlalbnmaa
