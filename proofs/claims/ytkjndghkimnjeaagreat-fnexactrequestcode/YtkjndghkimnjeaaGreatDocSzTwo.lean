/- The same of selections, definitions and documents. -/
import Derived.Test.YtkjndghkimnjeaaGreatDocSpecTwo
import Derived.Test.YtkjndghkimnjeaaGreatDocTo
namespace Go.Proofs.YtkjndghkimnjeaaGreat
open Go.ChangeShapes Go.WideShapes Go.ChangeAt Go.RowKit
set_option linter.unusedVariables false

theorem doc_no_def {l : List De} {k : Nat} (hk : k < l.length) (h : defB l[k] = false) : docB l = false := by
  unfold docB; rw [all_no_b hk h]; simp
theorem doc_many {l : List De} {k : Nat} (hk : k < l.length) (h : 60 < sizeL (l.take k) + l[k].sels.size) : docB l = false := by
  have h1 := sizeL_take hk
  have h2 := sizeL_le l (k + 1)
  have : ¬ sizeL l ≤ 60 := by omega
  unfold docB; simp [this]
theorem doc_len {l : List De} (h : ¬ (1 ≤ l.length ∧ l.length ≤ 6)) : docB l = false := by
  unfold docB
  by_cases h1 : 1 ≤ l.length
  · have : ¬ l.length ≤ 6 := fun h2 => h ⟨h1, h2⟩
    simp [this]
  · simp [h1]
theorem doc_yes {l : List De} (h : 1 ≤ l.length ∧ l.length ≤ 6) (ha : l.all defB = true) (hs : sizeL l ≤ 60) : docB l = true := by
  unfold docB; rw [ha]; simp [h.1, h.2, hs]
theorem takes_no {l : List De} {k : Nat} (hk : k < l.length) (h : takesB 7 (60 - (sizeL (l.take k) : Int)) l[k].sels = false) : docB l = false := by
  unfold takesB at h
  simp only [Bool.and_eq_false_iff] at h
  rcases h with (h | h) | h
  · exact doc_no_def hk (by unfold defB; rw [h]; simp)
  · exact doc_no_def hk (by unfold defB; rw [h]; simp)
  · simp only [decide_eq_false_iff_not] at h
    exact doc_many hk (by omega)

set_option maxHeartbeats 4000000 in
set_option maxRecDepth 40000 in
theorem impl_doc (a : Option Addr) (c : Nat) (l : List De) (w : World) (hr : DeRow 0 w.heap.size w a l) (hl : l.length ≤ 1048576) (ht : ∀ x ∈ l, DeBd 1048576 x) :
    Calls Tryz.prog 28 #[.agg #[.slice a l.length c]] w fun e w' => e = .returned (.bool (docB l)) ∧ Below w.heap.size w w' := by
  have B0 : Hid (Below w.heap.size w (w.alloc (.cells #[.slice a l.length c] 33))) := (Below.refl _ _).alloc (Nat.le_refl _) _
  have HR : Hid (DeRow 0 w.heap.size w a l) := hr
  have HT : Hid (∀ x ∈ l, DeBd 1048576 x) := ht
  clear hr ht
  by_cases g1 : l.length < 1
  · have HN : Hid (docB l = false) := doc_len (by omega)
    clear HR HT
    go_enter Tryz.func28, Tryz.ntmps28
    go_wp2_with fail
    go_ret
    exact ⟨ret_bool HN.out.symm, B0.out⟩
  by_cases g2 : 6 < l.length
  · have HN : Hid (docB l = false) := doc_len (by omega)
    clear HR HT
    go_enter Tryz.func28, Tryz.ntmps28
    go_wp2_with fail
    go_ret
    exact ⟨ret_bool HN.out.symm, B0.out⟩
  have HS : Hid (Room ((w.alloc (.cells #[.slice a l.length c] 33)).alloc (.cells #[.int .i64 60] 98)) (w.heap.size + 1) (60 - ((0 : Nat) : Int))) := by
    have h1 := heap_alloc_new (w.alloc (.cells #[.slice a l.length c] 33)) (.cells #[.int .i64 60] 98)
    rw [show (w.alloc (.cells #[.slice a l.length c] 33)).heap.size = w.heap.size + 1 by simp] at h1
    exact h1
  go_enter Tryz.func28, Tryz.ntmps28
  go_wp2_with fail
  go_loopw [20] (fun i w' => ∃ (k s : Nat), k ≤ l.length ∧ i = .int .i64 k ∧ Below w.heap.size w w' ∧ Hid (s = sizeL (l.take k)) ∧ s ≤ 60 ∧ Hid (Room w' (w.heap.size + 1) (60 - (s : Int))) ∧ Hid ((l.take k).all defB = true)) (fun i _ => l.length - (intOf i).toNat)
  case atStart => exact ⟨0, 0, by omega, rfl, B0.out.alloc (by simp) _, rfl, by omega, HS, rfl⟩
  case round =>
    rename_i wr
    obtain ⟨k, s, hk, rfl, hb, HZ, hs, HO, HA⟩ := hrel
    by_cases hlt : k < l.length
    · obtain ⟨b, o, a3, c3, ha, _, hbl, d0, d1, d2, d3, r3⟩ := DeRow.cells (DeRow.keep HR.out (Below.agree hb (Nat.le_refl _))) k hlt
      subst ha
      have HX : Hid (DeBd 1048576 l[k]) := HT.out l[k] (List.getElem_mem hlt)
      have hRr := HO.out.lt
      have K3 : Hid (∀ W0, Below (w.heap.size + 2) wr W0 → SelRow 0 (w.heap.size + 1) W0 a3 l[k].sels) := fun W0 hB => (SelRow.keep r3 (Below.agree hB (by omega))).wide (Nat.le_refl _) (by omega)
      clear r3
      go_wp2_with fail
      refine (impl_head l[k] l[k].sels.len a3 c3 _ (by have := HX.out.1; unfold maxLen; omega) (by have := HX.out.2.1; unfold maxLen; omega)).mono ?_
      cases hh : headB l[k]
      · rintro e w1 ⟨rfl, hb1⟩
        have HN : Hid (docB l = false) := doc_no_def hlt (by unfold defB; rw [hh]; rfl)
        have q1 : Hid (Below w.heap.size w w1) := by
          refine hb.trans (Below.trans ?_ (hb1.mono (by first | omega | (simp <;> omega))))
          repeat (first | exact Below.refl _ _ | refine Below.setCell ?_ (by first | omega | (simp <;> omega)) _ | refine Below.alloc ?_ (by first | omega | (simp <;> omega)) _)
        go_wp2_with fail
        go_ret
        exact ⟨ret_bool HN.out.symm, q1.out⟩
      · rintro e w1 ⟨rfl, hb1⟩
        have p1 : Below (w.heap.size + 2) wr w1 := by
          refine Below.trans ?_ (hb1.mono (by first | omega | (simp <;> omega)))
          repeat (first | exact Below.refl _ _ | refine Below.setCell ?_ (by first | omega | (simp <;> omega)) _ | refine Below.alloc ?_ (by first | omega | (simp <;> omega)) _)
        have P1 : Hid _ := p1
        have HO3 : Hid (Room w1 (w.heap.size + 1) (60 - (s : Int))) := HO.out.keep p1 (by omega)
        have k0 := fun o => hb1.cell (p := ⟨wr.heap.size, o, none⟩) (by first | omega | (simp <;> omega))
        have Q1 : Hid (Below w.heap.size w w1) := hb.trans (p1.mono (by omega))
        clear hb1 p1
        go_wp2_with fail
        refine (impl_takes l[k].sels (w.heap.size + 1) a3 c3 7 1 (60 - (s : Int)) _ HO3.out (K3.out _ P1.out) HX.out.2.2.1 HX.out.2.2.2 (by omega) (by omega) (by omega) (by omega)).mono ?_
        cases ht : takesB 7 (60 - (s : Int)) l[k].sels
        · rintro e w2 ⟨rfl, hb2, _⟩
          have HN : Hid (docB l = false) := takes_no hlt (by rw [← HZ.out]; exact ht)
          go_wp2_with fail
          go_ret
          exact ⟨ret_bool HN.out.symm, Q1.out.trans (hb2.mono (by omega))⟩
        · rintro e w2 ⟨rfl, hb2, hr2⟩
          have ht' := ht
          simp only [takesB, Bool.and_eq_true, decide_eq_true_eq] at ht'
          have HR2 : Hid (Room w2 (w.heap.size + 1) (60 - ((s + l[k].sels.size : Nat) : Int))) := by
            have := hr2 rfl
            rwa [show (60 : Int) - (s : Int) - (l[k].sels.size : Int) = 60 - ((s + l[k].sels.size : Nat) : Int) by omega] at this
          have HN : Hid ((l.take (k + 1)).all defB = true) := all_take_b hlt HA.out (by unfold defB; rw [hh, ht'.1.1, ht'.1.2]; rfl)
          have HZ2 : Hid (s + l[k].sels.size = sizeL (l.take (k + 1))) := by rw [Hid, sizeL_take hlt, HZ.out]
          have hle := ht'.2
          have hle2 : s + l[k].sels.size ≤ 60 := by omega
          clear hr2 ht'
          go_wp2_with fail
          go_roundw
          case rel => exact ⟨k + 1, s + l[k].sels.size, by omega, by go_num, Q1.out.trans (hb2.mono (by omega)), HZ2, hle2, HR2, HN⟩
          case measure => simp [intOf]; omega
    · have HN : Hid (docB l = true) := by
        have h1 := HA.out
        have h2 := HZ.out
        rw [List.take_of_length_le (by omega)] at h1 h2
        exact doc_yes (by omega) h1 (by omega)
      go_wp2_with fail
      go_ret
      exact ⟨ret_bool HN.out.symm, hb⟩
end Go.Proofs.YtkjndghkimnjeaaGreat
namespace Go.Proofs.YtkjndghkimnjeaaGreat
open Go.ChangeShapes Go.WideShapes Go.ChangeAt Go.RowKit
set_option linter.unusedVariables false

theorem size_nil {l : Sels} (h : l.size = 0) : l.isNil = true := by
  cases l with
  | nil => rfl
  | cons _ _ _ => simp [Sels.size] at h
theorem size_not {l : Sels} (h : ¬ l.size = 0) : l.isNil = false := by
  cases l with
  | nil => exact absurd rfl h
  | cons _ _ _ => rfl
theorem cnt_no_def {l : List De} {k : Nat} (hk : k < l.length) (h : cntB 7 l[k].sels = false) : docB l = false := by
  unfold cntB at h
  rw [Bool.and_eq_false_iff] at h
  rcases h with h | h
  · exact doc_no_def hk (by unfold defB; rw [h]; simp)
  · simp only [decide_eq_false_iff_not] at h
    exact doc_many hk (by omega)
theorem cnt_def {x : De} (hh : headB x = true) (h : cntB 7 x.sels = true) (h0 : ¬ x.sels.size = 0) : defB x = true := by
  unfold cntB at h
  rw [Bool.and_eq_true] at h
  unfold defB; rw [hh, h.1, size_not h0]; rfl
theorem head_no {l : List De} {k : Nat} (hk : k < l.length) (h : headB l[k] = false) : docB l = false := doc_no_def hk (by unfold defB; rw [h]; rfl)
/-- What the loop of the specification knows behind some definitions. -/
def DocPre (l : List De) (k s : Nat) : Prop := s = sizeL (l.take k) ∧ s ≤ 60 ∧ (l.take k).all defB = true
theorem DocPre.next {l : List De} {k s : Nat} (h : DocPre l k s) (hk : k < l.length) (hc : cntB 7 l[k].sels = true) (h0 : ¬ l[k].sels.size = 0) (hm : ¬ 60 < s + l[k].sels.size) (hh : headB l[k] = true) : DocPre l (k + 1) (s + l[k].sels.size) :=
  ⟨by rw [sizeL_take hk, h.1], by omega, all_take_b hk h.2.2 (cnt_def hh hc h0)⟩

set_option maxHeartbeats 4000000 in
set_option maxRecDepth 40000 in
theorem spec_doc (a : Option Addr) (c : Nat) (l : List De) (w : World) (hr : DeRow 0 w.heap.size w a l) (hl : l.length ≤ 1048576) (ht : ∀ x ∈ l, DeBd 1048576 x) :
    Calls Tryz.prog 21 #[.agg #[.slice a l.length c]] w fun e w' => e = .returned (.bool (docB l)) ∧ Below w.heap.size w w' := by
  have B0 : Hid (Below w.heap.size w (w.alloc (.cells #[.slice a l.length c] 33))) := (Below.refl _ _).alloc (Nat.le_refl _) _
  have HR : Hid (DeRow 0 w.heap.size w a l) := hr
  have HT : Hid (∀ x ∈ l, DeBd 1048576 x) := ht
  clear hr ht
  by_cases g1 : 1 ≤ l.length ∧ l.length ≤ 6
  case neg =>
    have HN : Hid (docB l = false) := doc_len g1
    have hin : inB l.length 1 6 = false := by unfold inB; rw [Bool.eq_false_iff]; intro h; simp at h; omega
    clear HR HT
    go_enter Tryz.func21, Tryz.ntmps21
    go_wp2_with fail
    refine (spec_in _ _ _ _).mono ?_
    rw [hin]
    rintro e w1 ⟨rfl, rfl⟩
    go_wp2_with fail
    go_ret
    exact ⟨ret_bool HN.out.symm, B0.out⟩
  have hin : inB l.length 1 6 = true := by unfold inB; simp; omega
  have G1 : Hid (1 ≤ l.length ∧ l.length ≤ 6) := g1
  have g1 := g1.2
  go_enter Tryz.func21, Tryz.ntmps21
  go_wp2_with fail
  refine (spec_in _ _ _ _).mono ?_
  rw [hin]
  rintro e w1 ⟨rfl, rfl⟩
  clear hin
  go_wp2_with fail
  go_loopw [3, 4] (fun n i w' => ∃ (k s : Nat), k ≤ l.length ∧ i = .int .i64 k ∧ n = .int .i64 s ∧ s ≤ 60 ∧ Below (w.heap.size + 1) (w.alloc (.cells #[.slice a l.length c] 33)) w' ∧ Hid (DocPre l k s)) (fun _ i _ => l.length - (intOf i).toNat)
  case atStart => exact ⟨0, 0, by omega, rfl, rfl, by omega, Below.refl _ _, ⟨rfl, by omega, rfl⟩⟩
  case round =>
    rename_i wr
    obtain ⟨k, s, hk, rfl, rfl, hs, hb, HA⟩ := hrel
    have k0 := fun o => hb.cell (p := ⟨w.heap.size, o, none⟩) (show w.heap.size < w.heap.size + 1 by omega)
    have hz := size_one hb
    have Q0 : Hid (Below w.heap.size w wr) := B0.out.trans (hb.mono (by omega))
    by_cases hlt : k < l.length
    · obtain ⟨b, o, a3, c3, ha, _, hbl, d0, d1, d2, d3, r3⟩ := DeRow.cells (DeRow.keep HR.out (Below.agree Q0.out (Nat.le_refl _))) k hlt
      subst ha
      have HX : Hid (DeBd 1048576 l[k]) := HT.out l[k] (List.getElem_mem hlt)
      have sn : l[k].nm.size ≤ maxLen := by have := HX.out.1; unfold maxLen; omega
      have so : l[k].on.size ≤ maxLen := by have := HX.out.2.1; unfold maxLen; omega
      have K3 : Hid (∀ W0, Below wr.heap.size wr W0 → SelRow 0 W0.heap.size W0 a3 l[k].sels) := fun W0 hB => SelRow.up (SelRow.wide r3 (Nat.le_refl _) (by omega)) hB
      clear r3
      go_wp2_with fail
      refine (spec_sels l[k].sels a3 c3 7 _ (K3.out _ ?b0) HX.out.2.2.1 HX.out.2.2.2 (by omega)).mono ?_
      case b0 => repeat (first | exact Below.refl _ _ | refine Below.setCell ?_ (by first | omega | (simp <;> omega)) _ | refine Below.alloc ?_ (by first | omega | (simp <;> omega)) _)
      cases hc : cntB 7 l[k].sels
      · rw [cnt_no hc]
        rintro e w1 ⟨rfl, hb1⟩
        have HN : Hid (docB l = false) := cnt_no_def hlt hc
        have q1 : Hid (Below w.heap.size w w1) := by
          refine Q0.out.trans (Below.trans ?_ (hb1.mono (by first | omega | (simp <;> omega))))
          repeat (first | exact Below.refl _ _ | refine Below.setCell ?_ (by first | omega | (simp <;> omega)) _ | refine Below.alloc ?_ (by first | omega | (simp <;> omega)) _)
        go_wp2_with fail
        go_ret
        exact ⟨ret_bool HN.out.symm, q1.out⟩
      rw [(cnt_yes hc).1]
      have h60 := (cnt_yes hc).2
      rintro e w1 ⟨rfl, hb1⟩
      have hz1 : wr.heap.size + 1 ≤ w1.heap.size := by have := hb1.size; simpa using this
      have p1 : Below wr.heap.size wr w1 := by
        refine Below.trans ?_ (hb1.mono (by first | omega | (simp <;> omega)))
        repeat (first | exact Below.refl _ _ | refine Below.setCell ?_ (by first | omega | (simp <;> omega)) _ | refine Below.alloc ?_ (by first | omega | (simp <;> omega)) _)
      have Q1 : Hid (Below (w.heap.size + 1) _ w1) := hb.trans (p1.mono (by omega))
      have q1 : Hid (Below w.heap.size w w1) := Q0.out.trans (p1.mono (by omega))
      have j0 := fun o => hb1.cell (p := ⟨wr.heap.size, o, none⟩) (by first | omega | (simp <;> omega))
      clear hb1 p1 k0 hb
      by_cases hz0 : l[k].sels.size = 0
      · have HN : Hid (docB l = false) := doc_no_def hlt (by unfold defB; rw [size_nil hz0]; simp)
        go_wp2_with fail
        go_ret
        exact ⟨ret_bool HN.out.symm, q1.out⟩
      have hzb : ((l[k].sels.size : Int) == 0) = false := by rw [beq_eq_false_iff_ne]; omega
      by_cases hm : 60 < s + l[k].sels.size
      · have HN : Hid (docB l = false) := doc_many hlt (by rw [← HA.out.1]; exact hm)
        clear hz0
        go_wp2_with fail
        go_ret
        exact ⟨ret_bool HN.out.symm, q1.out⟩
      have HX2 : Hid (headB l[k] = true → DocPre l (k + 1) (s + l[k].sels.size)) := fun hh => HA.out.next hlt hc hz0 hm hh
      have HX3 : Hid (headB l[k] = false → docB l = false) := head_no hlt
      have hm2 : s + l[k].sels.size ≤ 60 := by omega
      clear hz0 HX hc HA
      by_cases hkk : l[k].k = 1 ∨ l[k].k = 2
      · have HK : Hid (headB l[k] = ((noB l[k].nm || nameB l[k].nm) && noB l[k].on)) := by unfold Hid headB; rw [if_pos hkk]
        by_cases ho : l[k].on.toList = []
        case neg =>
          have HN : Hid (docB l = false) := HX3.out (by rw [HK.out, no_not ho]; simp)
          clear HX2 HX3 HK
          rcases hkk with hkk | hkk
          · go_wp2_with fail
            go_ret
            exact ⟨ret_bool HN.out.symm, q1.out⟩
          · have m1 : (l[k].k == 1) = false := by rw [hkk]; rfl
            go_wp2_with fail
            go_ret
            exact ⟨ret_bool HN.out.symm, q1.out⟩
        by_cases hn0 : l[k].nm.toList = []
        · have HN : Hid _ := HX2.out (by rw [HK.out, no_of ho, no_of hn0]; rfl)
          clear HX2 HX3 HK
          rcases hkk with hkk | hkk
          · go_wp2_with fail
            go_roundw
            case rel => exact ⟨k + 1, s + l[k].sels.size, by omega, by go_num, by go_num, hm2, Q1.out, HN⟩
            case measure => simp [intOf]; omega
          · have m1 : (l[k].k == 1) = false := by rw [hkk]; rfl
            go_wp2_with fail
            go_roundw
            case rel => exact ⟨k + 1, s + l[k].sels.size, by omega, by go_num, by go_num, hm2, Q1.out, HN⟩
            case measure => simp [intOf]; omega
        have nz : l[k].nm.toList.isEmpty = false := no_not hn0
        cases bn : nameB l[k].nm
        · have HN : Hid (docB l = false) := HX3.out (by rw [HK.out, no_not hn0, bn]; rfl)
          clear HX2 HX3 HK
          rcases hkk with hkk | hkk
          · go_wp2_with fail
            refine (spec_nameOK l[k].nm _ sn).mono ?_
            rw [bn]
            rintro e w9 ⟨rfl, rfl⟩
            go_wp2_with fail
            go_ret
            exact ⟨ret_bool HN.out.symm, q1.out⟩
          · have m1 : (l[k].k == 1) = false := by rw [hkk]; rfl
            go_wp2_with fail
            refine (spec_nameOK l[k].nm _ sn).mono ?_
            rw [bn]
            rintro e w9 ⟨rfl, rfl⟩
            go_wp2_with fail
            go_ret
            exact ⟨ret_bool HN.out.symm, q1.out⟩
        · have HN : Hid _ := HX2.out (by rw [HK.out, no_of ho, bn]; simp)
          clear HX2 HX3 HK
          rcases hkk with hkk | hkk
          · go_wp2_with fail
            refine (spec_nameOK l[k].nm _ sn).mono ?_
            rw [bn]
            rintro e w9 ⟨rfl, rfl⟩
            go_wp2_with fail
            go_roundw
            case rel => exact ⟨k + 1, s + l[k].sels.size, by omega, by go_num, by go_num, hm2, Q1.out, HN⟩
            case measure => simp [intOf]; omega
          · have m1 : (l[k].k == 1) = false := by rw [hkk]; rfl
            go_wp2_with fail
            refine (spec_nameOK l[k].nm _ sn).mono ?_
            rw [bn]
            rintro e w9 ⟨rfl, rfl⟩
            go_wp2_with fail
            go_roundw
            case rel => exact ⟨k + 1, s + l[k].sels.size, by omega, by go_num, by go_num, hm2, Q1.out, HN⟩
            case measure => simp [intOf]; omega
      have m1 : (l[k].k == 1) = false := by rw [beq_eq_false_iff_ne]; omega
      have m2 : (l[k].k == 2) = false := by rw [beq_eq_false_iff_ne]; omega
      by_cases h3 : l[k].k = 3
      · have HK : Hid (headB l[k] = (nameB l[k].nm && !onB l[k].nm && nameB l[k].on)) := by unfold Hid headB; rw [if_neg hkk, if_pos h3]
        clear hkk
        cases bn : nameB l[k].nm
        · have HN : Hid (docB l = false) := HX3.out (by rw [HK.out, bn]; rfl)
          clear HX2 HX3 HK
          go_wp2_with fail
          refine (spec_nameOK l[k].nm _ sn).mono ?_
          rw [bn]
          rintro e w9 ⟨rfl, rfl⟩
          go_wp2_with fail
          go_ret
          exact ⟨ret_bool HN.out.symm, q1.out⟩
        by_cases ho : l[k].nm.toList = [111, 110]
        · have HN : Hid (docB l = false) := HX3.out (by rw [HK.out, on_of ho]; simp)
          clear HX2 HX3 HK
          go_wp2_with fail
          refine (spec_nameOK l[k].nm _ sn).mono ?_
          rw [bn]
          rintro e w9 ⟨rfl, rfl⟩
          go_wp2_with fail
          go_ret
          exact ⟨ret_bool HN.out.symm, q1.out⟩
        have ho2 : (l[k].nm.toList == [111, 110]) = false := on_not ho
        cases bo : nameB l[k].on
        · have HN : Hid (docB l = false) := HX3.out (by rw [HK.out, bo]; simp)
          clear HX2 HX3 HK
          go_wp2_with fail
          refine (spec_nameOK l[k].nm _ sn).mono ?_
          rw [bn]
          rintro e w9 ⟨rfl, rfl⟩
          go_wp2_with fail
          refine (spec_nameOK l[k].on _ so).mono ?_
          rw [bo]
          rintro e w9 ⟨rfl, rfl⟩
          go_wp2_with fail
          go_ret
          exact ⟨ret_bool HN.out.symm, q1.out⟩
        · have HN : Hid _ := HX2.out (by rw [HK.out, bn, bo, on_not ho]; rfl)
          clear HX2 HX3 HK
          go_wp2_with fail
          refine (spec_nameOK l[k].nm _ sn).mono ?_
          rw [bn]
          rintro e w9 ⟨rfl, rfl⟩
          go_wp2_with fail
          refine (spec_nameOK l[k].on _ so).mono ?_
          rw [bo]
          rintro e w9 ⟨rfl, rfl⟩
          go_wp2_with fail
          go_roundw
          case rel => exact ⟨k + 1, s + l[k].sels.size, by omega, by go_num, by go_num, hm2, Q1.out, HN⟩
          case measure => simp [intOf]; omega
      have m3 : (l[k].k == 3) = false := by rw [beq_eq_false_iff_ne]; omega
      have HN : Hid (docB l = false) := HX3.out (by unfold headB; rw [if_neg hkk, if_neg h3])
      clear HX2 HX3 hkk h3
      go_wp2_with fail
      go_ret
      exact ⟨ret_bool HN.out.symm, q1.out⟩
    · have HN : Hid (docB l = true) := by
        have h1 := HA.out
        unfold DocPre at h1
        rw [List.take_of_length_le (by omega)] at h1
        exact doc_yes G1.out h1.2.2 (by omega)
      go_wp2_with fail
      go_ret
      exact ⟨ret_bool HN.out.symm, Q0.out⟩
end Go.Proofs.YtkjndghkimnjeaaGreat
namespace Go.Proofs.YtkjndghkimnjeaaGreat
open Go.ChangeShapes Go.WideShapes Go.ChangeAt Go.RowKit
set_option linter.unusedVariables false

def SzSels (l : Sels) : Prop := ∀ (a : Option Addr) (c : Nat) (n : Int) (w : World), SelRow 0 w.heap.size w a l → l.len ≤ maxLen → SelsBd maxLen l → 0 ≤ n → n ≤ 1048576 →
    Calls Tryz.prog 72 #[.slice a l.len c, .int .i64 n] w fun e w' => ∃ m, e = .returned (.int .i64 m) ∧ Sz n m (l.len ≤ 1048576 ∧ SelsBd 1048576 l) ∧ Below w.heap.size w w'

set_option maxHeartbeats 1000000 in
theorem sz_sel (h : Hd) (sub : Sels) (ih : SzSels sub) (a1 a2 a3 : Option Addr) (c1 c2 c3 : Nat) (n : Int) (w : World) (r1 : ArRow 0 w.heap.size w a1 h.args) (r2 : DiRow 0 w.heap.size w a2 h.dirs) (r3 : SelRow 0 w.heap.size w a3 sub)
    (hb : HdBd maxLen h) (hl : sub.len ≤ maxLen) (hs : SelsBd maxLen sub) (h0 : 0 ≤ n) (h1 : n ≤ 1048576) :
    Calls Tryz.prog 104 #[.agg #[.int .i64 h.k, .string h.al, .string h.nm, .slice a1 h.args.length c1, .slice a2 h.dirs.length c2, .slice a3 sub.len c3], .int .i64 n] w fun e w' =>
      ∃ m, e = .returned (.int .i64 m) ∧ Sz n m (HdBd 1048576 h ∧ sub.len ≤ 1048576 ∧ SelsBd 1048576 sub) ∧ Below w.heap.size w w' := by
  obtain ⟨b1, b2, b3, b4, b5, b6⟩ := hb
  have b1' := b1
  have b2' := b2
  unfold maxLen at b1' b2'
  have H4 : Hid (∀ x ∈ h.args, ArBd maxLen x) := b4
  have H6 : Hid (∀ x ∈ h.dirs, DiBd maxLen x) := b6
  have HS : Hid (SelsBd maxLen sub) := hs
  have HI : Hid (SzSels sub) := ih
  have B0 : Below w.heap.size w (w.alloc (.cells #[.int .i64 h.k, .string h.al, .string h.nm, .slice a1 h.args.length c1, .slice a2 h.dirs.length c2, .slice a3 sub.len c3] 166)) := (Below.refl _ _).alloc (Nat.le_refl _) _
  have R1 : Hid (ArRow 0 _ _ a1 h.args) := Row.up r1 B0
  have R2 : Hid (DiRow 0 _ _ a2 h.dirs) := Row.up r2 B0
  have R3 : Hid (SelRow 0 _ _ a3 sub) := SelRow.up r3 B0
  have HB : Hid _ := B0
  clear b4 b6 hs ih r1 r2 r3 B0
  by_cases g1 : n - h.al.size < 0
  · go_enter Tryz.func104, Tryz.ntmps104
    go_wp2_with fail
    go_ret
    exact ⟨-1, rfl, Sz.neg h0, HB.out⟩
  by_cases g2 : n - h.al.size - h.nm.size < 0
  · go_enter Tryz.func104, Tryz.ntmps104
    go_wp2_with fail
    go_ret
    exact ⟨-1, rfl, Sz.neg h0, HB.out⟩
  go_enter Tryz.func104, Tryz.ntmps104
  go_wp2_with fail
  refine (sz_args a1 c1 h.args _ _ R1.out b3 H4.out (by omega) (by omega)).mono ?_
  rintro e w1 ⟨m1, rfl, hm, hb1⟩
  have M1 : Hid _ := hm
  clear hm
  obtain ⟨hc1, hf1⟩ := bcell hb1
  have hz1 : w.heap.size + 1 ≤ w1.heap.size := by have := hb1.size; simpa using this
  have hy1 : w.heap.size < w1.heap.size := by omega
  have R2 : Hid (DiRow 0 w1.heap.size w1 a2 h.dirs) := Row.up R2.out hb1
  have R3 : Hid (SelRow 0 w1.heap.size w1 a3 sub) := SelRow.up R3.out hb1
  have q1 : Below w.heap.size w w1 := HB.out.trans (hb1.mono (by simp))
  have u1 := M1.out.1
  by_cases n1 : m1 < 0
  · go_wp2_with fail
    go_ret
    exact ⟨-1, rfl, Sz.neg h0, q1⟩
  go_wp2_with fail
  refine (sz_dirs a2 c2 h.dirs _ _ R2.out b5 H6.out (by omega) (by omega)).mono ?_
  rintro e w2 ⟨m2, rfl, hm, hb2⟩
  have M2 : Hid _ := hm
  clear hm
  obtain ⟨hc2, hf2⟩ := bcell hb2
  have hz2 := hb2.size
  have hy2 : w.heap.size < w2.heap.size := by omega
  have R3 : Hid (SelRow 0 w2.heap.size w2 a3 sub) := SelRow.up R3.out hb2
  have q2 : Below w.heap.size w w2 := q1.trans (hb2.mono q1.size)
  have u2 := M2.out.1
  by_cases n2 : m2 < 0
  · go_wp2_with fail
    go_ret
    exact ⟨-1, rfl, Sz.neg h0, q2⟩
  go_wp2_with fail
  refine (HI.out a3 c3 _ _ R3.out hl HS.out (by omega) (by omega)).mono ?_
  rintro e w3 ⟨m3, rfl, hm, hb3⟩
  have M3 : Hid _ := hm
  clear hm
  have q3 : Below w.heap.size w w3 := q2.trans (hb3.mono q2.size)
  have u3 := M3.out.1
  by_cases n3 : m3 < 0
  · go_wp2_with fail
    go_ret
    exact ⟨-1, rfl, Sz.neg h0, q3⟩
  go_wp2_with fail
  go_ret
  have v1 := M1.out.2.2 (by omega)
  have v2 := M2.out.2.2 (by omega)
  have v3 := M3.out.2.2 (by omega)
  exact ⟨m3, rfl, ⟨by omega, by omega, fun _ => ⟨⟨by omega, by omega, v1.1, v1.2, v2.1, v2.2⟩, v3.1, v3.2⟩⟩, q3⟩

set_option maxHeartbeats 1000000 in
theorem sz_sels (l : Sels) : SzSels l := by
  induction hN : l.size using Nat.strongRecOn generalizing l with
  | _ N ih =>
  subst hN
  intro a c n w hr hl hbd h0 h1
  unfold maxLen at hl
  have IH : Hid (∀ sub : Sels, sub.size < l.size → SzSels sub) := fun sub hsub => ih sub.size hsub sub rfl
  have HR : Hid (SelFrom 0 w.heap.size w a 0 l) := hr.from_
  have HB : Hid (SelsBd maxLen l) := hbd
  clear hr ih hbd
  by_cases hz : n - l.len < 0
  · go_enter Tryz.func72, Tryz.ntmps72
    go_wp2_with fail
    go_ret
    exact ⟨-1, rfl, Sz.neg h0, Below.refl _ _⟩
  go_enter Tryz.func72, Tryz.ntmps72
  go_wp2_with fail
  go_loopw [1, 5] (fun r i w' => ∃ (k : Nat) (m : Int) (rest : Sels), l.len = k + rest.len ∧ i = .int .i64 k ∧ r = .int .i64 m ∧ 0 ≤ m ∧ m ≤ n ∧ Below w.heap.size w w' ∧ Hid (rest.size ≤ l.size) ∧ Hid (SelsBd maxLen rest) ∧ Hid (SelFrom 0 w.heap.size w a k rest) ∧ Hid (SelsBd 1048576 rest → SelsBd 1048576 l)) (fun _ i _ => l.len - (intOf i).toNat)
  case atStart => exact ⟨0, _, l, by omega, rfl, rfl, by omega, by omega, Below.refl _ _, Nat.le_refl _, HB, HR, id⟩
  case round =>
    rename_i wr
    obtain ⟨k, m, rest, hk, rfl, rfl, hm0, hm1, hb, HZ, HD, HF, HC⟩ := hrel
    cases rest with
    | nil =>
      have hk' : ¬ k < l.len := by rw [hk]; simp only [Sels.len]; omega
      clear hk
      go_wp2_with fail
      go_ret
      exact ⟨m, rfl, ⟨hm1, by omega, fun _ => ⟨by omega, HC.out trivial⟩⟩, hb⟩
    | cons h sub rest =>
      have hlt : k < l.len := by rw [hk]; simp only [Sels.len]; omega
      have hk' : Hid (l.len = k + 1 + rest.len) := by rw [Hid, hk]; simp only [Sels.len]; omega
      obtain ⟨b, o, a1, c1, a2, c2, a3, c3, ha, _, hbl, d0, d1, d2, d3, d4, d5, r1, r2, r3, _⟩ := (HF.out.keep (Below.agree hb (Nat.le_refl _))).step
      have HF2 : Hid (SelFrom 0 w.heap.size w a (k + 1) rest) := SelFrom.next HF.out
      subst ha
      have R1 : Hid (ArRow 0 wr.heap.size wr a1 h.args) := Row.wide r1 (Nat.le_refl _) hb.size
      have R2 : Hid (DiRow 0 wr.heap.size wr a2 h.dirs) := Row.wide r2 (Nat.le_refl _) hb.size
      have R3 : Hid (SelRow 0 wr.heap.size wr a3 sub) := SelRow.wide r3 (Nat.le_refl _) hb.size
      have HD' := HD.out
      obtain ⟨e1, e2, e3, e4⟩ := HD'
      have E1 : Hid (HdBd maxLen h) := e1
      have E3 : Hid (SelsBd maxLen sub) := e3
      have E4 : Hid (SelsBd maxLen rest) := e4
      have HZ2 : Hid (rest.size ≤ l.size) := by have := HZ.out; simp only [Sels.size] at this; unfold Hid; omega
      have IS : Hid (SzSels sub) := IH.out sub (by have := HZ.out; simp only [Sels.size] at this; omega)
      clear r1 r2 r3 e1 e3 e4 hk
      go_wp2_with fail
      refine (sz_sel h sub IS.out a1 a2 a3 c1 c2 c3 m _ R1.out R2.out R3.out E1.out e2 E3.out hm0 (by omega)).mono ?_
      rintro e w1 ⟨m1, rfl, hm, hb1⟩
      have HM : Hid _ := hm
      clear hm d0 d1 d2 d3 d4 d5
      by_cases hneg : m1 < 0
      · go_wp2_with fail
        go_ret
        exact ⟨-1, rfl, Sz.neg h0, hb.trans (hb1.mono hb.size)⟩
      · go_wp2_with fail
        go_roundw
        case rel =>
          have hv := HM.out.2.2 (by omega)
          exact ⟨k + 1, m1, rest, hk'.out, by go_num, rfl, by omega, by have := HM.out.1; omega, hb.trans (hb1.mono hb.size), HZ2, E4, HF2, fun hr => HC.out ⟨hv.1, hv.2.1, hv.2.2, hr⟩⟩
        case measure => simp [intOf]; omega

set_option maxHeartbeats 1000000 in
theorem sz_def (x : De) (a3 : Option Addr) (c3 : Nat) (n : Int) (w : World) (r3 : SelRow 0 w.heap.size w a3 x.sels) (hb : DeBd maxLen x) (h0 : 0 ≤ n) (h1 : n ≤ 1048576) :
    Calls Tryz.prog 35 #[.agg #[.int .i64 x.k, .string x.nm, .string x.on, .slice a3 x.sels.len c3], .int .i64 n] w fun e w' => ∃ m, e = .returned (.int .i64 m) ∧ Sz n m (DeBd 1048576 x) ∧ Below w.heap.size w w' := by
  obtain ⟨b1, b2, b3, b4⟩ := hb
  have b1' := b1
  have b2' := b2
  unfold maxLen at b1' b2'
  have HS : Hid (SelsBd maxLen x.sels) := b4
  have B0 : Below w.heap.size w (w.alloc (.cells #[.int .i64 x.k, .string x.nm, .string x.on, .slice a3 x.sels.len c3] 73)) := (Below.refl _ _).alloc (Nat.le_refl _) _
  have R3 : Hid (SelRow 0 _ _ a3 x.sels) := SelRow.up r3 B0
  have HB : Hid _ := B0
  clear b4 r3 B0
  by_cases g1 : n - x.nm.size < 0
  · go_enter Tryz.func35, Tryz.ntmps35
    go_wp2_with fail
    go_ret
    exact ⟨-1, rfl, Sz.neg h0, HB.out⟩
  by_cases g2 : n - x.nm.size - x.on.size < 0
  · go_enter Tryz.func35, Tryz.ntmps35
    go_wp2_with fail
    go_ret
    exact ⟨-1, rfl, Sz.neg h0, HB.out⟩
  go_enter Tryz.func35, Tryz.ntmps35
  go_wp2_with fail
  refine (sz_sels x.sels a3 c3 _ _ R3.out b3 HS.out (by omega) (by omega)).mono ?_
  rintro e w3 ⟨m3, rfl, hm, hb3⟩
  have M3 : Hid _ := hm
  clear hm
  have q3 : Below w.heap.size w w3 := HB.out.trans (hb3.mono (by simp))
  have u3 := M3.out.1
  by_cases n3 : m3 < 0
  · go_wp2_with fail
    go_ret
    exact ⟨-1, rfl, Sz.neg h0, q3⟩
  go_wp2_with fail
  go_ret
  have v3 := M3.out.2.2 (by omega)
  exact ⟨m3, rfl, ⟨by omega, by omega, fun _ => ⟨by omega, by omega, v3.1, v3.2⟩⟩, q3⟩

set_option maxHeartbeats 1000000 in
theorem sz_defs (a : Option Addr) (c : Nat) (l : List De) (n : Int) (w : World) (hr : DeRow 0 w.heap.size w a l) (hbd : DefsBd maxLen l) (h0 : 0 ≤ n) (h1 : n ≤ 1048576) :
    Calls Tryz.prog 19 #[.slice a l.length c, .int .i64 n] w fun e w' => ∃ m, e = .returned (.int .i64 m) ∧ Sz n m (DefsBd 1048576 l) ∧ Below w.heap.size w w' := by
  obtain ⟨hl, ht⟩ := hbd
  unfold maxLen at hl
  by_cases hz : n - l.length < 0
  · go_enter Tryz.func19, Tryz.ntmps19
    go_wp2_with fail
    go_ret
    exact ⟨-1, rfl, Sz.neg h0, Below.refl _ _⟩
  · have HR : Hid (DeRow 0 w.heap.size w a l) := hr
    have HT : Hid (∀ x ∈ l, DeBd maxLen x) := ht
    clear hr ht
    go_enter Tryz.func19, Tryz.ntmps19
    go_wp2_with fail
    go_loopw [1, 5] (fun r i w' => ∃ (k : Nat) (m : Int), k ≤ l.length ∧ i = .int .i64 k ∧ r = .int .i64 m ∧ 0 ≤ m ∧ m ≤ n ∧ Below w.heap.size w w' ∧ Hid (∀ x ∈ l.take k, DeBd 1048576 x)) (fun _ i _ => l.length - (intOf i).toNat)
    case atStart => exact ⟨0, _, by omega, rfl, rfl, by omega, by omega, Below.refl _ _, by simp [Hid]⟩
    case round =>
      rename_i wr
      obtain ⟨k, m, hk, rfl, rfl, hm0, hm1, hb, HK⟩ := hrel
      by_cases hlt : k < l.length
      · obtain ⟨b, o, a3, c3, ha, _, hbl, d0, d1, d2, d3, r3⟩ := (HR.out.keep (Below.agree hb (Nat.le_refl _))).cells k hlt
        subst ha
        have R3 : Hid (SelRow 0 wr.heap.size wr a3 l[k].sels) := SelRow.wide r3 (Nat.le_refl _) hb.size
        have HX : Hid (DeBd maxLen l[k]) := HT.out l[k] (List.getElem_mem hlt)
        clear r3
        go_wp2_with fail
        refine (sz_def l[k] a3 c3 m _ R3.out HX.out hm0 (by omega)).mono ?_
        rintro e w1 ⟨m1, rfl, hm, hb1⟩
        have HM : Hid (Sz m m1 (DeBd 1048576 l[k])) := hm
        clear hm d0 d1 d2 d3
        by_cases hneg : m1 < 0
        · go_wp2_with fail
          go_ret
          exact ⟨-1, rfl, Sz.neg h0, hb.trans (hb1.mono hb.size)⟩
        · go_wp2_with fail
          go_roundw
          case rel => exact ⟨k + 1, m1, by omega, by go_num, rfl, by omega, by have := HM.out.1; omega, hb.trans (hb1.mono hb.size), all_take hlt HK.out (HM.out.2.2 (by omega))⟩
          case measure => simp [intOf]; omega
      · go_wp2_with fail
        go_ret
        rw [List.take_of_length_le (by omega)] at HK
        exact ⟨m, rfl, ⟨hm1, by omega, fun _ => ⟨by omega, HK.out⟩⟩, hb⟩
set_option maxHeartbeats 1000000 in
theorem sz_doc (a : Option Addr) (c : Nat) (l : List De) (n : Int) (w : World) (hr : DeRow 0 w.heap.size w a l) (hbd : DefsBd maxLen l) (h0 : 0 ≤ n) (h1 : n ≤ 1048576) :
    Calls Tryz.prog 9 #[.agg #[.slice a l.length c], .int .i64 n] w fun e w' => ∃ m, e = .returned (.int .i64 m) ∧ Sz n m (DefsBd 1048576 l) ∧ Below w.heap.size w w' := by
  have B0 : Below w.heap.size w (w.alloc (.cells #[.slice a l.length c] 24)) := (Below.refl _ _).alloc (Nat.le_refl _) _
  have R3 : Hid (DeRow 0 _ _ a l) := DeRow.up hr B0
  have HB : Hid _ := B0
  have HD : Hid _ := hbd
  clear hr B0 hbd
  go_enter Tryz.func9, Tryz.ntmps9
  go_wp2_with fail
  refine (sz_defs a c l _ _ R3.out HD.out (by omega) (by omega)).mono ?_
  rintro e w3 ⟨m3, rfl, hm, hb3⟩
  have M3 : Hid _ := hm
  clear hm
  have q3 : Below w.heap.size w w3 := HB.out.trans (hb3.mono (by simp))
  by_cases n3 : m3 < 0
  · go_wp2_with fail
    go_ret
    exact ⟨-1, rfl, Sz.neg h0, q3⟩
  go_wp2_with fail
  go_ret
  exact ⟨m3, rfl, M3.out, q3⟩
end Go.Proofs.YtkjndghkimnjeaaGreat
