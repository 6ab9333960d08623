/- The same of selections, definitions and documents. -/
import Derived.Test.YtdchpeifpiglmaaGreatDoorDocOKs
import Derived.Test.YtdchpeifpiglmaaGreatDoorSelFrom
namespace Go.Proofs.YtdchpeifpiglmaaGreatDoor
open Go.ChangeShapes Go.WideShapes Go.ChangeAt Go.RowKit
set_option linter.unusedVariables false

theorem size_nil {l : Sels} (h : l.size = 0) : l.isNil = true := by
  cases l with
  | nil => rfl
  | cons _ _ _ => simp [Sels.size] at h
theorem size_not {l : Sels} (h : ¬ l.size = 0) : l.isNil = false := by
  cases l with
  | nil => exact absurd rfl h
  | cons _ _ _ => rfl
theorem cnt_no_def {l : List De} {k : Nat} (hk : k < l.length) (h : cntB 7 l[k].sels = false) : docB l = false := by
  unfold cntB at h
  rw [Bool.and_eq_false_iff] at h
  rcases h with h | h
  · exact doc_no_def hk (by unfold defB; rw [h]; simp)
  · simp only [decide_eq_false_iff_not] at h
    exact doc_many hk (by omega)
theorem cnt_def {x : De} (hh : headB x = true) (h : cntB 7 x.sels = true) (h0 : ¬ x.sels.size = 0) : defB x = true := by
  unfold cntB at h
  rw [Bool.and_eq_true] at h
  unfold defB; rw [hh, h.1, size_not h0]; rfl
theorem head_no {l : List De} {k : Nat} (hk : k < l.length) (h : headB l[k] = false) : docB l = false := doc_no_def hk (by unfold defB; rw [h]; rfl)
/-- What the loop of the specification knows behind some definitions. -/
def DocPre (l : List De) (k s : Nat) : Prop := s = sizeL (l.take k) ∧ s ≤ 60 ∧ (l.take k).all defB = true
theorem DocPre.next {l : List De} {k s : Nat} (h : DocPre l k s) (hk : k < l.length) (hc : cntB 7 l[k].sels = true) (h0 : ¬ l[k].sels.size = 0) (hm : ¬ 60 < s + l[k].sels.size) (hh : headB l[k] = true) : DocPre l (k + 1) (s + l[k].sels.size) :=
  ⟨by rw [sizeL_take hk, h.1], by omega, all_take_b hk h.2.2 (cnt_def hh hc h0)⟩

set_option maxHeartbeats 4000000 in
set_option maxRecDepth 40000 in
theorem spec_doc (a : Option Addr) (c : Nat) (l : List De) (w : World) (hr : DeRow 0 w.heap.size w a l) (hl : l.length ≤ 1048576) (ht : ∀ x ∈ l, DeBd 1048576 x) :
    Calls Tryz.prog 43 #[.agg #[.slice a l.length c]] w fun e w' => e = .returned (.bool (docB l)) ∧ Below w.heap.size w w' := by
  have B0 : Hid (Below w.heap.size w (w.alloc (.cells #[.slice a l.length c] 40))) := (Below.refl _ _).alloc (Nat.le_refl _) _
  have HR : Hid (DeRow 0 w.heap.size w a l) := hr
  have HT : Hid (∀ x ∈ l, DeBd 1048576 x) := ht
  clear hr ht
  by_cases g1 : 1 ≤ l.length ∧ l.length ≤ 6
  case neg =>
    have HN : Hid (docB l = false) := doc_len g1
    have hin : inB l.length 1 6 = false := by unfold inB; rw [Bool.eq_false_iff]; intro h; simp at h; omega
    clear HR HT
    go_enter Tryz.func43, Tryz.ntmps43
    go_wp2_with fail
    refine (spec_in _ _ _ _).mono ?_
    rw [hin]
    rintro e w1 ⟨rfl, rfl⟩
    go_wp2_with fail
    go_ret
    exact ⟨ret_bool HN.out.symm, B0.out⟩
  have hin : inB l.length 1 6 = true := by unfold inB; simp; omega
  have G1 : Hid (1 ≤ l.length ∧ l.length ≤ 6) := g1
  have g1 := g1.2
  go_enter Tryz.func43, Tryz.ntmps43
  go_wp2_with fail
  refine (spec_in _ _ _ _).mono ?_
  rw [hin]
  rintro e w1 ⟨rfl, rfl⟩
  clear hin
  go_wp2_with fail
  go_loopw [3, 4] (fun n i w' => ∃ (k s : Nat), k ≤ l.length ∧ i = .int .i64 k ∧ n = .int .i64 s ∧ s ≤ 60 ∧ Below (w.heap.size + 1) (w.alloc (.cells #[.slice a l.length c] 40)) w' ∧ Hid (DocPre l k s)) (fun _ i _ => l.length - (intOf i).toNat)
  case atStart => exact ⟨0, 0, by omega, rfl, rfl, by omega, Below.refl _ _, ⟨rfl, by omega, rfl⟩⟩
  case round =>
    rename_i wr
    obtain ⟨k, s, hk, rfl, rfl, hs, hb, HA⟩ := hrel
    have k0 := fun o => hb.cell (p := ⟨w.heap.size, o, none⟩) (show w.heap.size < w.heap.size + 1 by omega)
    have hz := size_one hb
    have Q0 : Hid (Below w.heap.size w wr) := B0.out.trans (hb.mono (by omega))
    by_cases hlt : k < l.length
    · obtain ⟨b, o, a3, c3, ha, _, hbl, d0, d1, d2, d3, r3⟩ := DeRow.cells (DeRow.keep HR.out (Below.agree Q0.out (Nat.le_refl _))) k hlt
      subst ha
      have HX : Hid (DeBd 1048576 l[k]) := HT.out l[k] (List.getElem_mem hlt)
      have sn : l[k].nm.size ≤ maxLen := by have := HX.out.1; unfold maxLen; omega
      have so : l[k].on.size ≤ maxLen := by have := HX.out.2.1; unfold maxLen; omega
      have K3 : Hid (∀ W0, Below wr.heap.size wr W0 → SelRow 0 W0.heap.size W0 a3 l[k].sels) := fun W0 hB => SelRow.up (SelRow.wide r3 (Nat.le_refl _) (by omega)) hB
      clear r3
      go_wp2_with fail
      refine (spec_sels l[k].sels a3 c3 7 _ (K3.out _ ?b0) HX.out.2.2.1 HX.out.2.2.2 (by omega)).mono ?_
      case b0 => repeat (first | exact Below.refl _ _ | refine Below.setCell ?_ (by first | omega | (simp <;> omega)) _ | refine Below.alloc ?_ (by first | omega | (simp <;> omega)) _)
      cases hc : cntB 7 l[k].sels
      · rw [cnt_no hc]
        rintro e w1 ⟨rfl, hb1⟩
        have HN : Hid (docB l = false) := cnt_no_def hlt hc
        have q1 : Hid (Below w.heap.size w w1) := by
          refine Q0.out.trans (Below.trans ?_ (hb1.mono (by first | omega | (simp <;> omega))))
          repeat (first | exact Below.refl _ _ | refine Below.setCell ?_ (by first | omega | (simp <;> omega)) _ | refine Below.alloc ?_ (by first | omega | (simp <;> omega)) _)
        go_wp2_with fail
        go_ret
        exact ⟨ret_bool HN.out.symm, q1.out⟩
      rw [(cnt_yes hc).1]
      have h60 := (cnt_yes hc).2
      rintro e w1 ⟨rfl, hb1⟩
      have hz1 : wr.heap.size + 1 ≤ w1.heap.size := by have := hb1.size; simpa using this
      have p1 : Below wr.heap.size wr w1 := by
        refine Below.trans ?_ (hb1.mono (by first | omega | (simp <;> omega)))
        repeat (first | exact Below.refl _ _ | refine Below.setCell ?_ (by first | omega | (simp <;> omega)) _ | refine Below.alloc ?_ (by first | omega | (simp <;> omega)) _)
      have Q1 : Hid (Below (w.heap.size + 1) _ w1) := hb.trans (p1.mono (by omega))
      have q1 : Hid (Below w.heap.size w w1) := Q0.out.trans (p1.mono (by omega))
      have j0 := fun o => hb1.cell (p := ⟨wr.heap.size, o, none⟩) (by first | omega | (simp <;> omega))
      clear hb1 p1 k0 hb
      by_cases hz0 : l[k].sels.size = 0
      · have HN : Hid (docB l = false) := doc_no_def hlt (by unfold defB; rw [size_nil hz0]; simp)
        go_wp2_with fail
        go_ret
        exact ⟨ret_bool HN.out.symm, q1.out⟩
      have hzb : ((l[k].sels.size : Int) == 0) = false := by rw [beq_eq_false_iff_ne]; omega
      by_cases hm : 60 < s + l[k].sels.size
      · have HN : Hid (docB l = false) := doc_many hlt (by rw [← HA.out.1]; exact hm)
        clear hz0
        go_wp2_with fail
        go_ret
        exact ⟨ret_bool HN.out.symm, q1.out⟩
      have HX2 : Hid (headB l[k] = true → DocPre l (k + 1) (s + l[k].sels.size)) := fun hh => HA.out.next hlt hc hz0 hm hh
      have HX3 : Hid (headB l[k] = false → docB l = false) := head_no hlt
      have hm2 : s + l[k].sels.size ≤ 60 := by omega
      clear hz0 HX hc HA
      by_cases hkk : l[k].k = 1 ∨ l[k].k = 2
      · have HK : Hid (headB l[k] = ((noB l[k].nm || nameB l[k].nm) && noB l[k].on)) := by unfold Hid headB; rw [if_pos hkk]
        by_cases ho : l[k].on.toList = []
        case neg =>
          have HN : Hid (docB l = false) := HX3.out (by rw [HK.out, no_not ho]; simp)
          clear HX2 HX3 HK
          rcases hkk with hkk | hkk
          · go_wp2_with fail
            go_ret
            exact ⟨ret_bool HN.out.symm, q1.out⟩
          · have m1 : (l[k].k == 1) = false := by rw [hkk]; rfl
            go_wp2_with fail
            go_ret
            exact ⟨ret_bool HN.out.symm, q1.out⟩
        by_cases hn0 : l[k].nm.toList = []
        · have HN : Hid _ := HX2.out (by rw [HK.out, no_of ho, no_of hn0]; rfl)
          clear HX2 HX3 HK
          rcases hkk with hkk | hkk
          · go_wp2_with fail
            go_roundw
            case rel => exact ⟨k + 1, s + l[k].sels.size, by omega, by go_num, by go_num, hm2, Q1.out, HN⟩
            case measure => simp [intOf]; omega
          · have m1 : (l[k].k == 1) = false := by rw [hkk]; rfl
            go_wp2_with fail
            go_roundw
            case rel => exact ⟨k + 1, s + l[k].sels.size, by omega, by go_num, by go_num, hm2, Q1.out, HN⟩
            case measure => simp [intOf]; omega
        have nz : l[k].nm.toList.isEmpty = false := no_not hn0
        cases bn : nameB l[k].nm
        · have HN : Hid (docB l = false) := HX3.out (by rw [HK.out, no_not hn0, bn]; rfl)
          clear HX2 HX3 HK
          rcases hkk with hkk | hkk
          · go_wp2_with fail
            refine (spec_nameOK l[k].nm _ sn).mono ?_
            rw [bn]
            rintro e w9 ⟨rfl, rfl⟩
            go_wp2_with fail
            go_ret
            exact ⟨ret_bool HN.out.symm, q1.out⟩
          · have m1 : (l[k].k == 1) = false := by rw [hkk]; rfl
            go_wp2_with fail
            refine (spec_nameOK l[k].nm _ sn).mono ?_
            rw [bn]
            rintro e w9 ⟨rfl, rfl⟩
            go_wp2_with fail
            go_ret
            exact ⟨ret_bool HN.out.symm, q1.out⟩
        · have HN : Hid _ := HX2.out (by rw [HK.out, no_of ho, bn]; simp)
          clear HX2 HX3 HK
          rcases hkk with hkk | hkk
          · go_wp2_with fail
            refine (spec_nameOK l[k].nm _ sn).mono ?_
            rw [bn]
            rintro e w9 ⟨rfl, rfl⟩
            go_wp2_with fail
            go_roundw
            case rel => exact ⟨k + 1, s + l[k].sels.size, by omega, by go_num, by go_num, hm2, Q1.out, HN⟩
            case measure => simp [intOf]; omega
          · have m1 : (l[k].k == 1) = false := by rw [hkk]; rfl
            go_wp2_with fail
            refine (spec_nameOK l[k].nm _ sn).mono ?_
            rw [bn]
            rintro e w9 ⟨rfl, rfl⟩
            go_wp2_with fail
            go_roundw
            case rel => exact ⟨k + 1, s + l[k].sels.size, by omega, by go_num, by go_num, hm2, Q1.out, HN⟩
            case measure => simp [intOf]; omega
      have m1 : (l[k].k == 1) = false := by rw [beq_eq_false_iff_ne]; omega
      have m2 : (l[k].k == 2) = false := by rw [beq_eq_false_iff_ne]; omega
      by_cases h3 : l[k].k = 3
      · have HK : Hid (headB l[k] = (nameB l[k].nm && !onB l[k].nm && nameB l[k].on)) := by unfold Hid headB; rw [if_neg hkk, if_pos h3]
        clear hkk
        cases bn : nameB l[k].nm
        · have HN : Hid (docB l = false) := HX3.out (by rw [HK.out, bn]; rfl)
          clear HX2 HX3 HK
          go_wp2_with fail
          refine (spec_nameOK l[k].nm _ sn).mono ?_
          rw [bn]
          rintro e w9 ⟨rfl, rfl⟩
          go_wp2_with fail
          go_ret
          exact ⟨ret_bool HN.out.symm, q1.out⟩
        by_cases ho : l[k].nm.toList = [111, 110]
        · have HN : Hid (docB l = false) := HX3.out (by rw [HK.out, on_of ho]; simp)
          clear HX2 HX3 HK
          go_wp2_with fail
          refine (spec_nameOK l[k].nm _ sn).mono ?_
          rw [bn]
          rintro e w9 ⟨rfl, rfl⟩
          go_wp2_with fail
          go_ret
          exact ⟨ret_bool HN.out.symm, q1.out⟩
        have ho2 : (l[k].nm.toList == [111, 110]) = false := on_not ho
        cases bo : nameB l[k].on
        · have HN : Hid (docB l = false) := HX3.out (by rw [HK.out, bo]; simp)
          clear HX2 HX3 HK
          go_wp2_with fail
          refine (spec_nameOK l[k].nm _ sn).mono ?_
          rw [bn]
          rintro e w9 ⟨rfl, rfl⟩
          go_wp2_with fail
          refine (spec_nameOK l[k].on _ so).mono ?_
          rw [bo]
          rintro e w9 ⟨rfl, rfl⟩
          go_wp2_with fail
          go_ret
          exact ⟨ret_bool HN.out.symm, q1.out⟩
        · have HN : Hid _ := HX2.out (by rw [HK.out, bn, bo, on_not ho]; rfl)
          clear HX2 HX3 HK
          go_wp2_with fail
          refine (spec_nameOK l[k].nm _ sn).mono ?_
          rw [bn]
          rintro e w9 ⟨rfl, rfl⟩
          go_wp2_with fail
          refine (spec_nameOK l[k].on _ so).mono ?_
          rw [bo]
          rintro e w9 ⟨rfl, rfl⟩
          go_wp2_with fail
          go_roundw
          case rel => exact ⟨k + 1, s + l[k].sels.size, by omega, by go_num, by go_num, hm2, Q1.out, HN⟩
          case measure => simp [intOf]; omega
      have m3 : (l[k].k == 3) = false := by rw [beq_eq_false_iff_ne]; omega
      have HN : Hid (docB l = false) := HX3.out (by unfold headB; rw [if_neg hkk, if_neg h3])
      clear HX2 HX3 hkk h3
      go_wp2_with fail
      go_ret
      exact ⟨ret_bool HN.out.symm, q1.out⟩
    · have HN : Hid (docB l = true) := by
        have h1 := HA.out
        unfold DocPre at h1
        rw [List.take_of_length_le (by omega)] at h1
        exact doc_yes G1.out h1.2.2 (by omega)
      go_wp2_with fail
      go_ret
      exact ⟨ret_bool HN.out.symm, Q0.out⟩
end Go.Proofs.YtdchpeifpiglmaaGreatDoor
namespace Go.Proofs.YtdchpeifpiglmaaGreatDoor
open Go.ChangeShapes Go.WideShapes Go.ChangeAt Go.RowKit
set_option linter.unusedVariables false

theorem Sz.mono {n n' m : Int} {p q : Prop} (h : Sz n m p) (hn : n ≤ n') (hp : p → q) : Sz n' m q := ⟨by have := h.1; omega, h.2.1, fun h0 => hp (h.2.2 h0)⟩
theorem Sz.neg {n : Int} {p : Prop} (h : 0 ≤ n) : Sz n (-1) p := ⟨by omega, by omega, fun h => by omega⟩

set_option maxHeartbeats 1000000 in
theorem sz_arg (x : Ar) (n : Int) (w : World) (hs : ArBd maxLen x) (h0 : 0 ≤ n) (h1 : n ≤ 1048576) :
    Calls Tryz.prog 117 #[.agg #[.string x.nm, .int .i64 x.v.k, .int .i64 x.v.n, .string x.v.t], .int .i64 n] w fun e w' => ∃ m, e = .returned (.int .i64 m) ∧ Sz n m (ArBd 1048576 x) ∧ Below w.heap.size w w' := by
  obtain ⟨nm, a, b, s⟩ := x
  obtain ⟨hs1, hs2⟩ := hs
  simp only at hs1 hs2 ⊢
  have hs1' := hs1
  unfold maxLen at hs1'
  by_cases h : n - nm.size < 0
  · go_enter Tryz.func117, Tryz.ntmps117
    go_wp2_with fail
    go_ret
    exact ⟨-1, rfl, Sz.neg h0, (Below.refl _ _).alloc (Nat.le_refl _) _⟩
  · go_enter Tryz.func117, Tryz.ntmps117
    go_wp2_with fail
    refine (sz_val ⟨a, b, s⟩ _ _ hs2 (by omega) (by omega)).mono ?_
    rintro e w1 ⟨m, rfl, hm, hb1⟩
    have HM : Hid (Sz n m (ArBd 1048576 ⟨nm, a, b, s⟩)) := hm.mono (by omega) (fun h => ⟨by simp only; omega, h⟩)
    clear hm
    have q1 : Below w.heap.size w w1 := ((Below.refl _ _).alloc (Nat.le_refl _) _).trans (hb1.mono (by simp))
    by_cases hneg : m < 0
    · go_wp2_with fail
      go_ret
      exact ⟨-1, rfl, Sz.neg h0, q1⟩
    · go_wp2_with fail
      go_ret
      exact ⟨m, rfl, HM.out, q1⟩
set_option maxHeartbeats 1000000 in
theorem sz_dir (x : Di) (n : Int) (w : World) (hs : DiBd maxLen x) (h0 : 0 ≤ n) (h1 : n ≤ 1048576) :
    Calls Tryz.prog 118 #[.agg #[.bool x.sk, .int .i64 x.v.k, .int .i64 x.v.n, .string x.v.t], .int .i64 n] w fun e w' => ∃ m, e = .returned (.int .i64 m) ∧ Sz n m (DiBd 1048576 x) ∧ Below w.heap.size w w' := by
  obtain ⟨sk, a, b, s⟩ := x
  unfold DiBd at hs ⊢
  simp only at hs ⊢
  go_enter Tryz.func118, Tryz.ntmps118
  go_wp2_with fail
  refine (sz_val ⟨a, b, s⟩ _ _ hs (by omega) (by omega)).mono ?_
  rintro e w1 ⟨m, rfl, hm, hb1⟩
  have HM : Hid (Sz n m (s.size ≤ 1048576)) := hm
  clear hm
  have q1 : Below w.heap.size w w1 := ((Below.refl _ _).alloc (Nat.le_refl _) _).trans (hb1.mono (by simp))
  by_cases hneg : m < 0
  · go_wp2_with fail
    go_ret
    exact ⟨-1, rfl, Sz.neg h0, q1⟩
  · go_wp2_with fail
    go_ret
    exact ⟨m, rfl, HM.out, q1⟩
theorem all_take {α : Type} {p : α → Prop} {l : List α} {k : Nat} (hk : k < l.length) (h : ∀ x ∈ l.take k, p x) (h2 : p l[k]) : ∀ x ∈ l.take (k + 1), p x := by
  rw [List.take_succ_eq_append_getElem hk]
  intro x hx
  rcases List.mem_append.1 hx with hx | hx
  · exact h x hx
  · simp only [List.mem_singleton] at hx; subst hx; exact h2
set_option maxHeartbeats 1000000 in
theorem sz_args (a : Option Addr) (c : Nat) (l : List Ar) (n : Int) (w : World) (hr : ArRow 0 w.heap.size w a l) (hl : l.length ≤ maxLen) (ht : ∀ x ∈ l, ArBd maxLen x) (h0 : 0 ≤ n) (h1 : n ≤ 1048576) :
    Calls Tryz.prog 98 #[.slice a l.length c, .int .i64 n] w fun e w' => ∃ m, e = .returned (.int .i64 m) ∧ Sz n m (l.length ≤ 1048576 ∧ ∀ x ∈ l, ArBd 1048576 x) ∧ Below w.heap.size w w' := by
  unfold maxLen at hl
  by_cases hz : n - l.length < 0
  · go_enter Tryz.func98, Tryz.ntmps98
    go_wp2_with fail
    go_ret
    exact ⟨-1, rfl, Sz.neg h0, Below.refl _ _⟩
  · have HR : Hid (ArRow 0 w.heap.size w a l) := hr
    have HT : Hid (∀ x ∈ l, ArBd maxLen x) := ht
    clear hr ht
    go_enter Tryz.func98, Tryz.ntmps98
    go_wp2_with fail
    go_loopw [1, 5] (fun r i w' => ∃ (k : Nat) (m : Int), k ≤ l.length ∧ i = .int .i64 k ∧ r = .int .i64 m ∧ 0 ≤ m ∧ m ≤ n ∧ Below w.heap.size w w' ∧ Hid (∀ x ∈ l.take k, ArBd 1048576 x)) (fun _ i _ => l.length - (intOf i).toNat)
    case atStart => exact ⟨0, _, by omega, rfl, rfl, by omega, by omega, Below.refl _ _, by simp [Hid]⟩
    case round =>
      rename_i wr
      obtain ⟨k, m, hk, rfl, rfl, hm0, hm1, hb, HK⟩ := hrel
      by_cases hlt : k < l.length
      · obtain ⟨b, o, ha, _, hbl, c0, c1, c2, c3⟩ := (HR.out.keep (Below.agree hb (Nat.le_refl _))).cells_ar k hlt
        subst ha
        have HX : Hid (ArBd maxLen l[k]) := HT.out l[k] (List.getElem_mem hlt)
        go_wp2_with fail
        refine (sz_arg l[k] m _ HX.out hm0 (by omega)).mono ?_
        rintro e w1 ⟨m1, rfl, hm, hb1⟩
        have HM : Hid (Sz m m1 (ArBd 1048576 l[k])) := hm
        clear hm c0 c1 c2 c3
        by_cases hneg : m1 < 0
        · go_wp2_with fail
          go_ret
          exact ⟨-1, rfl, Sz.neg h0, hb.trans (hb1.mono hb.size)⟩
        · go_wp2_with fail
          go_roundw
          case rel => exact ⟨k + 1, m1, by omega, by go_num, rfl, by omega, by have := HM.out.1; omega, hb.trans (hb1.mono hb.size), all_take hlt HK.out (HM.out.2.2 (by omega))⟩
          case measure => simp [intOf]; omega
      · go_wp2_with fail
        go_ret
        rw [List.take_of_length_le (by omega)] at HK
        exact ⟨m, rfl, ⟨hm1, by omega, fun _ => ⟨by omega, HK.out⟩⟩, hb⟩
set_option maxHeartbeats 1000000 in
theorem sz_dirs (a : Option Addr) (c : Nat) (l : List Di) (n : Int) (w : World) (hr : DiRow 0 w.heap.size w a l) (hl : l.length ≤ maxLen) (ht : ∀ x ∈ l, DiBd maxLen x) (h0 : 0 ≤ n) (h1 : n ≤ 1048576) :
    Calls Tryz.prog 99 #[.slice a l.length c, .int .i64 n] w fun e w' => ∃ m, e = .returned (.int .i64 m) ∧ Sz n m (l.length ≤ 1048576 ∧ ∀ x ∈ l, DiBd 1048576 x) ∧ Below w.heap.size w w' := by
  unfold maxLen at hl
  by_cases hz : n - l.length < 0
  · go_enter Tryz.func99, Tryz.ntmps99
    go_wp2_with fail
    go_ret
    exact ⟨-1, rfl, Sz.neg h0, Below.refl _ _⟩
  · have HR : Hid (DiRow 0 w.heap.size w a l) := hr
    have HT : Hid (∀ x ∈ l, DiBd maxLen x) := ht
    clear hr ht
    go_enter Tryz.func99, Tryz.ntmps99
    go_wp2_with fail
    go_loopw [1, 5] (fun r i w' => ∃ (k : Nat) (m : Int), k ≤ l.length ∧ i = .int .i64 k ∧ r = .int .i64 m ∧ 0 ≤ m ∧ m ≤ n ∧ Below w.heap.size w w' ∧ Hid (∀ x ∈ l.take k, DiBd 1048576 x)) (fun _ i _ => l.length - (intOf i).toNat)
    case atStart => exact ⟨0, _, by omega, rfl, rfl, by omega, by omega, Below.refl _ _, by simp [Hid]⟩
    case round =>
      rename_i wr
      obtain ⟨k, m, hk, rfl, rfl, hm0, hm1, hb, HK⟩ := hrel
      by_cases hlt : k < l.length
      · obtain ⟨b, o, ha, _, hbl, c0, c1, c2, c3⟩ := (HR.out.keep (Below.agree hb (Nat.le_refl _))).cells_di k hlt
        subst ha
        have HX : Hid (DiBd maxLen l[k]) := HT.out l[k] (List.getElem_mem hlt)
        go_wp2_with fail
        refine (sz_dir l[k] m _ HX.out hm0 (by omega)).mono ?_
        rintro e w1 ⟨m1, rfl, hm, hb1⟩
        have HM : Hid (Sz m m1 (DiBd 1048576 l[k])) := hm
        clear hm c0 c1 c2 c3
        by_cases hneg : m1 < 0
        · go_wp2_with fail
          go_ret
          exact ⟨-1, rfl, Sz.neg h0, hb.trans (hb1.mono hb.size)⟩
        · go_wp2_with fail
          go_roundw
          case rel => exact ⟨k + 1, m1, by omega, by go_num, rfl, by omega, by have := HM.out.1; omega, hb.trans (hb1.mono hb.size), all_take hlt HK.out (HM.out.2.2 (by omega))⟩
          case measure => simp [intOf]; omega
      · go_wp2_with fail
        go_ret
        rw [List.take_of_length_le (by omega)] at HK
        exact ⟨m, rfl, ⟨hm1, by omega, fun _ => ⟨by omega, HK.out⟩⟩, hb⟩
end Go.Proofs.YtdchpeifpiglmaaGreatDoor
namespace Go.Proofs.YtdchpeifpiglmaaGreatDoor
open Go.ChangeShapes Go.WideShapes Go.ChangeAt Go.RowKit
set_option linter.unusedVariables false

def SzSels (l : Sels) : Prop := ∀ (a : Option Addr) (c : Nat) (n : Int) (w : World), SelRow 0 w.heap.size w a l → l.len ≤ maxLen → SelsBd maxLen l → 0 ≤ n → n ≤ 1048576 →
    Calls Tryz.prog 60 #[.slice a l.len c, .int .i64 n] w fun e w' => ∃ m, e = .returned (.int .i64 m) ∧ Sz n m (l.len ≤ 1048576 ∧ SelsBd 1048576 l) ∧ Below w.heap.size w w'

set_option maxHeartbeats 1000000 in
theorem sz_sel (h : Hd) (sub : Sels) (ih : SzSels sub) (a1 a2 a3 : Option Addr) (c1 c2 c3 : Nat) (n : Int) (w : World) (r1 : ArRow 0 w.heap.size w a1 h.args) (r2 : DiRow 0 w.heap.size w a2 h.dirs) (r3 : SelRow 0 w.heap.size w a3 sub)
    (hb : HdBd maxLen h) (hl : sub.len ≤ maxLen) (hs : SelsBd maxLen sub) (h0 : 0 ≤ n) (h1 : n ≤ 1048576) :
    Calls Tryz.prog 78 #[.agg #[.int .i64 h.k, .string h.al, .string h.nm, .slice a1 h.args.length c1, .slice a2 h.dirs.length c2, .slice a3 sub.len c3], .int .i64 n] w fun e w' =>
      ∃ m, e = .returned (.int .i64 m) ∧ Sz n m (HdBd 1048576 h ∧ sub.len ≤ 1048576 ∧ SelsBd 1048576 sub) ∧ Below w.heap.size w w' := by
  obtain ⟨b1, b2, b3, b4, b5, b6⟩ := hb
  have b1' := b1
  have b2' := b2
  unfold maxLen at b1' b2'
  have H4 : Hid (∀ x ∈ h.args, ArBd maxLen x) := b4
  have H6 : Hid (∀ x ∈ h.dirs, DiBd maxLen x) := b6
  have HS : Hid (SelsBd maxLen sub) := hs
  have HI : Hid (SzSels sub) := ih
  have B0 : Below w.heap.size w (w.alloc (.cells #[.int .i64 h.k, .string h.al, .string h.nm, .slice a1 h.args.length c1, .slice a2 h.dirs.length c2, .slice a3 sub.len c3] 132)) := (Below.refl _ _).alloc (Nat.le_refl _) _
  have R1 : Hid (ArRow 0 _ _ a1 h.args) := Row.up r1 B0
  have R2 : Hid (DiRow 0 _ _ a2 h.dirs) := Row.up r2 B0
  have R3 : Hid (SelRow 0 _ _ a3 sub) := SelRow.up r3 B0
  have HB : Hid _ := B0
  clear b4 b6 hs ih r1 r2 r3 B0
  by_cases g1 : n - h.al.size < 0
  · go_enter Tryz.func78, Tryz.ntmps78
    go_wp2_with fail
    go_ret
    exact ⟨-1, rfl, Sz.neg h0, HB.out⟩
  by_cases g2 : n - h.al.size - h.nm.size < 0
  · go_enter Tryz.func78, Tryz.ntmps78
    go_wp2_with fail
    go_ret
    exact ⟨-1, rfl, Sz.neg h0, HB.out⟩
  go_enter Tryz.func78, Tryz.ntmps78
  go_wp2_with fail
  refine (sz_args a1 c1 h.args _ _ R1.out b3 H4.out (by omega) (by omega)).mono ?_
  rintro e w1 ⟨m1, rfl, hm, hb1⟩
  have M1 : Hid _ := hm
  clear hm
  obtain ⟨hc1, hf1⟩ := bcell hb1
  have hz1 : w.heap.size + 1 ≤ w1.heap.size := by have := hb1.size; simpa using this
  have hy1 : w.heap.size < w1.heap.size := by omega
  have R2 : Hid (DiRow 0 w1.heap.size w1 a2 h.dirs) := Row.up R2.out hb1
  have R3 : Hid (SelRow 0 w1.heap.size w1 a3 sub) := SelRow.up R3.out hb1
  have q1 : Below w.heap.size w w1 := HB.out.trans (hb1.mono (by simp))
  have u1 := M1.out.1
  by_cases n1 : m1 < 0
  · go_wp2_with fail
    go_ret
    exact ⟨-1, rfl, Sz.neg h0, q1⟩
  go_wp2_with fail
  refine (sz_dirs a2 c2 h.dirs _ _ R2.out b5 H6.out (by omega) (by omega)).mono ?_
  rintro e w2 ⟨m2, rfl, hm, hb2⟩
  have M2 : Hid _ := hm
  clear hm
  obtain ⟨hc2, hf2⟩ := bcell hb2
  have hz2 := hb2.size
  have hy2 : w.heap.size < w2.heap.size := by omega
  have R3 : Hid (SelRow 0 w2.heap.size w2 a3 sub) := SelRow.up R3.out hb2
  have q2 : Below w.heap.size w w2 := q1.trans (hb2.mono q1.size)
  have u2 := M2.out.1
  by_cases n2 : m2 < 0
  · go_wp2_with fail
    go_ret
    exact ⟨-1, rfl, Sz.neg h0, q2⟩
  go_wp2_with fail
  refine (HI.out a3 c3 _ _ R3.out hl HS.out (by omega) (by omega)).mono ?_
  rintro e w3 ⟨m3, rfl, hm, hb3⟩
  have M3 : Hid _ := hm
  clear hm
  have q3 : Below w.heap.size w w3 := q2.trans (hb3.mono q2.size)
  have u3 := M3.out.1
  by_cases n3 : m3 < 0
  · go_wp2_with fail
    go_ret
    exact ⟨-1, rfl, Sz.neg h0, q3⟩
  go_wp2_with fail
  go_ret
  have v1 := M1.out.2.2 (by omega)
  have v2 := M2.out.2.2 (by omega)
  have v3 := M3.out.2.2 (by omega)
  exact ⟨m3, rfl, ⟨by omega, by omega, fun _ => ⟨⟨by omega, by omega, v1.1, v1.2, v2.1, v2.2⟩, v3.1, v3.2⟩⟩, q3⟩

set_option maxHeartbeats 1000000 in
theorem sz_sels (l : Sels) : SzSels l := by
  induction hN : l.size using Nat.strongRecOn generalizing l with
  | _ N ih =>
  subst hN
  intro a c n w hr hl hbd h0 h1
  unfold maxLen at hl
  have IH : Hid (∀ sub : Sels, sub.size < l.size → SzSels sub) := fun sub hsub => ih sub.size hsub sub rfl
  have HR : Hid (SelFrom 0 w.heap.size w a 0 l) := hr.from_
  have HB : Hid (SelsBd maxLen l) := hbd
  clear hr ih hbd
  by_cases hz : n - l.len < 0
  · go_enter Tryz.func60, Tryz.ntmps60
    go_wp2_with fail
    go_ret
    exact ⟨-1, rfl, Sz.neg h0, Below.refl _ _⟩
  go_enter Tryz.func60, Tryz.ntmps60
  go_wp2_with fail
  go_loopw [1, 5] (fun r i w' => ∃ (k : Nat) (m : Int) (rest : Sels), l.len = k + rest.len ∧ i = .int .i64 k ∧ r = .int .i64 m ∧ 0 ≤ m ∧ m ≤ n ∧ Below w.heap.size w w' ∧ Hid (rest.size ≤ l.size) ∧ Hid (SelsBd maxLen rest) ∧ Hid (SelFrom 0 w.heap.size w a k rest) ∧ Hid (SelsBd 1048576 rest → SelsBd 1048576 l)) (fun _ i _ => l.len - (intOf i).toNat)
  case atStart => exact ⟨0, _, l, by omega, rfl, rfl, by omega, by omega, Below.refl _ _, Nat.le_refl _, HB, HR, id⟩
  case round =>
    rename_i wr
    obtain ⟨k, m, rest, hk, rfl, rfl, hm0, hm1, hb, HZ, HD, HF, HC⟩ := hrel
    cases rest with
    | nil =>
      have hk' : ¬ k < l.len := by rw [hk]; simp only [Sels.len]; omega
      clear hk
      go_wp2_with fail
      go_ret
      exact ⟨m, rfl, ⟨hm1, by omega, fun _ => ⟨by omega, HC.out trivial⟩⟩, hb⟩
    | cons h sub rest =>
      have hlt : k < l.len := by rw [hk]; simp only [Sels.len]; omega
      have hk' : Hid (l.len = k + 1 + rest.len) := by rw [Hid, hk]; simp only [Sels.len]; omega
      obtain ⟨b, o, a1, c1, a2, c2, a3, c3, ha, _, hbl, d0, d1, d2, d3, d4, d5, r1, r2, r3, _⟩ := (HF.out.keep (Below.agree hb (Nat.le_refl _))).step
      have HF2 : Hid (SelFrom 0 w.heap.size w a (k + 1) rest) := SelFrom.next HF.out
      subst ha
      have R1 : Hid (ArRow 0 wr.heap.size wr a1 h.args) := Row.wide r1 (Nat.le_refl _) hb.size
      have R2 : Hid (DiRow 0 wr.heap.size wr a2 h.dirs) := Row.wide r2 (Nat.le_refl _) hb.size
      have R3 : Hid (SelRow 0 wr.heap.size wr a3 sub) := SelRow.wide r3 (Nat.le_refl _) hb.size
      have HD' := HD.out
      obtain ⟨e1, e2, e3, e4⟩ := HD'
      have E1 : Hid (HdBd maxLen h) := e1
      have E3 : Hid (SelsBd maxLen sub) := e3
      have E4 : Hid (SelsBd maxLen rest) := e4
      have HZ2 : Hid (rest.size ≤ l.size) := by have := HZ.out; simp only [Sels.size] at this; unfold Hid; omega
      have IS : Hid (SzSels sub) := IH.out sub (by have := HZ.out; simp only [Sels.size] at this; omega)
      clear r1 r2 r3 e1 e3 e4 hk
      go_wp2_with fail
      refine (sz_sel h sub IS.out a1 a2 a3 c1 c2 c3 m _ R1.out R2.out R3.out E1.out e2 E3.out hm0 (by omega)).mono ?_
      rintro e w1 ⟨m1, rfl, hm, hb1⟩
      have HM : Hid _ := hm
      clear hm d0 d1 d2 d3 d4 d5
      by_cases hneg : m1 < 0
      · go_wp2_with fail
        go_ret
        exact ⟨-1, rfl, Sz.neg h0, hb.trans (hb1.mono hb.size)⟩
      · go_wp2_with fail
        go_roundw
        case rel =>
          have hv := HM.out.2.2 (by omega)
          exact ⟨k + 1, m1, rest, hk'.out, by go_num, rfl, by omega, by have := HM.out.1; omega, hb.trans (hb1.mono hb.size), HZ2, E4, HF2, fun hr => HC.out ⟨hv.1, hv.2.1, hv.2.2, hr⟩⟩
        case measure => simp [intOf]; omega

set_option maxHeartbeats 1000000 in
theorem sz_def (x : De) (a3 : Option Addr) (c3 : Nat) (n : Int) (w : World) (r3 : SelRow 0 w.heap.size w a3 x.sels) (hb : DeBd maxLen x) (h0 : 0 ≤ n) (h1 : n ≤ 1048576) :
    Calls Tryz.prog 40 #[.agg #[.int .i64 x.k, .string x.nm, .string x.on, .slice a3 x.sels.len c3], .int .i64 n] w fun e w' => ∃ m, e = .returned (.int .i64 m) ∧ Sz n m (DeBd 1048576 x) ∧ Below w.heap.size w w' := by
  obtain ⟨b1, b2, b3, b4⟩ := hb
  have b1' := b1
  have b2' := b2
  unfold maxLen at b1' b2'
  have HS : Hid (SelsBd maxLen x.sels) := b4
  have B0 : Below w.heap.size w (w.alloc (.cells #[.int .i64 x.k, .string x.nm, .string x.on, .slice a3 x.sels.len c3] 80)) := (Below.refl _ _).alloc (Nat.le_refl _) _
  have R3 : Hid (SelRow 0 _ _ a3 x.sels) := SelRow.up r3 B0
  have HB : Hid _ := B0
  clear b4 r3 B0
  by_cases g1 : n - x.nm.size < 0
  · go_enter Tryz.func40, Tryz.ntmps40
    go_wp2_with fail
    go_ret
    exact ⟨-1, rfl, Sz.neg h0, HB.out⟩
  by_cases g2 : n - x.nm.size - x.on.size < 0
  · go_enter Tryz.func40, Tryz.ntmps40
    go_wp2_with fail
    go_ret
    exact ⟨-1, rfl, Sz.neg h0, HB.out⟩
  go_enter Tryz.func40, Tryz.ntmps40
  go_wp2_with fail
  refine (sz_sels x.sels a3 c3 _ _ R3.out b3 HS.out (by omega) (by omega)).mono ?_
  rintro e w3 ⟨m3, rfl, hm, hb3⟩
  have M3 : Hid _ := hm
  clear hm
  have q3 : Below w.heap.size w w3 := HB.out.trans (hb3.mono (by simp))
  have u3 := M3.out.1
  by_cases n3 : m3 < 0
  · go_wp2_with fail
    go_ret
    exact ⟨-1, rfl, Sz.neg h0, q3⟩
  go_wp2_with fail
  go_ret
  have v3 := M3.out.2.2 (by omega)
  exact ⟨m3, rfl, ⟨by omega, by omega, fun _ => ⟨by omega, by omega, v3.1, v3.2⟩⟩, q3⟩

set_option maxHeartbeats 1000000 in
theorem sz_defs (a : Option Addr) (c : Nat) (l : List De) (n : Int) (w : World) (hr : DeRow 0 w.heap.size w a l) (hbd : DefsBd maxLen l) (h0 : 0 ≤ n) (h1 : n ≤ 1048576) :
    Calls Tryz.prog 17 #[.slice a l.length c, .int .i64 n] w fun e w' => ∃ m, e = .returned (.int .i64 m) ∧ Sz n m (DefsBd 1048576 l) ∧ Below w.heap.size w w' := by
  obtain ⟨hl, ht⟩ := hbd
  unfold maxLen at hl
  by_cases hz : n - l.length < 0
  · go_enter Tryz.func17, Tryz.ntmps17
    go_wp2_with fail
    go_ret
    exact ⟨-1, rfl, Sz.neg h0, Below.refl _ _⟩
  · have HR : Hid (DeRow 0 w.heap.size w a l) := hr
    have HT : Hid (∀ x ∈ l, DeBd maxLen x) := ht
    clear hr ht
    go_enter Tryz.func17, Tryz.ntmps17
    go_wp2_with fail
    go_loopw [1, 5] (fun r i w' => ∃ (k : Nat) (m : Int), k ≤ l.length ∧ i = .int .i64 k ∧ r = .int .i64 m ∧ 0 ≤ m ∧ m ≤ n ∧ Below w.heap.size w w' ∧ Hid (∀ x ∈ l.take k, DeBd 1048576 x)) (fun _ i _ => l.length - (intOf i).toNat)
    case atStart => exact ⟨0, _, by omega, rfl, rfl, by omega, by omega, Below.refl _ _, by simp [Hid]⟩
    case round =>
      rename_i wr
      obtain ⟨k, m, hk, rfl, rfl, hm0, hm1, hb, HK⟩ := hrel
      by_cases hlt : k < l.length
      · obtain ⟨b, o, a3, c3, ha, _, hbl, d0, d1, d2, d3, r3⟩ := (HR.out.keep (Below.agree hb (Nat.le_refl _))).cells k hlt
        subst ha
        have R3 : Hid (SelRow 0 wr.heap.size wr a3 l[k].sels) := SelRow.wide r3 (Nat.le_refl _) hb.size
        have HX : Hid (DeBd maxLen l[k]) := HT.out l[k] (List.getElem_mem hlt)
        clear r3
        go_wp2_with fail
        refine (sz_def l[k] a3 c3 m _ R3.out HX.out hm0 (by omega)).mono ?_
        rintro e w1 ⟨m1, rfl, hm, hb1⟩
        have HM : Hid (Sz m m1 (DeBd 1048576 l[k])) := hm
        clear hm d0 d1 d2 d3
        by_cases hneg : m1 < 0
        · go_wp2_with fail
          go_ret
          exact ⟨-1, rfl, Sz.neg h0, hb.trans (hb1.mono hb.size)⟩
        · go_wp2_with fail
          go_roundw
          case rel => exact ⟨k + 1, m1, by omega, by go_num, rfl, by omega, by have := HM.out.1; omega, hb.trans (hb1.mono hb.size), all_take hlt HK.out (HM.out.2.2 (by omega))⟩
          case measure => simp [intOf]; omega
      · go_wp2_with fail
        go_ret
        rw [List.take_of_length_le (by omega)] at HK
        exact ⟨m, rfl, ⟨hm1, by omega, fun _ => ⟨by omega, HK.out⟩⟩, hb⟩
set_option maxHeartbeats 1000000 in
theorem sz_doc (a : Option Addr) (c : Nat) (l : List De) (n : Int) (w : World) (hr : DeRow 0 w.heap.size w a l) (hbd : DefsBd maxLen l) (h0 : 0 ≤ n) (h1 : n ≤ 1048576) :
    Calls Tryz.prog 4 #[.agg #[.slice a l.length c], .int .i64 n] w fun e w' => ∃ m, e = .returned (.int .i64 m) ∧ Sz n m (DefsBd 1048576 l) ∧ Below w.heap.size w w' := by
  have B0 : Below w.heap.size w (w.alloc (.cells #[.slice a l.length c] 24)) := (Below.refl _ _).alloc (Nat.le_refl _) _
  have R3 : Hid (DeRow 0 _ _ a l) := DeRow.up hr B0
  have HB : Hid _ := B0
  have HD : Hid _ := hbd
  clear hr B0 hbd
  go_enter Tryz.func4, Tryz.ntmps4
  go_wp2_with fail
  refine (sz_defs a c l _ _ R3.out HD.out (by omega) (by omega)).mono ?_
  rintro e w3 ⟨m3, rfl, hm, hb3⟩
  have M3 : Hid _ := hm
  clear hm
  have q3 : Below w.heap.size w w3 := HB.out.trans (hb3.mono (by simp))
  by_cases n3 : m3 < 0
  · go_wp2_with fail
    go_ret
    exact ⟨-1, rfl, Sz.neg h0, q3⟩
  go_wp2_with fail
  go_ret
  exact ⟨m3, rfl, M3.out, q3⟩
end Go.Proofs.YtdchpeifpiglmaaGreatDoor
