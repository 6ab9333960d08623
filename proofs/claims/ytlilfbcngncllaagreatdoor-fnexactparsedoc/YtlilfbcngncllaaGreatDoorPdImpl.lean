/- The program's ParseDoc: what it does where its reader panics, and where not. -/
import Derived.Test.YtlilfbcngncllaaGreatDoorDocSpec
import Derived.Test.YtlilfbcngncllaaGreatDoorDocRoom
import Derived.Test.YtlilfbcngncllaaGreatDoorPdOwn
namespace Go.Proofs.YtlilfbcngncllaaGreatDoor
open Go.ChangeShapes Go.WideShapes Go.ChangeAt Go.RowKit
set_option linter.unusedVariables false

/-- How many there are, if all are right, not too deep and not too many. -/
def cntB (d : Nat) (l : Sels) : Bool := okS d l && decide (l.size ≤ 60)
def cntN (d : Nat) (l : Sels) : Int := if cntB d l = true then l.size else 0
def SpecSels (l : Sels) : Prop := ∀ (a : Option Addr) (c d : Nat) (w : World), SelRow 0 w.heap.size w a l → l.len ≤ 1048576 → SelsBd 1048576 l → d ≤ 7 →
    Calls Tryz.prog 37 #[.slice a l.len c, .int .i64 d] w fun e w' => e = .returned (.tuple #[.int .i64 (cntN d l), .bool (cntB d l)]) ∧ Below w.heap.size w w'
theorem cnt_no {d : Nat} {l : Sels} (h : cntB d l = false) : cntN d l = 0 := by unfold cntN; rw [h]; rfl
theorem cnt_yes {d : Nat} {l : Sels} (h : cntB d l = true) : cntN d l = l.size ∧ l.size ≤ 60 := by
  unfold cntN; rw [h]
  simp only [cntB, Bool.and_eq_true, decide_eq_true_eq] at h
  exact ⟨rfl, h.2⟩
theorem ok_part {d : Nat} {h : Hd} {sub rest : Sels} : okS d (.cons h sub rest) = (decide (0 < d) && hdB h sub.isNil && okS (d - 1) sub && okS d rest) := rfl
/-- A right set's rest is right; a wrong rest makes it wrong. -/
def Tail (d : Nat) (l rest : Sels) (n : Nat) : Prop := okS d l = okS d rest ∧ l.size = n + rest.size
theorem Tail.no_hd {d n : Nat} {l : Sels} {h : Hd} {sub rest : Sels} (t : Tail d l (.cons h sub rest) n) (hh : hdB h sub.isNil = false) : cntB d l = false := by
  unfold cntB; rw [t.1, ok_part, hh]; simp
theorem Tail.no_sub {d n : Nat} {l : Sels} {h : Hd} {sub rest : Sels} (t : Tail d l (.cons h sub rest) n) (hh : cntB (d - 1) sub = false) : cntB d l = false := by
  unfold cntB at *
  rw [Bool.and_eq_false_iff] at hh ⊢
  rcases hh with hh | hh
  · exact .inl (by rw [t.1, ok_part, hh]; simp)
  · right
    simp only [decide_eq_false_iff_not] at hh ⊢
    have := t.2
    simp only [Sels.size] at this
    omega
theorem Tail.no_many {d n : Nat} {l : Sels} {h : Hd} {sub rest : Sels} (t : Tail d l (.cons h sub rest) n) (hh : 60 < n + (1 + sub.size)) : cntB d l = false := by
  unfold cntB
  rw [Bool.and_eq_false_iff]
  right
  simp only [decide_eq_false_iff_not]
  have := t.2
  simp only [Sels.size] at this
  omega
theorem Tail.next {d n : Nat} {l : Sels} {h : Hd} {sub rest : Sels} (t : Tail d l (.cons h sub rest) n) (hd : 0 < d) (hh : hdB h sub.isNil = true) (hs : cntB (d - 1) sub = true) : Tail d l rest (n + (1 + sub.size)) := by
  unfold cntB at hs
  simp only [Bool.and_eq_true] at hs
  refine ⟨by rw [t.1, ok_part, hh, hs.1]; simp [hd], ?_⟩
  have := t.2
  simp only [Sels.size] at this
  omega
theorem ret_two {a b : Int} {p q : Bool} (h1 : a = b) (h2 : p = q) : Ending.returned (.tuple #[.int .i64 a, .bool p]) = .returned (.tuple #[.int .i64 b, .bool q]) := by rw [h1, h2]

set_option maxHeartbeats 4000000 in
set_option maxRecDepth 40000 in
theorem spec_sels (l : Sels) : SpecSels l := by
  induction hN : l.size using Nat.strongRecOn generalizing l with
  | _ N ih =>
  subst hN
  intro a c d w hr hl hbd hd7
  have IH : Hid (∀ sub : Sels, sub.size < l.size → SpecSels sub) := fun sub hsub => ih sub.size hsub sub rfl
  have HR : Hid (SelFrom 0 w.heap.size w a 0 l) := hr.from_
  have HB : Hid (SelsBd 1048576 l) := hbd
  clear hr ih hbd
  by_cases hd : d = 0 ∧ 0 < l.len
  · obtain ⟨rfl, h0⟩ := hd
    have HN : Hid (cntB 0 l = false) := by
      cases l with
      | nil => simp [Sels.len] at h0
      | cons h sub rest => unfold Hid cntB; rw [ok_part]; simp
    go_enter Tryz.func37, Tryz.ntmps37
    go_wp2_with fail
    go_ret2
    exact ⟨ret_two (cnt_no HN.out).symm HN.out.symm, Below.refl _ _⟩
  by_cases hd0 : d = 0
  · have hnil : l = .nil := by
      cases l with
      | nil => rfl
      | cons h sub rest => exact absurd ⟨hd0, by simp only [Sels.len]; omega⟩ hd
    subst hnil
    subst hd0
    clear HB HR IH hd hl
    simp only [Sels.len]
    go_enter Tryz.func37, Tryz.ntmps37
    go_wp2_with fail
    go_loopw [6, 7] (fun s i w' => i = .int .i64 0 ∧ s = .int .i64 0 ∧ Below w.heap.size w w') (fun _ i _ => 0)
    case atStart => exact ⟨rfl, rfl, Below.refl _ _⟩
    case round =>
      obtain ⟨rfl, rfl, hb⟩ := hrel
      go_wp2_with fail
      go_ret2
      exact ⟨rfl, hb⟩
  have hbz : ((d : Int) == 0) = false := by rw [beq_eq_false_iff_ne]; omega
  have hdp : 0 < d := by omega
  clear hd hd0
  go_enter Tryz.func37, Tryz.ntmps37
  go_wp2_with fail
  go_loopw [6, 7] (fun s i w' => ∃ (k n : Nat) (rest : Sels), Hid (l.len = k + rest.len) ∧ i = .int .i64 k ∧ s = .int .i64 n ∧ n ≤ 60 ∧ Below w.heap.size w w' ∧ Hid (rest.size ≤ l.size) ∧ Hid (SelsBd 1048576 rest) ∧ Hid (SelFrom 0 w.heap.size w a k rest) ∧ Hid (Tail d l rest n)) (fun _ i _ => l.len - (intOf i).toNat)
  case atStart => exact ⟨0, 0, l, by simp [Hid], rfl, rfl, by omega, Below.refl _ _, Nat.le_refl _, HB, HR, ⟨rfl, by omega⟩⟩
  case round =>
    rename_i wr
    obtain ⟨k, n, rest, HK, rfl, rfl, hn, hb, HZ, HD, HF, HT⟩ := hrel
    cases rest with
    | nil =>
      have hk' : ¬ k < l.len := by rw [HK.out]; simp only [Sels.len]; omega
      have HN : Hid (cntB d l = true ∧ l.size = n) := by
        have := HT.out
        have h2 := this.2
        simp only [Sels.size] at h2
        refine ⟨?_, by omega⟩
        unfold cntB; rw [this.1]
        have h3 : l.size ≤ 60 := by omega
        simp [okS, h3]
      go_wp2_with fail
      go_ret2
      exact ⟨ret_two (by rw [(cnt_yes HN.out.1).1, HN.out.2]) HN.out.1.symm, hb⟩
    | cons h sub rest =>
      have hlt : k < l.len := by rw [HK.out]; simp only [Sels.len]; omega
      have HK2 : Hid (l.len = k + 1 + rest.len) := by rw [Hid, HK.out]; simp only [Sels.len]; omega
      obtain ⟨b, o, a1, c1, a2, c2, a3, c3, ha, _, hbl, d0, d1, d2, d3, d4, d5, r1, r2, r3, _⟩ := (HF.out.keep (Below.agree hb (Nat.le_refl _))).step
      have HF2 : Hid (SelFrom 0 w.heap.size w a (k + 1) rest) := SelFrom.next HF.out
      subst ha
      have K1 : Hid (∀ W0, Below wr.heap.size wr W0 → ArRow 0 W0.heap.size W0 a1 h.args) := fun W0 hB => Row.up (Row.wide r1 (Nat.le_refl _) hb.size) hB
      have K2 : Hid (∀ W0, Below wr.heap.size wr W0 → DiRow 0 W0.heap.size W0 a2 h.dirs) := fun W0 hB => Row.up (Row.wide r2 (Nat.le_refl _) hb.size) hB
      have K3 : Hid (∀ W0, Below wr.heap.size wr W0 → SelRow 0 W0.heap.size W0 a3 sub) := fun W0 hB => SelRow.up (SelRow.wide r3 (Nat.le_refl _) hb.size) hB
      have HD' := HD.out
      obtain ⟨e1, e2, e3, e4⟩ := HD'
      have E1 : Hid (HdBd 1048576 h) := e1
      have E3 : Hid (SelsBd 1048576 sub) := e3
      have E4 : Hid (SelsBd 1048576 rest) := e4
      have HZ2 : Hid (rest.size ≤ l.size) := by have := HZ.out; simp only [Sels.size] at this; unfold Hid; omega
      have IS : Hid (SpecSels sub) := IH.out sub (by have := HZ.out; simp only [Sels.size] at this; omega)
      have hdd : ((d : Int) - 1) = ((d - 1 : Nat) : Int) := by omega
      clear r1 r2 r3 e1 e3 e4
      go_wp2_with fail
      refine Calls.mono (spec_sel h sub.len a1 a2 a3 c1 c2 c3 _ (K1.out _ ?b0) (K2.out _ ?b1) E1.out e2) ?_
      case b0 => repeat (first | exact Below.refl _ _ | refine Below.setCell ?_ (by simp <;> omega) _ | refine Below.alloc ?_ (by simp <;> omega) _)
      case b1 => repeat (first | exact Below.refl _ _ | refine Below.setCell ?_ (by simp <;> omega) _ | refine Below.alloc ?_ (by simp <;> omega) _)
      rw [← Sels.isNil_len]
      cases hh : hdB h sub.isNil
      · rintro e w1 ⟨rfl, hb1⟩
        have HN : Hid (cntB d l = false) := HT.out.no_hd hh
        have q1 : Hid (Below w.heap.size w w1) := by
          refine hb.trans (Below.trans ?_ (hb1.mono (by have := hb.size; simp <;> omega)))
          repeat (first | exact Below.refl _ _ | refine Below.setCell ?_ (by have := hb.size; simp <;> omega) _ | refine Below.alloc ?_ (by have := hb.size; simp <;> omega) _)
        go_wp2_with fail
        go_ret2
        exact ⟨ret_two (cnt_no HN.out).symm HN.out.symm, q1.out⟩
      · rintro e w1 ⟨rfl, hb1⟩
        have hz1 : wr.heap.size + 1 ≤ w1.heap.size := by have := hb1.size; simpa using this
        have p1 : Below wr.heap.size wr w1 := by
          refine Below.trans ?_ (hb1.mono (by simp <;> omega))
          repeat (first | exact Below.refl _ _ | refine Below.setCell ?_ (by simp <;> omega) _ | refine Below.alloc ?_ (by simp <;> omega) _)
        have P1 : Hid _ := p1
        have k0 := fun o => hb1.cell (p := ⟨wr.heap.size, o, none⟩) (by simp <;> omega)
        clear hb1 p1
        go_wp2_with fail
        refine (IS.out a3 c3 (d - 1) _ (K3.out _ P1.out) e2 E3.out (by omega)).mono ?_
        cases hs : cntB (d - 1) sub
        · rw [cnt_no hs]
          rintro e w2 ⟨rfl, hb2⟩
          have HN : Hid (cntB d l = false) := HT.out.no_sub hs
          have q2 : Hid (Below w.heap.size w w2) := hb.trans ((P1.out.trans (hb2.mono P1.out.size)).mono hb.size)
          go_wp2_with fail
          go_ret2
          exact ⟨ret_two (cnt_no HN.out).symm HN.out.symm, q2.out⟩
        · rw [(cnt_yes hs).1]
          have h60 := (cnt_yes hs).2
          rintro e w2 ⟨rfl, hb2⟩
          have q2 : Below w.heap.size w w2 := hb.trans ((P1.out.trans (hb2.mono P1.out.size)).mono hb.size)
          by_cases hm : 60 < n + (1 + sub.size)
          · have HN : Hid (cntB d l = false) := HT.out.no_many hm
            go_wp2_with fail
            go_ret2
            exact ⟨ret_two (cnt_no HN.out).symm HN.out.symm, q2⟩
          · have HN : Hid (Tail d l rest (n + (1 + sub.size))) := HT.out.next hdp hh hs
            go_wp2_with fail
            go_roundw
            case rel => exact ⟨k + 1, n + (1 + sub.size), rest, HK2, by go_num, by go_num, by omega, q2, HZ2, E4, HF2, HN⟩
            case measure => simp [intOf]; omega
end Go.Proofs.YtlilfbcngncllaaGreatDoor
namespace Go.Proofs.YtlilfbcngncllaaGreatDoor
open Go.ChangeShapes Go.WideShapes Go.ChangeAt Go.RowKit
set_option linter.unusedVariables false

theorem doc_no_def {l : List De} {k : Nat} (hk : k < l.length) (h : defB l[k] = false) : docB l = false := by
  unfold docB; rw [all_no_b hk h]; simp
theorem doc_many {l : List De} {k : Nat} (hk : k < l.length) (h : 60 < sizeL (l.take k) + l[k].sels.size) : docB l = false := by
  have h1 := sizeL_take hk
  have h2 := sizeL_le l (k + 1)
  have : ¬ sizeL l ≤ 60 := by omega
  unfold docB; simp [this]
theorem doc_len {l : List De} (h : ¬ (1 ≤ l.length ∧ l.length ≤ 6)) : docB l = false := by
  unfold docB
  by_cases h1 : 1 ≤ l.length
  · have : ¬ l.length ≤ 6 := fun h2 => h ⟨h1, h2⟩
    simp [this]
  · simp [h1]
theorem doc_yes {l : List De} (h : 1 ≤ l.length ∧ l.length ≤ 6) (ha : l.all defB = true) (hs : sizeL l ≤ 60) : docB l = true := by
  unfold docB; rw [ha]; simp [h.1, h.2, hs]
theorem takes_no {l : List De} {k : Nat} (hk : k < l.length) (h : takesB 7 (60 - (sizeL (l.take k) : Int)) l[k].sels = false) : docB l = false := by
  unfold takesB at h
  simp only [Bool.and_eq_false_iff] at h
  rcases h with (h | h) | h
  · exact doc_no_def hk (by unfold defB; rw [h]; simp)
  · exact doc_no_def hk (by unfold defB; rw [h]; simp)
  · simp only [decide_eq_false_iff_not] at h
    exact doc_many hk (by omega)

set_option maxHeartbeats 4000000 in
set_option maxRecDepth 40000 in
theorem impl_doc (a : Option Addr) (c : Nat) (l : List De) (w : World) (hr : DeRow 0 w.heap.size w a l) (hl : l.length ≤ 1048576) (ht : ∀ x ∈ l, DeBd 1048576 x) :
    Calls Tryz.prog 14 #[.agg #[.slice a l.length c]] w fun e w' => e = .returned (.bool (docB l)) ∧ Below w.heap.size w w' := by
  have B0 : Hid (Below w.heap.size w (w.alloc (.cells #[.slice a l.length c] 24))) := (Below.refl _ _).alloc (Nat.le_refl _) _
  have HR : Hid (DeRow 0 w.heap.size w a l) := hr
  have HT : Hid (∀ x ∈ l, DeBd 1048576 x) := ht
  clear hr ht
  by_cases g1 : l.length < 1
  · have HN : Hid (docB l = false) := doc_len (by omega)
    clear HR HT
    go_enter Tryz.func14, Tryz.ntmps14
    go_wp2_with fail
    go_ret
    exact ⟨ret_bool HN.out.symm, B0.out⟩
  by_cases g2 : 6 < l.length
  · have HN : Hid (docB l = false) := doc_len (by omega)
    clear HR HT
    go_enter Tryz.func14, Tryz.ntmps14
    go_wp2_with fail
    go_ret
    exact ⟨ret_bool HN.out.symm, B0.out⟩
  have HS : Hid (Room ((w.alloc (.cells #[.slice a l.length c] 24)).alloc (.cells #[.int .i64 60] 58)) (w.heap.size + 1) (60 - ((0 : Nat) : Int))) := by
    have h1 := heap_alloc_new (w.alloc (.cells #[.slice a l.length c] 24)) (.cells #[.int .i64 60] 58)
    rw [show (w.alloc (.cells #[.slice a l.length c] 24)).heap.size = w.heap.size + 1 by simp] at h1
    exact h1
  go_enter Tryz.func14, Tryz.ntmps14
  go_wp2_with fail
  go_loopw [20] (fun i w' => ∃ (k s : Nat), k ≤ l.length ∧ i = .int .i64 k ∧ Below w.heap.size w w' ∧ Hid (s = sizeL (l.take k)) ∧ s ≤ 60 ∧ Hid (Room w' (w.heap.size + 1) (60 - (s : Int))) ∧ Hid ((l.take k).all defB = true)) (fun i _ => l.length - (intOf i).toNat)
  case atStart => exact ⟨0, 0, by omega, rfl, B0.out.alloc (by simp) _, rfl, by omega, HS, rfl⟩
  case round =>
    rename_i wr
    obtain ⟨k, s, hk, rfl, hb, HZ, hs, HO, HA⟩ := hrel
    by_cases hlt : k < l.length
    · obtain ⟨b, o, a3, c3, ha, _, hbl, d0, d1, d2, d3, r3⟩ := DeRow.cells (DeRow.keep HR.out (Below.agree hb (Nat.le_refl _))) k hlt
      subst ha
      have HX : Hid (DeBd 1048576 l[k]) := HT.out l[k] (List.getElem_mem hlt)
      have hRr := HO.out.lt
      have K3 : Hid (∀ W0, Below (w.heap.size + 2) wr W0 → SelRow 0 (w.heap.size + 1) W0 a3 l[k].sels) := fun W0 hB => (SelRow.keep r3 (Below.agree hB (by omega))).wide (Nat.le_refl _) (by omega)
      clear r3
      go_wp2_with fail
      refine (impl_head l[k] l[k].sels.len a3 c3 _ (by have := HX.out.1; unfold maxLen; omega) (by have := HX.out.2.1; unfold maxLen; omega)).mono ?_
      cases hh : headB l[k]
      · rintro e w1 ⟨rfl, hb1⟩
        have HN : Hid (docB l = false) := doc_no_def hlt (by unfold defB; rw [hh]; rfl)
        have q1 : Hid (Below w.heap.size w w1) := by
          refine hb.trans (Below.trans ?_ (hb1.mono (by first | omega | (simp <;> omega))))
          repeat (first | exact Below.refl _ _ | refine Below.setCell ?_ (by first | omega | (simp <;> omega)) _ | refine Below.alloc ?_ (by first | omega | (simp <;> omega)) _)
        go_wp2_with fail
        go_ret
        exact ⟨ret_bool HN.out.symm, q1.out⟩
      · rintro e w1 ⟨rfl, hb1⟩
        have p1 : Below (w.heap.size + 2) wr w1 := by
          refine Below.trans ?_ (hb1.mono (by first | omega | (simp <;> omega)))
          repeat (first | exact Below.refl _ _ | refine Below.setCell ?_ (by first | omega | (simp <;> omega)) _ | refine Below.alloc ?_ (by first | omega | (simp <;> omega)) _)
        have P1 : Hid _ := p1
        have HO3 : Hid (Room w1 (w.heap.size + 1) (60 - (s : Int))) := HO.out.keep p1 (by omega)
        have k0 := fun o => hb1.cell (p := ⟨wr.heap.size, o, none⟩) (by first | omega | (simp <;> omega))
        have Q1 : Hid (Below w.heap.size w w1) := hb.trans (p1.mono (by omega))
        clear hb1 p1
        go_wp2_with fail
        refine (impl_takes l[k].sels (w.heap.size + 1) a3 c3 7 1 (60 - (s : Int)) _ HO3.out (K3.out _ P1.out) HX.out.2.2.1 HX.out.2.2.2 (by omega) (by omega) (by omega) (by omega)).mono ?_
        cases ht : takesB 7 (60 - (s : Int)) l[k].sels
        · rintro e w2 ⟨rfl, hb2, _⟩
          have HN : Hid (docB l = false) := takes_no hlt (by rw [← HZ.out]; exact ht)
          go_wp2_with fail
          go_ret
          exact ⟨ret_bool HN.out.symm, Q1.out.trans (hb2.mono (by omega))⟩
        · rintro e w2 ⟨rfl, hb2, hr2⟩
          have ht' := ht
          simp only [takesB, Bool.and_eq_true, decide_eq_true_eq] at ht'
          have HR2 : Hid (Room w2 (w.heap.size + 1) (60 - ((s + l[k].sels.size : Nat) : Int))) := by
            have := hr2 rfl
            rwa [show (60 : Int) - (s : Int) - (l[k].sels.size : Int) = 60 - ((s + l[k].sels.size : Nat) : Int) by omega] at this
          have HN : Hid ((l.take (k + 1)).all defB = true) := all_take_b hlt HA.out (by unfold defB; rw [hh, ht'.1.1, ht'.1.2]; rfl)
          have HZ2 : Hid (s + l[k].sels.size = sizeL (l.take (k + 1))) := by rw [Hid, sizeL_take hlt, HZ.out]
          have hle := ht'.2
          have hle2 : s + l[k].sels.size ≤ 60 := by omega
          clear hr2 ht'
          go_wp2_with fail
          go_roundw
          case rel => exact ⟨k + 1, s + l[k].sels.size, by omega, by go_num, Q1.out.trans (hb2.mono (by omega)), HZ2, hle2, HR2, HN⟩
          case measure => simp [intOf]; omega
    · have HN : Hid (docB l = true) := by
        have h1 := HA.out
        have h2 := HZ.out
        rw [List.take_of_length_le (by omega)] at h1 h2
        exact doc_yes (by omega) h1 (by omega)
      go_wp2_with fail
      go_ret
      exact ⟨ret_bool HN.out.symm, hb⟩
end Go.Proofs.YtlilfbcngncllaaGreatDoor
namespace Go.Proofs.YtlilfbcngncllaaGreatDoor
open Go.ChangeShapes Go.WideShapes Go.ChangeAt Go.RowKit
set_option linter.unusedVariables false

/-- What tokens and Lex's code come to. -/
def DpR (x : List Tk × Int) (ds : List De) (c : Int) : Prop :=
  (x.2 ≠ 0 ∧ ds = [] ∧ c = x.2) ∨ (x.2 = 0 ∧ ((pDoc x.1 = .form ∧ ds = [] ∧ c = 3) ∨ (pDoc x.1 = .deep ∧ ds = [] ∧ c = 8) ∨ ∃ d r, pDoc x.1 = .ok d r ∧ ((docB d = true ∧ ds = d ∧ c = 0) ∨ (docB d = false ∧ ds = [] ∧ c = 6))))
def DpIs (x : List Tk × Int) (w : World) (e : Ending) (w' : World) : Prop :=
  ∃ ds a c cd vs bs, e = .returned (.tuple #[.agg #[.slice a ds.length c], .int .i64 cd]) ∧ DpR x ds cd ∧ DocK w.heap.size w' (.slice a ds.length c) ds vs bs ∧ Below w.heap.size w w'
theorem docK_nil (base : Nat) (W : World) : DocK base W (.slice none 0 0) [] [] [] := ⟨⟨rfl, .inl ⟨rfl, rfl⟩⟩, ⟨rfl, rfl⟩, by simp [blk, Value.ownBlock], fun g hg => by simp at hg⟩
theorem docK_low {base b : Nat} {W : World} {V : Value} {l : List De} {vs : List Value} {bs : List Nat} (h : DocK base W V l vs bs) (hb : b ≤ base) : DocK b W V l vs bs :=
  ⟨owns_base h.own fun g hg => by have := (World.ownsRow.lt h.own g hg).1; omega, h.k, h.nd, fun g hg => ⟨by have := (h.inn g hg).1; omega, (h.inn g hg).2⟩⟩
set_option maxHeartbeats 1000000 in
theorem catchP_panicking (A B : Nat) (c x : Int) (v0 : Value) (older : List PanicEntry) (w : World) (hA : w.heap[A]? = some (.cells #[v0] 24 (0, 0))) (hB : w.heap[B]? = some (.cells #[.int .i64 x] 3 (0, 0))) (hAB : A ≠ B) :
    CallsD Tryz.prog 11 #[.pointer (some ⟨A, 0, none⟩), .pointer (some ⟨B, 0, none⟩)] (.panicking ({ v := .iface 53 (.agg #[.int .i64 c]), recovered := false } :: older)) w fun e u' w' =>
      e = .returned (.tuple #[]) ∧ u' = .panicking ({ v := .iface 53 (.agg #[.int .i64 c]), recovered := true } :: older) ∧ ∃ w1, Below w.heap.size w w1 ∧ w' = (w1.setCell ⟨A, 0, none⟩ (.slice none 0 0)).setCell ⟨B, 0, none⟩ (.int .i64 c) := by
  refine callsD_of_wpS Tryz.func11 rfl fun c₀ cs hu => ?_
  apply wpS_seq
  apply wpS_region
  simp [wpOpsS, go_sem, recoverD, hu, Tryz.ntmps11, Exit.thenS]
  refine wpS_of_wp ?_
  have dA := row_cell hA 0
  have dB := row_cell hB 0
  have fA := row_frozen hA 0
  have fB := row_frozen hB 0
  simp at dA dB
  have HA : Hid _ := hA
  have HB : Hid _ := hB
  clear hA hB dA dB fA fB
  go_wp2_with fail
  refine (fault_any c _).mono ?_
  rintro e w1 ⟨rfl, hb1⟩
  have hA1 := (hb1.block A (Array.getElem?_eq_some_iff.1 HA.out).1).trans HA.out
  have hB1 := (hb1.block B (Array.getElem?_eq_some_iff.1 HB.out).1).trans HB.out
  have dA := row_cell hA1 0
  have dB := row_cell hB1 0
  have fA := row_frozen hA1 0
  have fB := row_frozen hB1 0
  simp at dA dB
  clear hA1 hB1
  go_wp2_with fail
  simp [bodyPostS, results, Tryz.results11]
  exact ⟨w1, hb1, rfl⟩

theorem catchP_idle (A B : Nat) (w : World) :
    CallsD Tryz.prog 11 #[.pointer (some ⟨A, 0, none⟩), .pointer (some ⟨B, 0, none⟩)] .returning w fun e u' w' => e = .returned (.tuple #[]) ∧ u' = .returning ∧ w' = w := by
  refine callsD_of_wpS Tryz.func11 rfl fun c₀ cs hu => ?_
  apply wpS_seq
  apply wpS_region
  simp [wpOpsS, go_sem, recoverD, hu, Tryz.ntmps11, Exit.thenS]
  refine wpS_of_wp ?_
  go_wp2_with fail
  cases c₀
  simp_all [bodyPostS, results, Tryz.results11]
set_option maxHeartbeats 8000000 in
set_option maxRecDepth 40000 in
theorem impl_parseDoc (s : ByteArray) (w : World) (hs : s.size ≤ maxLen) (hv : Vars w) : Calls Tryz.prog 5 #[.string s] w (DpIs (lexB s) w) := by
  have hmf : ∀ (fn : Fn) (first cap : Array Value) (w : World), (Instr.makeFunc fn first cap).run Tryz.prog w = .ok (.func fn first cap) w := fun _ _ _ _ => rfl
  obtain ⟨V, hV⟩ : ∃ V, V = (w.alloc (.cells #[.slice none 0 0] 24)).alloc (.cells #[.int .i64 0] 3) := ⟨_, rfl⟩
  have BV : Hid (Below w.heap.size w V) := by rw [Hid, hV]; exact ((Below.refl _ _).alloc (Nat.le_refl _) _).alloc (by simp) _
  have cR : Hid (V.heap[w.heap.size]? = some (.cells #[.slice none 0 0] 24 (0, 0))) := by rw [Hid, hV, Below.heap_alloc _ _ _ (by simp)]; exact heap_alloc_new _ _
  have cC : Hid (V.heap[w.heap.size + 1]? = some (.cells #[.int .i64 0] 3 (0, 0))) := by
    rw [Hid, hV]
    have := heap_alloc_new (w.alloc (.cells #[.slice none 0 0] 24)) (.cells #[.int .i64 0] 3)
    simpa using this
  have zV : w.heap.size + 2 ≤ V.heap.size := by rw [hV]; simp
  have HQ : Hid _ := impl_Lex s V hs (hv.below BV.out hv.lt)
  obtain ⟨l, cd, hl⟩ : ∃ l cd, lexB s = (l, cd) := ⟨_, _, rfl⟩
  rw [hl] at HQ ⊢
  have HLX : Hid (TkG l ∧ l.length ≤ 4000 ∧ TkBd2 65540 l) := lexB_g hl
  have hll := HLX.out.2.1
  clear hl hs hv
  go_enter_defers Tryz.func5, Tryz.ntmps5
  go_upto_region 1 with fail
  rw [← hV]
  clear hV
  have xC := fun o => row_cell cC.out o
  go_wp2_with fail
  refine Calls.mono HQ.out ?_
  rintro e w1 ⟨a, c, rfl, o1, b1⟩
  have z1 := b1.size
  have B1 : Hid (Below w.heap.size w w1) := BV.out.trans (b1.mono (by omega))
  have R1 : Hid (w1.heap[w.heap.size]? = some (.cells #[.slice none 0 0] 24 (0, 0))) := (b1.block _ (by omega)).trans cR.out
  have C1 : Hid (w1.heap[w.heap.size + 1]? = some (.cells #[.int .i64 0] 3 (0, 0))) := (b1.block _ (by omega)).trans cC.out
  have RT : Hid (TkRow V.heap.size w1.heap.size w1 a l) := own_tkRow o1
  clear o1 b1 HQ BV cR cC xC
  have x1 := fun o => row_cell C1.out o
  have f1 := fun o => row_frozen C1.out o
  go_upto_region 2 with fail
  obtain ⟨w2, hw2⟩ : ∃ z : World, z = w1.setCell ⟨w.heap.size + 1, 0, none⟩ (.int .i64 cd) := ⟨_, rfl⟩
  rw [← hw2]
  have R2 : Hid (w2.heap[w.heap.size]? = some (.cells #[.slice none 0 0] 24 (0, 0))) := by rw [Hid, hw2, heap_setCell_other _ _ _ _ (by show w.heap.size ≠ w.heap.size + 1; omega)]; exact R1.out
  have C2 : Hid (w2.heap[w.heap.size + 1]? = some (.cells #[.int .i64 cd] 3 (0, 0))) := by rw [Hid, hw2]; exact row_set C1.out 0 _
  have B2 : Hid (Below w.heap.size w w2) := by rw [Hid, hw2]; exact B1.out.setCell (by show w.heap.size ≤ w.heap.size + 1; omega) _
  have z2 : w2.heap.size = w1.heap.size := by rw [hw2]; simp
  have RT2 : Hid (TkRow 0 w2.heap.size w2 a l) := by
    rw [Hid, z2]
    rcases RT.out with h0 | ⟨b, o, rfl, h1, h2, h3⟩
    · exact .inl h0
    · refine .inr ⟨b, o, rfl, Nat.zero_le _, h2, fun i x hx => ?_⟩
      have e : G.rdOf w2 b = G.rdOf w1 b := by
        funext q
        rw [hw2]
        refine World.cell?_of_block (heap_setCell_other _ _ _ _ ?_)
        show b ≠ w.heap.size + 1
        omega
      rw [e]; exact h3 i x hx
  have zz2 : w.heap.size + 2 ≤ w2.heap.size := by omega
  clear hw2 RT R1 C1 x1 f1 B1 z2 z1
  have xC := fun o => row_cell C2.out o
  have fC := fun o => row_frozen C2.out o
  have xR := fun o => row_cell R2.out o
  have fR := fun o => row_frozen R2.out o
  by_cases hc0 : cd = 0
  case neg =>
    have hcb : (cd != 0) = true := by rw [bne_iff_ne]; exact hc0
    have HE : Hid (DpR (l, cd) [] cd) := .inl ⟨hc0, rfl, rfl⟩
    go_upto_region 3 with fail
    go_region
    all_goals
      go_wp2_with fail
      have eR : (((w2.setCell ⟨w.heap.size, 0, none⟩ (.slice none 0 0)).setCell ⟨w.heap.size + 1, 0, none⟩ (.int .i64 cd)).drew).cell? ⟨w.heap.size, 0, none⟩ = some (.slice none 0 0) := row_cell (row_other (row_set R2.out 0 (.slice none 0 0)) (M := w.heap.size + 1) (j := 0) (by omega) (.int .i64 cd)) 0
      have eC : (((w2.setCell ⟨w.heap.size, 0, none⟩ (.slice none 0 0)).setCell ⟨w.heap.size + 1, 0, none⟩ (.int .i64 cd)).drew).cell? ⟨w.heap.size + 1, 0, none⟩ = some (.int .i64 cd) := row_cell (row_set (row_other C2.out (M := w.heap.size) (j := 0) (by omega) (.slice none 0 0)) 0 (.int .i64 cd)) 0
      have eB : Hid (Below w.heap.size w (((w2.setCell ⟨w.heap.size, 0, none⟩ (.slice none 0 0)).setCell ⟨w.heap.size + 1, 0, none⟩ (.int .i64 cd)).drew)) := ((B2.out.setCell (Nat.le_refl _) _).setCell (by show w.heap.size ≤ w.heap.size + 1; omega) _).drew
      generalize ((w2.setCell ⟨w.heap.size, 0, none⟩ (.slice none 0 0)).setCell ⟨w.heap.size + 1, 0, none⟩ (.int .i64 cd)).drew = W3 at *
      simp [bodyPostD, Leaves, results, Tryz.results5, go_sem, eR, eC]
      exact ⟨[], none, 0, cd, [], [], rfl, HE.out, docK_nil _ _, eB.out⟩
  subst hc0
  obtain ⟨w3, hw3⟩ : ∃ z, z = w2.alloc (.cells #[.slice a l.length c, .int .i64 0, .int .i64 0] 37) := ⟨_, rfl⟩
  have B23 : Below w2.heap.size w2 w3 := by rw [hw3]; exact (Below.refl _ _).alloc (Nat.le_refl _) _
  have zL : w2.heap.size + 1 ≤ w3.heap.size := by rw [hw3]; simp
  have S3 : Hid (RdSt 37 #[.int .i64 ((0 : Nat) : Int)] w3 w2.heap.size a c l 0) := by
    refine ⟨?_, Nat.zero_le _, ?_⟩
    · rw [hw3]
      have := heap_alloc_new w2 (.cells #[.slice a l.length c, .int .i64 0, .int .i64 0] 37)
      simpa using this
    · rcases RT2.out with h0 | ⟨b, o, rfl, h1, h2, h3⟩
      · exact .inl h0
      · exact .inr ⟨b, o, rfl, h1, h2, fun i x hx => by
          have e : G.rdOf w3 b = G.rdOf w2 b := by funext q; exact World.cell?_of_block (B23.block b h2)
          rw [e]; exact h3 i x hx⟩
  have R3 : Hid (w3.heap[w.heap.size]? = some (.cells #[.slice none 0 0] 24 (0, 0))) := (B23.block _ (by omega)).trans R2.out
  have C3 : Hid (w3.heap[w.heap.size + 1]? = some (.cells #[.int .i64 0] 3 (0, 0))) := (B23.block _ (by omega)).trans C2.out
  have B3 : Hid (Below w.heap.size w w3) := B2.out.trans (B23.mono (by omega))
  have HQS : Hid (Calls Tryz.prog 13 #[.pointer (some ⟨w2.heap.size, 0, none⟩)] w3 (DocP w2.heap.size l (pDoc l) w3)) := pd_doc w2.heap.size c 0 a l w3 S3.out HLX.out.1
  go_upto_region 6 with fail
  rw [← hw3]
  clear hw3 B23 RT2 xC fC xR fR R2 C2 B2
  obtain ⟨L, hLL⟩ : ∃ z, z = w2.heap.size := ⟨_, rfl⟩
  rw [← hLL] at HQS S3 ⊢
  rw [← hLL] at zL zz2
  clear hLL
  go_wp2_with fail
  refine Calls.mono HQS.out ?_
  rintro e w4 ⟨⟨ts, rr, a4, c4, vs, bs, hR, rfl, t4⟩ | ⟨hR, rfl⟩ | ⟨hR, rfl⟩, g4⟩
  case inr.inl =>
    have HE : Hid (DpR (l, 0) [] 3) := .inr ⟨rfl, .inl ⟨hR, rfl, rfl⟩⟩
    have R4 := grown_keeps R3.out (by omega) g4 (by omega)
    have C4 := grown_keeps C3.out (by omega) g4 (by omega)
    have q1 : Below w.heap.size w w4 := B3.out.grown g4 (by omega) (fun k e => by simp only [Option.some.injEq] at e; omega)
    clear hR g4 HQS S3 R3 C3 B3
    go_wp2_with fail
    refine leaves_cons (f := 11) (args := #[.pointer (some ⟨w.heap.size, 0, none⟩), .pointer (some ⟨w.heap.size + 1, 0, none⟩)]) (by simp) (by simp [go_sem]) ?_
    refine (catchP_panicking w.heap.size (w.heap.size + 1) 3 0 (.slice none 0 0) [] _ R4 C4 (by omega)).mono ?_
    rintro e u' w'' ⟨rfl, rfl, w5, hb5, rfl⟩
    have hA2 := (hb5.block _ (Array.getElem?_eq_some_iff.1 R4).1).trans R4
    have hB2 := (hb5.block _ (Array.getElem?_eq_some_iff.1 C4).1).trans C4
    have hA3 := row_other (row_set hA2 0 (.slice none 0 0)) (M := w.heap.size + 1) (j := 0) (by omega) (.int .i64 3)
    have hB3 := row_set (row_other hB2 (M := w.heap.size) (j := 0) (by omega) (.slice none 0 0)) 0 (.int .i64 3)
    have q3 : Hid (Below w.heap.size w ((w5.setCell ⟨w.heap.size, 0, none⟩ (.slice none 0 0)).setCell ⟨w.heap.size + 1, 0, none⟩ (.int .i64 3))) := ((q1.trans (hb5.mono q1.size)).setCell (p := ⟨w.heap.size, 0, none⟩) (Nat.le_refl _) (.slice none 0 0)).setCell (p := ⟨w.heap.size + 1, 0, none⟩) (by show w.heap.size ≤ w.heap.size + 1; omega) (.int .i64 3)
    clear hA2 hB2 hb5 q1
    generalize (w5.setCell ⟨w.heap.size, 0, none⟩ (.slice none 0 0)).setCell ⟨w.heap.size + 1, 0, none⟩ (.int .i64 3) = w6 at *
    have eA := row_cell hA3 0
    have eB := row_cell hB3 0
    simp at eA eB
    simp [Leaves, settle, results, Tryz.results5, go_sem, eA, eB]
    exact ⟨[], none, 0, 3, [], [], rfl, HE.out, docK_nil _ _, q3.out⟩
  case inr.inr =>
    have HE : Hid (DpR (l, 0) [] 8) := .inr ⟨rfl, .inr (.inl ⟨hR, rfl, rfl⟩)⟩
    have R4 := grown_keeps R3.out (by omega) g4 (by omega)
    have C4 := grown_keeps C3.out (by omega) g4 (by omega)
    have q1 : Below w.heap.size w w4 := B3.out.grown g4 (by omega) (fun k e => by simp only [Option.some.injEq] at e; omega)
    clear hR g4 HQS S3 R3 C3 B3
    go_wp2_with fail
    refine leaves_cons (f := 11) (args := #[.pointer (some ⟨w.heap.size, 0, none⟩), .pointer (some ⟨w.heap.size + 1, 0, none⟩)]) (by simp) (by simp [go_sem]) ?_
    refine (catchP_panicking w.heap.size (w.heap.size + 1) 8 0 (.slice none 0 0) [] _ R4 C4 (by omega)).mono ?_
    rintro e u' w'' ⟨rfl, rfl, w5, hb5, rfl⟩
    have hA2 := (hb5.block _ (Array.getElem?_eq_some_iff.1 R4).1).trans R4
    have hB2 := (hb5.block _ (Array.getElem?_eq_some_iff.1 C4).1).trans C4
    have hA3 := row_other (row_set hA2 0 (.slice none 0 0)) (M := w.heap.size + 1) (j := 0) (by omega) (.int .i64 8)
    have hB3 := row_set (row_other hB2 (M := w.heap.size) (j := 0) (by omega) (.slice none 0 0)) 0 (.int .i64 8)
    have q3 : Hid (Below w.heap.size w ((w5.setCell ⟨w.heap.size, 0, none⟩ (.slice none 0 0)).setCell ⟨w.heap.size + 1, 0, none⟩ (.int .i64 8))) := ((q1.trans (hb5.mono q1.size)).setCell (p := ⟨w.heap.size, 0, none⟩) (Nat.le_refl _) (.slice none 0 0)).setCell (p := ⟨w.heap.size + 1, 0, none⟩) (by show w.heap.size ≤ w.heap.size + 1; omega) (.int .i64 8)
    clear hA2 hB2 hb5 q1
    generalize (w5.setCell ⟨w.heap.size, 0, none⟩ (.slice none 0 0)).setCell ⟨w.heap.size + 1, 0, none⟩ (.int .i64 8) = w6 at *
    have eA := row_cell hA3 0
    have eB := row_cell hB3 0
    simp at eA eB
    simp [Leaves, settle, results, Tryz.results5, go_sem, eA, eB]
    exact ⟨[], none, 0, 8, [], [], rfl, HE.out, docK_nil _ _, q3.out⟩
  have HM : Hid (pDoc l = .ok ts rr) := hR
  have T4 : Hid (DocK w3.heap.size w4 (.slice a4 ts.length c4) ts vs bs) := t4
  have R4 : Hid (w4.heap[w.heap.size]? = some (.cells #[.slice none 0 0] 24 (0, 0))) := grown_keeps R3.out (by omega) g4 (by omega)
  have C4 : Hid (w4.heap[w.heap.size + 1]? = some (.cells #[.int .i64 0] 3 (0, 0))) := grown_keeps C3.out (by omega) g4 (by omega)
  have B4 : Hid (Below w.heap.size w w4) := B3.out.grown g4 (by omega) (fun k e => by simp only [Option.some.injEq] at e; omega)
  clear hR t4 g4 HQS S3 R3 C3 B3
  have x4 := fun o => row_cell R4.out o
  have f4 := fun o => row_frozen R4.out o
  go_upto_region 7 with fail
  obtain ⟨w5, hw5⟩ : ∃ z : World, z = w4.setCell ⟨w.heap.size, 0, none⟩ (.slice a4 ts.length c4) := ⟨_, rfl⟩
  rw [← hw5]
  have nR : ∀ g, w3.heap.size ≤ g → w5.heap[g]? = w4.heap[g]? := fun g hg => by rw [hw5]; exact heap_setCell_other _ _ _ _ (by show g ≠ w.heap.size; omega)
  have T5 : Hid (DocK w3.heap.size w5 (.slice a4 ts.length c4) ts vs bs) := T4.out.keep (by rw [hw5]; simp) fun g hg => nR g (T4.out.all g hg).1
  have R5 : Hid (w5.heap[w.heap.size]? = some (.cells #[.slice a4 ts.length c4] 24 (0, 0))) := by rw [Hid, hw5]; exact row_set R4.out 0 _
  have C5 : Hid (w5.heap[w.heap.size + 1]? = some (.cells #[.int .i64 0] 3 (0, 0))) := by rw [Hid, hw5, heap_setCell_other _ _ _ _ (by show w.heap.size + 1 ≠ w.heap.size; omega)]; exact C4.out
  have B5 : Hid (Below w.heap.size w w5) := by rw [Hid, hw5]; exact B4.out.setCell (Nat.le_refl _) _
  clear hw5 nR T4 R4 C4 B4 x4 f4
  have HBD : Hid (DefsBd 1048576 ts) := pDoc_bd HM.out ⟨by omega, fun t ht => by have := HLX.out.2.2 t ht; omega⟩
  have HQK : Hid _ := impl_doc a4 c4 ts w5 (docK_low T5.out (Nat.zero_le _)).row HBD.out.1 HBD.out.2
  have x5 := fun o => row_cell R5.out o
  go_wp2_with fail
  refine Calls.mono HQK.out ?_
  rintro e w6 ⟨rfl, hb6⟩
  have B6 : Hid (Below w.heap.size w w6) := B5.out.trans (hb6.mono B5.out.size)
  have z5 := B5.out.size
  have z6 := hb6.size
  have R6 : Hid (w6.heap[w.heap.size]? = some (.cells #[.slice a4 ts.length c4] 24 (0, 0))) := (hb6.block _ (Array.getElem?_eq_some_iff.1 R5.out).1).trans R5.out
  have C6 : Hid (w6.heap[w.heap.size + 1]? = some (.cells #[.int .i64 0] 3 (0, 0))) := (hb6.block _ (Array.getElem?_eq_some_iff.1 C5.out).1).trans C5.out
  have kp6 : ∀ g, g < w5.heap.size → w6.heap[g]? = w5.heap[g]? := fun g hg => hb6.block g hg
  have T6 : Hid (DocK w3.heap.size w6 (.slice a4 ts.length c4) ts vs bs) := T5.out.keep hb6.size fun g hg => kp6 g (T5.out.all g hg).2
  obtain ⟨bb, hbb⟩ : ∃ z, z = docB ts := ⟨_, rfl⟩
  rw [← hbb]
  have HBB : Hid (bb = docB ts) := hbb
  clear hb6 hbb HQK kp6 T5 R5 C5 B5 x5 z5 z6
  have x6 := fun o => row_cell R6.out o
  have f6 := fun o => row_frozen R6.out o
  have y6 := fun o => row_cell C6.out o
  have g6 := fun o => row_frozen C6.out o
  cases bb with
  | false =>
    have HE : Hid (DpR (l, 0) [] 6) := .inr ⟨rfl, .inr (.inr ⟨_, _, HM.out, .inr ⟨HBB.out.symm, rfl, rfl⟩⟩)⟩
    have hA3 := row_other (row_set R6.out 0 (.slice none 0 0)) (M := w.heap.size + 1) (j := 0) (by omega) (.int .i64 6)
    have hB3 := row_set (row_other C6.out (M := w.heap.size) (j := 0) (by omega) (.slice none 0 0)) 0 (.int .i64 6)
    have q3 : Hid (Below w.heap.size w ((w6.setCell ⟨w.heap.size, 0, none⟩ (.slice none 0 0)).setCell ⟨w.heap.size + 1, 0, none⟩ (.int .i64 6))) := (B6.out.setCell (p := ⟨w.heap.size, 0, none⟩) (Nat.le_refl _) (.slice none 0 0)).setCell (p := ⟨w.heap.size + 1, 0, none⟩) (by show w.heap.size ≤ w.heap.size + 1; omega) (.int .i64 6)
    have HA3 : Hid _ := hA3
    have HB3 : Hid _ := hB3
    clear hA3 hB3
    go_wp2_with fail
    refine leaves_cons (f := 11) (args := #[.pointer (some ⟨w.heap.size, 0, none⟩), .pointer (some ⟨w.heap.size + 1, 0, none⟩)]) (by simp) (by simp [go_sem]) ?_
    refine (catchP_idle _ _ _).mono ?_
    rintro e u' w'' ⟨rfl, rfl, rfl⟩
    clear x6 f6 y6 g6 R6 C6 B6 T6
    have eA := row_cell HA3.out 0
    have eB := row_cell HB3.out 0
    clear HA3 HB3
    generalize (w6.setCell ⟨w.heap.size, 0, none⟩ (.slice none 0 0)).setCell ⟨w.heap.size + 1, 0, none⟩ (.int .i64 6) = w7 at *
    simp at eA eB
    simp [Leaves, settle, results, Tryz.results5, go_sem, eA, eB]
    exact ⟨[], none, 0, 6, [], [], rfl, HE.out, docK_nil _ _, q3.out⟩
  | true =>
    have HE : Hid (DpR (l, 0) ts 0) := .inr ⟨rfl, .inr (.inr ⟨_, _, HM.out, .inl ⟨HBB.out.symm, rfl, rfl⟩⟩)⟩
    have hA3 := row_other (row_set R6.out 0 (.slice a4 ts.length c4)) (M := w.heap.size + 1) (j := 0) (by omega) (.int .i64 0)
    have hB3 := row_set (row_other C6.out (M := w.heap.size) (j := 0) (by omega) (.slice a4 ts.length c4)) 0 (.int .i64 0)
    have q3 : Hid (Below w.heap.size w ((w6.setCell ⟨w.heap.size, 0, none⟩ (.slice a4 ts.length c4)).setCell ⟨w.heap.size + 1, 0, none⟩ (.int .i64 0))) := (B6.out.setCell (p := ⟨w.heap.size, 0, none⟩) (Nat.le_refl _) (.slice a4 ts.length c4)).setCell (p := ⟨w.heap.size + 1, 0, none⟩) (by show w.heap.size ≤ w.heap.size + 1; omega) (.int .i64 0)
    have O7 : Hid (DocK w.heap.size ((w6.setCell ⟨w.heap.size, 0, none⟩ (.slice a4 ts.length c4)).setCell ⟨w.heap.size + 1, 0, none⟩ (.int .i64 0)) (.slice a4 ts.length c4) ts vs bs) := by
      refine docK_low ((T6.out.set (k := 0) (N := w.heap.size) _ fun g hg => ?_).set (k := 0) (N := w.heap.size + 1) _ fun g hg => ?_) (by omega)
      · have := (T6.out.all g hg).1; omega
      · have := (T6.out.all g hg).1; omega
    have HA3 : Hid _ := hA3
    have HB3 : Hid _ := hB3
    clear hA3 hB3
    go_wp2_with fail
    refine leaves_cons (f := 11) (args := #[.pointer (some ⟨w.heap.size, 0, none⟩), .pointer (some ⟨w.heap.size + 1, 0, none⟩)]) (by simp) (by simp [go_sem]) ?_
    refine (catchP_idle _ _ _).mono ?_
    rintro e u' w'' ⟨rfl, rfl, rfl⟩
    clear x6 f6 y6 g6 R6 C6 B6 T6
    have eA := row_cell HA3.out 0
    have eB := row_cell HB3.out 0
    clear HA3 HB3
    generalize (w6.setCell ⟨w.heap.size, 0, none⟩ (.slice a4 ts.length c4)).setCell ⟨w.heap.size + 1, 0, none⟩ (.int .i64 0) = w7 at *
    simp at eA eB
    simp [Leaves, settle, results, Tryz.results5, go_sem, eA, eB]
    exact ⟨ts, a4, c4, 0, vs, bs, rfl, HE.out, O7.out, q3.out⟩
end Go.Proofs.YtlilfbcngncllaaGreatDoor
