/- The same of sets and documents. -/
import Derived.Test.YtajjaddlalbnmaaDocSpec
namespace Go.Proofs.Ytajjaddlalbnmaa
open Go.ChangeShapes Go.WideShapes Go.ChangeAt Go.RowKit
set_option linter.unusedVariables false

/-- How many there are, if all are right, not too deep and not too many. -/
def cntB (d : Nat) (l : Sels) : Bool := okS d l && decide (l.size ≤ 60)
def cntN (d : Nat) (l : Sels) : Int := if cntB d l = true then l.size else 0
def SpecSels (l : Sels) : Prop := ∀ (a : Option Addr) (c d : Nat) (w : World), SelRow 0 w.heap.size w a l → l.len ≤ 1048576 → SelsBd 1048576 l → d ≤ 7 →
    Calls Try.prog 15 #[.slice a l.len c, .int .i64 d] w fun e w' => e = .returned (.tuple #[.int .i64 (cntN d l), .bool (cntB d l)]) ∧ Below w.heap.size w w'
theorem cnt_no {d : Nat} {l : Sels} (h : cntB d l = false) : cntN d l = 0 := by unfold cntN; rw [h]; rfl
theorem cnt_yes {d : Nat} {l : Sels} (h : cntB d l = true) : cntN d l = l.size ∧ l.size ≤ 60 := by
  unfold cntN; rw [h]
  simp only [cntB, Bool.and_eq_true, decide_eq_true_eq] at h
  exact ⟨rfl, h.2⟩
theorem ok_part {d : Nat} {h : Hd} {sub rest : Sels} : okS d (.cons h sub rest) = (decide (0 < d) && hdB h sub.isNil && okS (d - 1) sub && okS d rest) := rfl
/-- A right set's rest is right; a wrong rest makes it wrong. -/
def Tail (d : Nat) (l rest : Sels) (n : Nat) : Prop := okS d l = okS d rest ∧ l.size = n + rest.size
theorem Tail.no_hd {d n : Nat} {l : Sels} {h : Hd} {sub rest : Sels} (t : Tail d l (.cons h sub rest) n) (hh : hdB h sub.isNil = false) : cntB d l = false := by
  unfold cntB; rw [t.1, ok_part, hh]; simp
theorem Tail.no_sub {d n : Nat} {l : Sels} {h : Hd} {sub rest : Sels} (t : Tail d l (.cons h sub rest) n) (hh : cntB (d - 1) sub = false) : cntB d l = false := by
  unfold cntB at *
  rw [Bool.and_eq_false_iff] at hh ⊢
  rcases hh with hh | hh
  · exact .inl (by rw [t.1, ok_part, hh]; simp)
  · right
    simp only [decide_eq_false_iff_not] at hh ⊢
    have := t.2
    simp only [Sels.size] at this
    omega
theorem Tail.no_many {d n : Nat} {l : Sels} {h : Hd} {sub rest : Sels} (t : Tail d l (.cons h sub rest) n) (hh : 60 < n + (1 + sub.size)) : cntB d l = false := by
  unfold cntB
  rw [Bool.and_eq_false_iff]
  right
  simp only [decide_eq_false_iff_not]
  have := t.2
  simp only [Sels.size] at this
  omega
theorem Tail.next {d n : Nat} {l : Sels} {h : Hd} {sub rest : Sels} (t : Tail d l (.cons h sub rest) n) (hd : 0 < d) (hh : hdB h sub.isNil = true) (hs : cntB (d - 1) sub = true) : Tail d l rest (n + (1 + sub.size)) := by
  unfold cntB at hs
  simp only [Bool.and_eq_true] at hs
  refine ⟨by rw [t.1, ok_part, hh, hs.1]; simp [hd], ?_⟩
  have := t.2
  simp only [Sels.size] at this
  omega
theorem ret_two {a b : Int} {p q : Bool} (h1 : a = b) (h2 : p = q) : Ending.returned (.tuple #[.int .i64 a, .bool p]) = .returned (.tuple #[.int .i64 b, .bool q]) := by rw [h1, h2]

set_option maxHeartbeats 4000000 in
set_option maxRecDepth 40000 in
theorem spec_sels (l : Sels) : SpecSels l := by
  induction hN : l.size using Nat.strongRecOn generalizing l with
  | _ N ih =>
  subst hN
  intro a c d w hr hl hbd hd7
  have IH : Hid (∀ sub : Sels, sub.size < l.size → SpecSels sub) := fun sub hsub => ih sub.size hsub sub rfl
  have HR : Hid (SelFrom 0 w.heap.size w a 0 l) := hr.from_
  have HB : Hid (SelsBd 1048576 l) := hbd
  clear hr ih hbd
  by_cases hd : d = 0 ∧ 0 < l.len
  · obtain ⟨rfl, h0⟩ := hd
    have HN : Hid (cntB 0 l = false) := by
      cases l with
      | nil => simp [Sels.len] at h0
      | cons h sub rest => unfold Hid cntB; rw [ok_part]; simp
    go_enter Try.func15, Try.ntmps15
    go_wp2_with fail
    go_ret2
    exact ⟨ret_two (cnt_no HN.out).symm HN.out.symm, Below.refl _ _⟩
  by_cases hd0 : d = 0
  · have hnil : l = .nil := by
      cases l with
      | nil => rfl
      | cons h sub rest => exact absurd ⟨hd0, by simp only [Sels.len]; omega⟩ hd
    subst hnil
    subst hd0
    clear HB HR IH hd hl
    simp only [Sels.len]
    go_enter Try.func15, Try.ntmps15
    go_wp2_with fail
    go_loopw [6, 7] (fun s i w' => i = .int .i64 0 ∧ s = .int .i64 0 ∧ Below w.heap.size w w') (fun _ i _ => 0)
    case atStart => exact ⟨rfl, rfl, Below.refl _ _⟩
    case round =>
      obtain ⟨rfl, rfl, hb⟩ := hrel
      go_wp2_with fail
      go_ret2
      exact ⟨rfl, hb⟩
  have hbz : ((d : Int) == 0) = false := by rw [beq_eq_false_iff_ne]; omega
  have hdp : 0 < d := by omega
  clear hd hd0
  go_enter Try.func15, Try.ntmps15
  go_wp2_with fail
  go_loopw [6, 7] (fun s i w' => ∃ (k n : Nat) (rest : Sels), Hid (l.len = k + rest.len) ∧ i = .int .i64 k ∧ s = .int .i64 n ∧ n ≤ 60 ∧ Below w.heap.size w w' ∧ Hid (rest.size ≤ l.size) ∧ Hid (SelsBd 1048576 rest) ∧ Hid (SelFrom 0 w.heap.size w a k rest) ∧ Hid (Tail d l rest n)) (fun _ i _ => l.len - (intOf i).toNat)
  case atStart => exact ⟨0, 0, l, by simp [Hid], rfl, rfl, by omega, Below.refl _ _, Nat.le_refl _, HB, HR, ⟨rfl, by omega⟩⟩
  case round =>
    rename_i wr
    obtain ⟨k, n, rest, HK, rfl, rfl, hn, hb, HZ, HD, HF, HT⟩ := hrel
    cases rest with
    | nil =>
      have hk' : ¬ k < l.len := by rw [HK.out]; simp only [Sels.len]; omega
      have HN : Hid (cntB d l = true ∧ l.size = n) := by
        have := HT.out
        have h2 := this.2
        simp only [Sels.size] at h2
        refine ⟨?_, by omega⟩
        unfold cntB; rw [this.1]
        have h3 : l.size ≤ 60 := by omega
        simp [okS, h3]
      go_wp2_with fail
      go_ret2
      exact ⟨ret_two (by rw [(cnt_yes HN.out.1).1, HN.out.2]) HN.out.1.symm, hb⟩
    | cons h sub rest =>
      have hlt : k < l.len := by rw [HK.out]; simp only [Sels.len]; omega
      have HK2 : Hid (l.len = k + 1 + rest.len) := by rw [Hid, HK.out]; simp only [Sels.len]; omega
      obtain ⟨b, o, a1, c1, a2, c2, a3, c3, ha, _, hbl, d0, d1, d2, d3, d4, d5, r1, r2, r3, _⟩ := (HF.out.keep (Below.agree hb (Nat.le_refl _))).step
      have HF2 : Hid (SelFrom 0 w.heap.size w a (k + 1) rest) := SelFrom.next HF.out
      subst ha
      have K1 : Hid (∀ W0, Below wr.heap.size wr W0 → ArRow 0 W0.heap.size W0 a1 h.args) := fun W0 hB => Row.up (Row.wide r1 (Nat.le_refl _) hb.size) hB
      have K2 : Hid (∀ W0, Below wr.heap.size wr W0 → DiRow 0 W0.heap.size W0 a2 h.dirs) := fun W0 hB => Row.up (Row.wide r2 (Nat.le_refl _) hb.size) hB
      have K3 : Hid (∀ W0, Below wr.heap.size wr W0 → SelRow 0 W0.heap.size W0 a3 sub) := fun W0 hB => SelRow.up (SelRow.wide r3 (Nat.le_refl _) hb.size) hB
      have HD' := HD.out
      obtain ⟨e1, e2, e3, e4⟩ := HD'
      have E1 : Hid (HdBd 1048576 h) := e1
      have E3 : Hid (SelsBd 1048576 sub) := e3
      have E4 : Hid (SelsBd 1048576 rest) := e4
      have HZ2 : Hid (rest.size ≤ l.size) := by have := HZ.out; simp only [Sels.size] at this; unfold Hid; omega
      have IS : Hid (SpecSels sub) := IH.out sub (by have := HZ.out; simp only [Sels.size] at this; omega)
      have hdd : ((d : Int) - 1) = ((d - 1 : Nat) : Int) := by omega
      clear r1 r2 r3 e1 e3 e4
      go_wp2_with fail
      refine Calls.mono (spec_sel h sub.len a1 a2 a3 c1 c2 c3 _ (K1.out _ ?b0) (K2.out _ ?b1) E1.out e2) ?_
      case b0 => repeat (first | exact Below.refl _ _ | refine Below.setCell ?_ (by simp <;> omega) _ | refine Below.alloc ?_ (by simp <;> omega) _)
      case b1 => repeat (first | exact Below.refl _ _ | refine Below.setCell ?_ (by simp <;> omega) _ | refine Below.alloc ?_ (by simp <;> omega) _)
      rw [← Sels.isNil_len]
      cases hh : hdB h sub.isNil
      · rintro e w1 ⟨rfl, hb1⟩
        have HN : Hid (cntB d l = false) := HT.out.no_hd hh
        have q1 : Hid (Below w.heap.size w w1) := by
          refine hb.trans (Below.trans ?_ (hb1.mono (by have := hb.size; simp <;> omega)))
          repeat (first | exact Below.refl _ _ | refine Below.setCell ?_ (by have := hb.size; simp <;> omega) _ | refine Below.alloc ?_ (by have := hb.size; simp <;> omega) _)
        go_wp2_with fail
        go_ret2
        exact ⟨ret_two (cnt_no HN.out).symm HN.out.symm, q1.out⟩
      · rintro e w1 ⟨rfl, hb1⟩
        have hz1 : wr.heap.size + 1 ≤ w1.heap.size := by have := hb1.size; simpa using this
        have p1 : Below wr.heap.size wr w1 := by
          refine Below.trans ?_ (hb1.mono (by simp <;> omega))
          repeat (first | exact Below.refl _ _ | refine Below.setCell ?_ (by simp <;> omega) _ | refine Below.alloc ?_ (by simp <;> omega) _)
        have P1 : Hid _ := p1
        have k0 := fun o => hb1.cell (p := ⟨wr.heap.size, o, none⟩) (by simp <;> omega)
        clear hb1 p1
        go_wp2_with fail
        refine (IS.out a3 c3 (d - 1) _ (K3.out _ P1.out) e2 E3.out (by omega)).mono ?_
        cases hs : cntB (d - 1) sub
        · rw [cnt_no hs]
          rintro e w2 ⟨rfl, hb2⟩
          have HN : Hid (cntB d l = false) := HT.out.no_sub hs
          have q2 : Hid (Below w.heap.size w w2) := hb.trans ((P1.out.trans (hb2.mono P1.out.size)).mono hb.size)
          go_wp2_with fail
          go_ret2
          exact ⟨ret_two (cnt_no HN.out).symm HN.out.symm, q2.out⟩
        · rw [(cnt_yes hs).1]
          have h60 := (cnt_yes hs).2
          rintro e w2 ⟨rfl, hb2⟩
          have q2 : Below w.heap.size w w2 := hb.trans ((P1.out.trans (hb2.mono P1.out.size)).mono hb.size)
          by_cases hm : 60 < n + (1 + sub.size)
          · have HN : Hid (cntB d l = false) := HT.out.no_many hm
            go_wp2_with fail
            go_ret2
            exact ⟨ret_two (cnt_no HN.out).symm HN.out.symm, q2⟩
          · have HN : Hid (Tail d l rest (n + (1 + sub.size))) := HT.out.next hdp hh hs
            go_wp2_with fail
            go_roundw
            case rel => exact ⟨k + 1, n + (1 + sub.size), rest, HK2, by go_num, by go_num, by omega, q2, HZ2, E4, HF2, HN⟩
            case measure => simp [intOf]; omega
end Go.Proofs.Ytajjaddlalbnmaa
