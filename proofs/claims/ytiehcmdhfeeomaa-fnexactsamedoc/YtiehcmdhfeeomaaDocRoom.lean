/- The program's test of a set: it takes its room. -/
import Derived.Test.YtiehcmdhfeeomaaDocAlone
import Derived.Test.YtiehcmdhfeeomaaDocTo
namespace Go.Proofs.Ytiehcmdhfeeomaa
open Go.ChangeShapes Go.WideShapes Go.ChangeAt Go.RowKit
set_option linter.unusedVariables false

def takesB (d : Nat) (left : Int) (l : Sels) : Bool := !l.isNil && okS d l && decide ((l.size : Int) ≤ left)
def Room (w : World) (R : Nat) (left : Int) : Prop := w.heap[R]? = some (.cells #[.int .i64 left] 80 (0, 0))
def ImplSels (l : Sels) : Prop := ∀ (R : Nat) (a : Option Addr) (c d : Nat) (deep left : Int) (w : World), Room w R left → SelRow 0 R w a l → l.len ≤ 1048576 → SelsBd 1048576 l → deep + d = 8 → 1 ≤ deep → 0 ≤ left → left ≤ 60 →
    Calls Try.prog 43 #[.pointer (some ⟨R, 0, none⟩), .slice a l.len c, .int .i64 deep] w fun e w' =>
      e = .returned (.bool (takesB d left l)) ∧ Below R w w' ∧ (takesB d left l = true → Room w' R (left - l.size))
theorem Room.lt {w : World} {R : Nat} {m : Int} (h : Room w R m) : R < w.heap.size := (Array.getElem?_eq_some_iff.1 h).1
theorem Room.keep {w w' : World} {R B : Nat} {m : Int} (h : Room w R m) (hb : Below B w w') (hB : R < B) : Room w' R m := (hb.block R hB).trans h
theorem Room.cell {w : World} {R : Nat} {m : Int} (h : Room w R m) : w.cell? ⟨R, 0, none⟩ = some (.int .i64 m) := row_cell h 0
theorem Room.frozen {w : World} {R : Nat} {m : Int} (h : Room w R m) : w.frozen? ⟨R, 0, none⟩ = false := row_frozen h 0
theorem Room.set {w : World} {R : Nat} {m : Int} (h : Room w R m) (n : Int) : Room (w.setCell ⟨R, 0, none⟩ (.int .i64 n)) R n := row_set h 0 _
/-- What is left while a set is gone through. -/
def Left (d : Nat) (left : Int) (l rest : Sels) (m : Int) : Prop := okS d l = okS d rest ∧ m + l.size + rest.len = left + rest.size
theorem Left.no_hd {d : Nat} {left m : Int} {l : Sels} {h : Hd} {sub rest : Sels} (t : Left d left l (.cons h sub rest) m) (hh : hdB h sub.isNil = false) : takesB d left l = false := by
  unfold takesB; rw [t.1, ok_part2, hh]; simp
where ok_part2 {d : Nat} {h : Hd} {sub rest : Sels} : okS d (.cons h sub rest) = (decide (0 < d) && hdB h sub.isNil && okS (d - 1) sub && okS d rest) := rfl
theorem ok_part3 {d : Nat} {h : Hd} {sub rest : Sels} : okS d (.cons h sub rest) = (decide (0 < d) && hdB h sub.isNil && okS (d - 1) sub && okS d rest) := rfl
theorem Left.no_sub {d : Nat} {left m : Int} {l : Sels} {h : Hd} {sub rest : Sels} (t : Left d left l (.cons h sub rest) m) (hn : sub.isNil = false) (hh : takesB (d - 1) m sub = false) : takesB d left l = false := by
  unfold takesB at *
  rw [hn] at hh
  simp only [Bool.not_false, Bool.true_and, Bool.and_eq_false_iff] at hh
  rcases hh with hh | hh
  · rw [t.1, ok_part3, hh]; simp
  · have h3 := t.2
    simp only [Sels.size, Sels.len] at h3
    have h4 := Sels.len_le_size rest
    simp only [decide_eq_false_iff_not] at hh
    have : ¬ (l.size : Int) ≤ left := by omega
    simp [this]
theorem Left.next {d : Nat} {left m : Int} {l : Sels} {h : Hd} {sub rest : Sels} (t : Left d left l (.cons h sub rest) m) (hd : 0 < d) (hh : hdB h sub.isNil = true) (hs : okS (d - 1) sub = true) : Left d left l rest (m - sub.size) := by
  refine ⟨by rw [t.1, ok_part3, hh, hs]; simp [hd], ?_⟩
  have h3 := t.2
  simp only [Sels.size, Sels.len] at h3
  omega
theorem Left.done {d : Nat} {left m : Int} {l : Sels} (t : Left d left l .nil m) (hm : 0 ≤ m) (hn : l.isNil = false) : takesB d left l = true ∧ m = left - l.size := by
  have h3 := t.2
  simp only [Sels.size, Sels.len] at h3
  have : (l.size : Int) ≤ left := by omega
  refine ⟨?_, by omega⟩
  unfold takesB; rw [t.1, hn]; simp [okS, this]
theorem ok_nil (d : Nat) : okS d .nil = true := by cases d <;> rfl

set_option maxHeartbeats 4000000 in
set_option maxRecDepth 40000 in
theorem impl_takes (l : Sels) : ImplSels l := by
  induction hN : l.size using Nat.strongRecOn generalizing l with
  | _ N ih =>
  subst hN
  intro R a c d deep left w hroom hr hl hbd hdd hd1 hleft hl60
  have IH : Hid (∀ sub : Sels, sub.size < l.size → ImplSels sub) := fun sub hsub => ih sub.size hsub sub rfl
  have HR : Hid (SelFrom 0 R w a 0 l) := hr.from_
  have HB : Hid (SelsBd 1048576 l) := hbd
  have HO : Hid (Room w R left) := hroom
  have hRl := hroom.lt
  have hc0 := hroom.cell
  have hf0 := hroom.frozen
  have hls := Sels.len_le_size l
  clear hr ih hbd hroom
  by_cases h0 : l.len = 0
  · have HN : Hid (takesB d left l = false) := by unfold Hid takesB; rw [Sels.isNil_len, h0]; rfl
    clear HB IH HR
    go_enter Try.func43, Try.ntmps43
    go_wp2_with fail
    go_ret
    exact ⟨ret_bool HN.out.symm, Below.refl _ _, fun h => by rw [HN.out] at h; cases h⟩
  have HI : Hid (l.isNil = false) := by rw [Hid, Sels.isNil_len]; simpa using h0
  have hb0 : ((l.len : Int) == 0) = false := by rw [beq_eq_false_iff_ne]; omega
  by_cases hd0 : d = 0
  · have HN : Hid (takesB d left l = false) := by
      cases l with
      | nil => exact absurd rfl h0
      | cons h sub rest => unfold Hid takesB; rw [ok_part3, hd0]; simp
    have hdp : 7 < deep := by omega
    clear HB IH HR
    go_enter Try.func43, Try.ntmps43
    go_wp2_with fail
    go_ret
    exact ⟨ret_bool HN.out.symm, Below.refl _ _, fun h => by rw [HN.out] at h; cases h⟩
  have hdp : ¬ 7 < deep := by omega
  have hd' : 0 < d := by omega
  by_cases hlt : left < (l.len : Int)
  · have HN : Hid (takesB d left l = false) := by
      have : ¬ (l.size : Int) ≤ left := by omega
      unfold Hid takesB; simp [this]
    clear HB IH HR
    go_enter Try.func43, Try.ntmps43
    go_wp2_with fail
    go_ret
    exact ⟨ret_bool HN.out.symm, Below.refl _ _, fun h => by rw [HN.out] at h; cases h⟩
  have HS : Hid (Room (w.setCell ⟨R, 0, none⟩ (.int .i64 (left - l.len))) R (left - l.len)) := HO.out.set _
  go_enter Try.func43, Try.ntmps43
  go_wp2_with fail
  clear h0 hb0 hc0 hf0
  go_loopw [36] (fun i w' => ∃ (k : Nat) (m : Int) (rest : Sels), Hid (l.len = k + rest.len) ∧ i = .int .i64 k ∧ 0 ≤ m ∧ m ≤ 60 ∧ Below R w w' ∧ Hid (Room w' R m) ∧ Hid (rest.size ≤ l.size) ∧ Hid (SelsBd 1048576 rest) ∧ Hid (SelFrom 0 R w a k rest) ∧ Hid (Left d left l rest m)) (fun i _ => l.len - (intOf i).toNat)
  case atStart => exact ⟨0, left - l.len, l, by simp [Hid], rfl, by omega, by omega, (Below.refl R w).setCell (p := ⟨R, 0, none⟩) (Nat.le_refl R) _, HS, Nat.le_refl _, HB, HR, ⟨rfl, by omega⟩⟩
  case round =>
    rename_i wr
    obtain ⟨k, m, rest, HK, rfl, hm0, hm60, hb, HO2, HZ, HD, HF, HT⟩ := hrel
    cases rest with
    | nil =>
      have hk' : ¬ k < l.len := by rw [HK.out]; simp only [Sels.len]; omega
      have HN := HT.out.done hm0 HI.out
      have HN : Hid (takesB d left l = true ∧ m = left - l.size) := HN
      go_wp2_with fail
      go_ret
      exact ⟨ret_bool HN.out.1.symm, hb, fun _ => HN.out.2 ▸ HO2.out⟩
    | cons h sub rest =>
      have hlt : k < l.len := by rw [HK.out]; simp only [Sels.len]; omega
      have HK2 : Hid (l.len = k + 1 + rest.len) := by rw [Hid, HK.out]; simp only [Sels.len]; omega
      obtain ⟨b, o, a1, c1, a2, c2, a3, c3, ha, _, hbl, d0, d1, d2, d3, d4, d5, r1, r2, r3, _⟩ := (HF.out.keep (Below.agree hb (Nat.le_refl _))).step
      have HF2 : Hid (SelFrom 0 R w a (k + 1) rest) := SelFrom.next HF.out
      subst ha
      have hRr := HO2.out.lt
      have K1 : Hid (∀ W0, Below (R + 1) wr W0 → ArRow 0 W0.heap.size W0 a1 h.args) := fun W0 hB => (Row.keep r1 (Below.agree hB (by omega))).wide (Nat.le_refl _) (by have := hB.size; omega)
      have K2 : Hid (∀ W0, Below (R + 1) wr W0 → DiRow 0 W0.heap.size W0 a2 h.dirs) := fun W0 hB => (Row.keep r2 (Below.agree hB (by omega))).wide (Nat.le_refl _) (by have := hB.size; omega)
      have K3 : Hid (∀ W0, Below (R + 1) wr W0 → SelRow 0 R W0 a3 sub) := fun W0 hB => SelRow.keep r3 (Below.agree hB (by omega))
      have HD' := HD.out
      obtain ⟨e1, e2, e3, e4⟩ := HD'
      have E1 : Hid (HdBd 1048576 h) := e1
      have E3 : Hid (SelsBd 1048576 sub) := e3
      have E4 : Hid (SelsBd 1048576 rest) := e4
      have HZ2 : Hid (rest.size ≤ l.size) := by have := HZ.out; simp only [Sels.size] at this; unfold Hid; omega
      have IS : Hid (ImplSels sub) := IH.out sub (by have := HZ.out; simp only [Sels.size] at this; omega)
      clear r1 r2 r3 e1 e3 e4
      go_wp2_with fail
      refine Calls.mono (impl_alone h sub.len a1 a2 a3 c1 c2 c3 _ (K1.out _ ?b0) (K2.out _ ?b1) E1.out e2) ?_
      case b0 => repeat (first | exact Below.refl _ _ | refine Below.setCell ?_ (by first | omega | (simp <;> omega)) _ | refine Below.alloc ?_ (by first | omega | (simp <;> omega)) _)
      case b1 => repeat (first | exact Below.refl _ _ | refine Below.setCell ?_ (by first | omega | (simp <;> omega)) _ | refine Below.alloc ?_ (by first | omega | (simp <;> omega)) _)
      rw [← Sels.isNil_len]
      cases hh : hdB h sub.isNil
      · rintro e w1 ⟨rfl, hb1⟩
        have HN : Hid (takesB d left l = false) := HT.out.no_hd hh
        have q1 : Hid (Below R w w1) := by
          refine hb.trans (Below.trans ?_ (hb1.mono (by first | omega | (simp <;> omega))))
          repeat (first | exact Below.refl _ _ | refine Below.setCell ?_ (by first | omega | (simp <;> omega)) _ | refine Below.alloc ?_ (by first | omega | (simp <;> omega)) _)
        go_wp2_with fail
        go_ret
        exact ⟨ret_bool HN.out.symm, q1.out, fun h => by rw [HN.out] at h; cases h⟩
      · rintro e w1 ⟨rfl, hb1⟩
        have hz1 : wr.heap.size + 1 ≤ w1.heap.size := by have := hb1.size; simpa using this
        have p1 : Below (R + 1) wr w1 := by
          refine Below.trans ?_ (hb1.mono (by first | omega | (simp <;> omega)))
          repeat (first | exact Below.refl _ _ | refine Below.setCell ?_ (by first | omega | (simp <;> omega)) _ | refine Below.alloc ?_ (by first | omega | (simp <;> omega)) _)
        have P1 : Hid _ := p1
        have HO3 : Hid (Room w1 R m) := HO2.out.keep p1 (by omega)
        have k0 := fun o => hb1.cell (p := ⟨wr.heap.size, o, none⟩) (by first | omega | (simp <;> omega))
        have Q1 : Hid (Below R w w1) := hb.trans (p1.mono (by omega))
        clear hb1 p1
        by_cases hs : sub.len = 0
        · have hnil : sub = .nil := by
            cases sub with
            | nil => rfl
            | cons _ _ _ => simp [Sels.len] at hs
          have HN : Hid (Left d left l rest m) := by
            have := HT.out.next hd' hh (by rw [hnil]; exact ok_nil _)
            rw [hnil] at this
            have h2 : Left d left l rest m := by simpa [Sels.size] using this
            exact h2
          clear hnil
          go_wp2_with fail
          go_roundw
          case rel => exact ⟨k + 1, m, rest, HK2, by go_num, hm0, hm60, Q1.out, HO3, HZ2, E4, HF2, HN⟩
          case measure => simp [intOf]; omega
        · have HSN : Hid (sub.isNil = false) := by rw [Hid, Sels.isNil_len]; simpa using hs
          have hsp : 0 < sub.len := by omega
          clear hs
          go_wp2_with fail
          refine (IS.out R a3 c3 (d - 1) (deep + 1) m _ HO3.out (K3.out _ P1.out) e2 E3.out (by omega) (by omega) hm0 hm60).mono ?_
          cases ht : takesB (d - 1) m sub
          · rintro e w2 ⟨rfl, hb2, _⟩
            have HN : Hid (takesB d left l = false) := HT.out.no_sub HSN.out ht
            go_wp2_with fail
            go_ret
            exact ⟨ret_bool HN.out.symm, Q1.out.trans hb2, fun h => by rw [HN.out] at h; cases h⟩
          · rintro e w2 ⟨rfl, hb2, hr2⟩
            have ht' := ht
            simp only [takesB, Bool.and_eq_true, decide_eq_true_eq] at ht'
            have HR2 : Hid (Room w2 R (m - sub.size)) := hr2 rfl
            have HN : Hid (Left d left l rest (m - sub.size)) := HT.out.next hd' hh ht'.1.2
            have hle := ht'.2
            clear hr2 ht'
            go_wp2_with fail
            go_roundw
            case rel => exact ⟨k + 1, m - sub.size, rest, HK2, by go_num, by omega, by omega, Q1.out.trans hb2, HR2, HZ2, E4, HF2, HN⟩
            case measure => simp [intOf]; omega
end Go.Proofs.Ytiehcmdhfeeomaa
