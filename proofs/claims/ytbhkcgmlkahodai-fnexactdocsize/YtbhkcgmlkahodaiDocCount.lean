/- How many selections, how many sets in one another: the specification's and the program's counting. -/
import Derived.Test.YtbhkcgmlkahodaiDocSpecOK
namespace Go.Proofs.Ytbhkcgmlkahodai
open Go.ChangeShapes Go.WideShapes Go.ChangeAt Go.RowKit
set_option linter.unusedVariables false

theorem Sels.depth_size : ∀ l : Sels, l.depth ≤ l.size
  | .nil => Nat.le_refl _
  | .cons h sub rest => by
    have h1 := depth_size sub
    have h2 := depth_size rest
    simp only [Sels.depth, Sels.size]; omega
theorem doc_size {l : List De} (h : docB l = true) : sizeL l ≤ 60 := by
  unfold docB at h
  simp only [Bool.and_eq_true, decide_eq_true_eq] at h
  exact h.2
theorem doc_len6 {l : List De} (h : docB l = true) : l.length ≤ 6 := by
  unfold docB at h
  simp only [Bool.and_eq_true, decide_eq_true_eq] at h
  exact h.1.1.2
theorem doc_cnt {l : List De} (h : docB l = true) {k : Nat} (hk : k < l.length) : cntB 7 l[k].sels = true := by
  have hs := sizeL_take hk
  have hs2 := sizeL_le l (k + 1)
  have h60 := doc_size h
  unfold docB at h
  simp only [Bool.and_eq_true, decide_eq_true_eq, List.all_eq_true] at h
  have h2 := h.1.2 l[k] (List.getElem_mem hk)
  unfold defB at h2
  simp only [Bool.and_eq_true] at h2
  unfold cntB
  rw [h2.2]
  have : l[k].sels.size ≤ 60 := by omega
  simp [this]
theorem doc_one {l : List De} (h : docB l = true) {k : Nat} (hk : k < l.length) : sizeL (l.take k) + l[k].sels.size ≤ 60 := by
  have hs := sizeL_take hk
  have hs2 := sizeL_le l (k + 1)
  have h60 := doc_size h
  omega
theorem depthL_append (a b : List De) : depthL (a ++ b) = max (depthL a) (depthL b) := by
  induction a with
  | nil => simp [depthL]
  | cons x a ih => simp only [List.cons_append, depthL, ih]; omega
theorem depthL_take {l : List De} {k : Nat} (hk : k < l.length) : depthL (l.take (k + 1)) = max (depthL (l.take k)) l[k].sels.depth := by
  rw [List.take_succ_eq_append_getElem hk, depthL_append]; simp [depthL]
theorem depthL_le {l : List De} (h : docB l = true) (k : Nat) : depthL (l.take k) ≤ 60 := by
  have : ∀ l : List De, depthL l ≤ sizeL l := by
    intro l
    induction l with
    | nil => exact Nat.le_refl _
    | cons x l ih => have := Sels.depth_size x.sels; simp only [depthL, sizeL]; omega
  have h1 := this (l.take k)
  have h2 := sizeL_le l k
  have h60 := doc_size h
  omega
def codeN (l : List De) : Int := if docB l = true then 0 else 1
def sizeN (l : List De) : Int := if docB l = true then (sizeL l : Int) else 0
def deepN (l : List De) : Int := if docB l = true then (depthL l : Int) else 0
theorem code_no {l : List De} (h : docB l = false) : codeN l = 1 ∧ sizeN l = 0 ∧ deepN l = 0 := by unfold codeN sizeN deepN; rw [h]; exact ⟨rfl, rfl, rfl⟩
theorem code_yes {l : List De} (h : docB l = true) : codeN l = 0 ∧ sizeN l = sizeL l ∧ deepN l = depthL l := by unfold codeN sizeN deepN; rw [h]; exact ⟨rfl, rfl, rfl⟩
theorem ret_ints {a b c d : Int} (h1 : a = b) (h2 : c = d) : Ending.returned (.tuple #[.int .i64 a, .int .i64 c]) = .returned (.tuple #[.int .i64 b, .int .i64 d]) := by rw [h1, h2]

def Impl_set_size (l : Sels) : Prop := ∀ (a : Option Addr) (c : Nat) (w : World), SelRow 0 w.heap.size w a l → l.size ≤ 60 →
    Calls Try.prog 36 #[.slice a l.len c] w fun e w' => e = .returned (.int .i64 (l.size : Nat)) ∧ Below w.heap.size w w'
set_option maxHeartbeats 4000000 in
set_option maxRecDepth 40000 in
theorem impl_set_size (l : Sels) : Impl_set_size l := by
  induction hN : l.size using Nat.strongRecOn generalizing l with
  | _ N ih =>
  subst hN
  intro a c w hr h60
  have IH : Hid (∀ sub : Sels, sub.size < l.size → Impl_set_size sub) := fun sub hsub => ih sub.size hsub sub rfl
  have HR : Hid (SelFrom 0 w.heap.size w a 0 l) := hr.from_
  have hls := Sels.len_le_size l
  clear hr ih
  go_enter Try.func36, Try.ntmps36
  go_wp2_with fail
  go_loopw [3, 10] (fun s i w' => ∃ (k n : Nat) (rest : Sels), Hid (l.len = k + rest.len) ∧ i = .int .i64 k ∧ s = .int .i64 n ∧ n ≤ 60 ∧ Below w.heap.size w w' ∧ Hid (rest.size ≤ l.size) ∧ Hid (SelFrom 0 w.heap.size w a k rest) ∧ Hid (n + rest.size = l.size + rest.len)) (fun _ i _ => l.len - (intOf i).toNat)
  case atStart => exact ⟨0, l.len, l, by simp [Hid], rfl, rfl, by omega, Below.refl _ _, Nat.le_refl _, HR, by unfold Hid; skip; omega⟩
  case round =>
    rename_i wr
    obtain ⟨k, n, rest, HK, rfl, rfl, hn, hb, HZ, HF, HT⟩ := hrel
    cases rest with
    | nil =>
      have hk' : ¬ k < l.len := by rw [HK.out]; simp only [Sels.len]; omega
      have HN : Hid (n = l.size) := by have := HT.out; simp only [Sels.size, Sels.len] at this; unfold Hid; omega
      go_wp2_with fail
      go_ret
      exact ⟨ret_int (by have := HN.out; omega), hb⟩
    | cons h sub rest =>
      have hlt : k < l.len := by rw [HK.out]; simp only [Sels.len]; omega
      have HK2 : Hid (l.len = k + 1 + rest.len) := by rw [Hid, HK.out]; simp only [Sels.len]; omega
      obtain ⟨b, o, a1, c1, a2, c2, a3, c3, ha, _, hbl, d0, d1, d2, d3, d4, d5, r1, r2, r3, _⟩ := (HF.out.keep (Below.agree hb (Nat.le_refl _))).step
      have HF2 : Hid (SelFrom 0 w.heap.size w a (k + 1) rest) := SelFrom.next HF.out
      subst ha
      have K3 : Hid (∀ W0, Below wr.heap.size wr W0 → SelRow 0 W0.heap.size W0 a3 sub) := fun W0 hB => SelRow.up (SelRow.wide r3 (Nat.le_refl _) hb.size) hB
      have hz := HZ.out
      simp only [Sels.size] at hz
      have HZ2 : Hid (rest.size ≤ l.size) := by unfold Hid; omega
      have s60 : sub.size ≤ 60 := by omega
      have IS : Hid (Impl_set_size sub) := IH.out sub (by omega)
      have hds := Sels.depth_size sub
      have HN : Hid (n + sub.size + rest.size = l.size + rest.len) := by have := HT.out; simp only [Sels.size, Sels.len] at this; unfold Hid; omega
      have hn2 : n + sub.size ≤ 60 := by
        have := HN.out
        have h7 := Sels.len_le_size rest
        have h8 := Sels.depth_size l
        omega
      clear r1 r2 r3 hz
      go_wp2_with fail
      refine (IS.out a3 c3 _ (K3.out _ ?b0) s60).mono ?_
      case b0 => repeat (first | exact Below.refl _ _ | refine Below.setCell ?_ (by first | omega | (simp <;> omega)) _ | refine Below.alloc ?_ (by first | omega | (simp <;> omega)) _)
      rintro e w1 ⟨rfl, hb1⟩
      have q1 : Hid (Below w.heap.size w w1) := by
        refine hb.trans (Below.trans ?_ (hb1.mono (by have := hb.size; first | omega | (simp <;> omega))))
        repeat (first | exact Below.refl _ _ | refine Below.setCell ?_ (by have := hb.size; first | omega | (simp <;> omega)) _ | refine Below.alloc ?_ (by have := hb.size; first | omega | (simp <;> omega)) _)
      go_wp2_with fail
      go_roundw
      case rel => exact ⟨k + 1, n + sub.size, rest, HK2, by go_num, by go_num, hn2, q1.out, HZ2, HF2, HN⟩
      case measure => simp [intOf]; omega

def Impl_set_depth (l : Sels) : Prop := ∀ (a : Option Addr) (c : Nat) (w : World), SelRow 0 w.heap.size w a l → l.size ≤ 60 →
    Calls Try.prog 33 #[.slice a l.len c] w fun e w' => e = .returned (.int .i64 (l.depth : Nat)) ∧ Below w.heap.size w w'
set_option maxHeartbeats 4000000 in
set_option maxRecDepth 40000 in
theorem impl_set_depth (l : Sels) : Impl_set_depth l := by
  induction hN : l.size using Nat.strongRecOn generalizing l with
  | _ N ih =>
  subst hN
  intro a c w hr h60
  have IH : Hid (∀ sub : Sels, sub.size < l.size → Impl_set_depth sub) := fun sub hsub => ih sub.size hsub sub rfl
  have HR : Hid (SelFrom 0 w.heap.size w a 0 l) := hr.from_
  have hls := Sels.len_le_size l
  clear hr ih
  by_cases h0 : l.len = 0
  · have HN : Hid (l.depth = 0) := by
      cases l with
      | nil => rfl
      | cons _ _ _ => simp [Sels.len] at h0
    go_enter Try.func33, Try.ntmps33
    go_wp2_with fail
    go_ret
    exact ⟨ret_int (by have := HN.out; omega), Below.refl _ _⟩
  have hb0 : ((l.len : Int) == 0) = false := by rw [beq_eq_false_iff_ne]; omega
  have HP : Hid (1 ≤ l.depth) := by
    cases l with
    | nil => exact absurd rfl h0
    | cons _ _ _ => simp only [Hid, Sels.depth]; omega
  clear h0
  go_enter Try.func33, Try.ntmps33
  go_wp2_with fail
  go_loopw [3, 11] (fun s i w' => ∃ (k n : Nat) (rest : Sels), Hid (l.len = k + rest.len) ∧ i = .int .i64 k ∧ s = .int .i64 n ∧ n ≤ 60 ∧ Below w.heap.size w w' ∧ Hid (rest.size ≤ l.size) ∧ Hid (SelFrom 0 w.heap.size w a k rest) ∧ Hid (l.depth = max (n + 1) rest.depth)) (fun _ i _ => l.len - (intOf i).toNat)
  case atStart => exact ⟨0, 0, l, by simp [Hid], rfl, rfl, by omega, Below.refl _ _, Nat.le_refl _, HR, by unfold Hid; skip; have := HP.out; omega⟩
  case round =>
    rename_i wr
    obtain ⟨k, n, rest, HK, rfl, rfl, hn, hb, HZ, HF, HT⟩ := hrel
    cases rest with
    | nil =>
      have hk' : ¬ k < l.len := by rw [HK.out]; simp only [Sels.len]; omega
      have HN : Hid (l.depth = n + 1) := by have := HT.out; simp only [Sels.depth] at this; unfold Hid; omega
      go_wp2_with fail
      go_ret
      exact ⟨ret_int (by have := HN.out; omega), hb⟩
    | cons h sub rest =>
      have hlt : k < l.len := by rw [HK.out]; simp only [Sels.len]; omega
      have HK2 : Hid (l.len = k + 1 + rest.len) := by rw [Hid, HK.out]; simp only [Sels.len]; omega
      obtain ⟨b, o, a1, c1, a2, c2, a3, c3, ha, _, hbl, d0, d1, d2, d3, d4, d5, r1, r2, r3, _⟩ := (HF.out.keep (Below.agree hb (Nat.le_refl _))).step
      have HF2 : Hid (SelFrom 0 w.heap.size w a (k + 1) rest) := SelFrom.next HF.out
      subst ha
      have K3 : Hid (∀ W0, Below wr.heap.size wr W0 → SelRow 0 W0.heap.size W0 a3 sub) := fun W0 hB => SelRow.up (SelRow.wide r3 (Nat.le_refl _) hb.size) hB
      have hz := HZ.out
      simp only [Sels.size] at hz
      have HZ2 : Hid (rest.size ≤ l.size) := by unfold Hid; omega
      have s60 : sub.size ≤ 60 := by omega
      have IS : Hid (Impl_set_depth sub) := IH.out sub (by omega)
      have hds := Sels.depth_size sub
      have HN : Hid (l.depth = max (max n sub.depth + 1) rest.depth) := by have := HT.out; simp only [Sels.depth] at this; unfold Hid; omega
      have hn2 : max n sub.depth ≤ 60 := by
        have := HN.out
        have h7 := Sels.len_le_size rest
        have h8 := Sels.depth_size l
        omega
      clear r1 r2 r3 hz
      go_wp2_with fail
      refine (IS.out a3 c3 _ (K3.out _ ?b0) s60).mono ?_
      case b0 => repeat (first | exact Below.refl _ _ | refine Below.setCell ?_ (by first | omega | (simp <;> omega)) _ | refine Below.alloc ?_ (by first | omega | (simp <;> omega)) _)
      rintro e w1 ⟨rfl, hb1⟩
      have q1 : Hid (Below w.heap.size w w1) := by
        refine hb.trans (Below.trans ?_ (hb1.mono (by have := hb.size; first | omega | (simp <;> omega))))
        repeat (first | exact Below.refl _ _ | refine Below.setCell ?_ (by have := hb.size; first | omega | (simp <;> omega)) _ | refine Below.alloc ?_ (by have := hb.size; first | omega | (simp <;> omega)) _)
      have hmx : max (n : Int) (sub.depth : Int) = ((max n sub.depth : Nat) : Int) := by omega
      go_wp2_with fail
      go_roundw
      case rel => exact ⟨k + 1, max n sub.depth, rest, HK2, by go_num, by first | go_num | (congr 1; omega), hn2, q1.out, HZ2, HF2, HN⟩
      case measure => simp [intOf]; omega

def Spec_set_depth (l : Sels) : Prop := ∀ (a : Option Addr) (c : Nat) (w : World), SelRow 0 w.heap.size w a l → l.size ≤ 60 →
    Calls Try.prog 30 #[.slice a l.len c] w fun e w' => e = .returned (.int .i64 (l.depth : Nat)) ∧ Below w.heap.size w w'
set_option maxHeartbeats 4000000 in
set_option maxRecDepth 40000 in
theorem spec_set_depth (l : Sels) : Spec_set_depth l := by
  induction hN : l.size using Nat.strongRecOn generalizing l with
  | _ N ih =>
  subst hN
  intro a c w hr h60
  have IH : Hid (∀ sub : Sels, sub.size < l.size → Spec_set_depth sub) := fun sub hsub => ih sub.size hsub sub rfl
  have HR : Hid (SelFrom 0 w.heap.size w a 0 l) := hr.from_
  have hls := Sels.len_le_size l
  clear hr ih
  go_enter Try.func30, Try.ntmps30
  go_wp2_with fail
  go_loopw [3, 4] (fun s i w' => ∃ (k n : Nat) (rest : Sels), Hid (l.len = k + rest.len) ∧ i = .int .i64 k ∧ s = .int .i64 n ∧ n ≤ 60 ∧ Below w.heap.size w w' ∧ Hid (rest.size ≤ l.size) ∧ Hid (SelFrom 0 w.heap.size w a k rest) ∧ Hid (l.depth = max n rest.depth)) (fun _ i _ => l.len - (intOf i).toNat)
  case atStart => exact ⟨0, 0, l, by simp [Hid], rfl, rfl, by omega, Below.refl _ _, Nat.le_refl _, HR, by unfold Hid; skip; omega⟩
  case round =>
    rename_i wr
    obtain ⟨k, n, rest, HK, rfl, rfl, hn, hb, HZ, HF, HT⟩ := hrel
    cases rest with
    | nil =>
      have hk' : ¬ k < l.len := by rw [HK.out]; simp only [Sels.len]; omega
      have HN : Hid (l.depth = n) := by have := HT.out; simp only [Sels.depth] at this; unfold Hid; omega
      go_wp2_with fail
      go_ret
      exact ⟨ret_int (by have := HN.out; omega), hb⟩
    | cons h sub rest =>
      have hlt : k < l.len := by rw [HK.out]; simp only [Sels.len]; omega
      have HK2 : Hid (l.len = k + 1 + rest.len) := by rw [Hid, HK.out]; simp only [Sels.len]; omega
      obtain ⟨b, o, a1, c1, a2, c2, a3, c3, ha, _, hbl, d0, d1, d2, d3, d4, d5, r1, r2, r3, _⟩ := (HF.out.keep (Below.agree hb (Nat.le_refl _))).step
      have HF2 : Hid (SelFrom 0 w.heap.size w a (k + 1) rest) := SelFrom.next HF.out
      subst ha
      have K3 : Hid (∀ W0, Below wr.heap.size wr W0 → SelRow 0 W0.heap.size W0 a3 sub) := fun W0 hB => SelRow.up (SelRow.wide r3 (Nat.le_refl _) hb.size) hB
      have hz := HZ.out
      simp only [Sels.size] at hz
      have HZ2 : Hid (rest.size ≤ l.size) := by unfold Hid; omega
      have s60 : sub.size ≤ 60 := by omega
      have IS : Hid (Spec_set_depth sub) := IH.out sub (by omega)
      have hds := Sels.depth_size sub
      have HN : Hid (l.depth = max (max n (1 + sub.depth)) rest.depth) := by have := HT.out; simp only [Sels.depth] at this; unfold Hid; omega
      have hn2 : max n (1 + sub.depth) ≤ 60 := by
        have := HN.out
        have h7 := Sels.len_le_size rest
        have h8 := Sels.depth_size l
        omega
      clear r1 r2 r3 hz
      go_wp2_with fail
      refine (IS.out a3 c3 _ (K3.out _ ?b0) s60).mono ?_
      case b0 => repeat (first | exact Below.refl _ _ | refine Below.setCell ?_ (by first | omega | (simp <;> omega)) _ | refine Below.alloc ?_ (by first | omega | (simp <;> omega)) _)
      rintro e w1 ⟨rfl, hb1⟩
      have q1 : Hid (Below w.heap.size w w1) := by
        refine hb.trans (Below.trans ?_ (hb1.mono (by have := hb.size; first | omega | (simp <;> omega))))
        repeat (first | exact Below.refl _ _ | refine Below.setCell ?_ (by have := hb.size; first | omega | (simp <;> omega)) _ | refine Below.alloc ?_ (by have := hb.size; first | omega | (simp <;> omega)) _)
      have hmx : max (n : Int) (1 + (sub.depth : Int)) = ((max n (1 + sub.depth) : Nat) : Int) := by omega
      go_wp2_with fail
      go_roundw
      case rel => exact ⟨k + 1, max n (1 + sub.depth), rest, HK2, by go_num, by first | go_num | (congr 1; omega), hn2, q1.out, HZ2, HF2, HN⟩
      case measure => simp [intOf]; omega

set_option maxHeartbeats 4000000 in
set_option maxRecDepth 40000 in
theorem impl_size (a : Option Addr) (c : Nat) (l : List De) (w : World) (hr : DeRow 0 w.heap.size w a l) (hl : l.length ≤ 1048576) (ht : ∀ x ∈ l, DeBd 1048576 x) :
    Calls Try.prog 14 #[.agg #[.slice a l.length c]] w fun e w' => e = .returned (.tuple #[.int .i64 (sizeN l), .int .i64 (codeN l)]) ∧ Below w.heap.size w w' := by
  have B0 : Hid (Below w.heap.size w (w.alloc (.cells #[.slice a l.length c] 30))) := (Below.refl _ _).alloc (Nat.le_refl _) _
  have K0 : Hid (∀ W0, Below w.heap.size w W0 → DeRow 0 W0.heap.size W0 a l) := fun W0 hB => DeRow.up hr hB
  have HR : Hid (DeRow 0 w.heap.size w a l) := hr
  have HT : Hid (∀ x ∈ l, DeBd 1048576 x) := ht
  clear hr ht
  go_enter Try.func14, Try.ntmps14
  go_wp2_with fail
  refine (impl_doc a c l _ (K0.out _ B0.out) hl HT.out).mono ?_
  cases hd : docB l
  · rintro e w1 ⟨rfl, hb1⟩
    have HN : Hid _ := code_no hd
    have q1 : Hid (Below w.heap.size w w1) := below_one hb1
    go_wp2_with fail
    go_ret2
    exact ⟨ret_ints (by have := HN.out; omega) (by have := HN.out; omega), q1.out⟩
  rintro e w1 ⟨rfl, hb1⟩
  have HC : Hid (docB l = true) := hd
  have hl6 := doc_len6 hd
  have k1 := fun o => hb1.cell (p := ⟨w.heap.size, o, none⟩) (by simp)
  have z1 := size_one hb1
  have b1 : Below (w.heap.size + 1) (w.alloc (.cells #[.slice a l.length c] 30)) w1 := hb1.mono (by simp)
  clear hd hb1
  go_wp2_with fail
  go_loopw [4, 13] (fun s i w' => ∃ (k n : Nat), k ≤ l.length ∧ i = .int .i64 k ∧ s = .int .i64 n ∧ n ≤ 60 ∧ Below (w.heap.size + 1) (w.alloc (.cells #[.slice a l.length c] 30)) w' ∧ Hid (n = sizeL (l.take k))) (fun _ i _ => l.length - (intOf i).toNat)
  case atStart => exact ⟨0, 0, by omega, rfl, rfl, by omega, b1, rfl⟩
  case round =>
    rename_i wr
    clear k1 z1 b1
    obtain ⟨k, n, hk, rfl, rfl, hn, hb, HA⟩ := hrel
    have k0 := fun o => hb.cell (p := ⟨w.heap.size, o, none⟩) (show w.heap.size < w.heap.size + 1 by omega)
    have hz := size_one hb
    have Q0 : Hid (Below w.heap.size w wr) := B0.out.trans (hb.mono (by omega))
    by_cases hlt : k < l.length
    · obtain ⟨b, o, a3, c3, ha, _, hbl, d0, d1, d2, d3, r3⟩ := DeRow.cells (DeRow.keep HR.out (Below.agree Q0.out (Nat.le_refl _))) k hlt
      subst ha
      have HX : Hid (DeBd 1048576 l[k]) := HT.out l[k] (List.getElem_mem hlt)
      have K3 : Hid (∀ W0, Below wr.heap.size wr W0 → SelRow 0 W0.heap.size W0 a3 l[k].sels) := fun W0 hB => SelRow.up (SelRow.wide r3 (Nat.le_refl _) (by omega)) hB
      have h1 := doc_one HC.out hlt
      have s60 : l[k].sels.size ≤ 60 := by omega
      have hds := Sels.depth_size l[k].sels
      have HN : Hid (n + l[k].sels.size = sizeL (l.take (k + 1))) := by rw [Hid, sizeL_take hlt, HA.out]
      have hn2 : n + l[k].sels.size ≤ 60 := by
        have := HN.out
        have h7 := HA.out
        have h8 := depthL_le HC.out k
        omega
      have HCC : Hid (cntB 7 l[k].sels = true) := doc_cnt HC.out hlt
      clear r3 h1
      go_wp2_with fail
      refine Calls.mono (impl_set_size l[k].sels a3 c3 _ (K3.out _ ?b0) s60) ?_
      case b0 => repeat (first | exact Below.refl _ _ | refine Below.setCell ?_ (by first | omega | (simp <;> omega)) _ | refine Below.alloc ?_ (by first | omega | (simp <;> omega)) _)
      rintro e w1 ⟨rfl, hb1⟩
      have p1 : Below wr.heap.size wr w1 := by
        refine Below.trans ?_ (hb1.mono (by first | omega | (simp <;> omega)))
        repeat (first | exact Below.refl _ _ | refine Below.setCell ?_ (by first | omega | (simp <;> omega)) _ | refine Below.alloc ?_ (by first | omega | (simp <;> omega)) _)
      have Q1 : Hid (Below (w.heap.size + 1) _ w1) := hb.trans (p1.mono (by omega))
      clear hb1 p1 hb k0
      go_wp2_with fail
      go_roundw
      case rel => exact ⟨k + 1, n + l[k].sels.size, by omega, by go_num, by go_num, hn2, Q1.out, HN⟩
      case measure => simp [intOf]; omega
    · have HN : Hid (codeN l = 0 ∧ sizeN l = n) := by
        have h1 := HA.out
        rw [List.take_of_length_le (by omega)] at h1
        have h2 := code_yes HC.out
        exact ⟨h2.1, by rw [h1]; exact h2.2.1⟩
      go_wp2_with fail
      go_ret2
      exact ⟨ret_ints (by have := HN.out; omega) (by have := HN.out; omega), Q0.out⟩

set_option maxHeartbeats 4000000 in
set_option maxRecDepth 40000 in
theorem spec_size (a : Option Addr) (c : Nat) (l : List De) (w : World) (hr : DeRow 0 w.heap.size w a l) (hl : l.length ≤ 1048576) (ht : ∀ x ∈ l, DeBd 1048576 x) :
    Calls Try.prog 13 #[.agg #[.slice a l.length c]] w fun e w' => e = .returned (.tuple #[.int .i64 (sizeN l), .int .i64 (codeN l)]) ∧ Below w.heap.size w w' := by
  have B0 : Hid (Below w.heap.size w (w.alloc (.cells #[.slice a l.length c] 30))) := (Below.refl _ _).alloc (Nat.le_refl _) _
  have K0 : Hid (∀ W0, Below w.heap.size w W0 → DeRow 0 W0.heap.size W0 a l) := fun W0 hB => DeRow.up hr hB
  have HR : Hid (DeRow 0 w.heap.size w a l) := hr
  have HT : Hid (∀ x ∈ l, DeBd 1048576 x) := ht
  clear hr ht
  go_enter Try.func13, Try.ntmps13
  go_wp2_with fail
  refine (spec_doc a c l _ (K0.out _ B0.out) hl HT.out).mono ?_
  cases hd : docB l
  · rintro e w1 ⟨rfl, hb1⟩
    have HN : Hid _ := code_no hd
    have q1 : Hid (Below w.heap.size w w1) := below_one hb1
    go_wp2_with fail
    go_ret2
    exact ⟨ret_ints (by have := HN.out; omega) (by have := HN.out; omega), q1.out⟩
  rintro e w1 ⟨rfl, hb1⟩
  have HC : Hid (docB l = true) := hd
  have hl6 := doc_len6 hd
  have k1 := fun o => hb1.cell (p := ⟨w.heap.size, o, none⟩) (by simp)
  have z1 := size_one hb1
  have b1 : Below (w.heap.size + 1) (w.alloc (.cells #[.slice a l.length c] 30)) w1 := hb1.mono (by simp)
  clear hd hb1
  go_wp2_with fail
  go_loopw [4, 5] (fun s i w' => ∃ (k n : Nat), k ≤ l.length ∧ i = .int .i64 k ∧ s = .int .i64 n ∧ n ≤ 60 ∧ Below (w.heap.size + 1) (w.alloc (.cells #[.slice a l.length c] 30)) w' ∧ Hid (n = sizeL (l.take k))) (fun _ i _ => l.length - (intOf i).toNat)
  case atStart => exact ⟨0, 0, by omega, rfl, rfl, by omega, b1, rfl⟩
  case round =>
    rename_i wr
    clear k1 z1 b1
    obtain ⟨k, n, hk, rfl, rfl, hn, hb, HA⟩ := hrel
    have k0 := fun o => hb.cell (p := ⟨w.heap.size, o, none⟩) (show w.heap.size < w.heap.size + 1 by omega)
    have hz := size_one hb
    have Q0 : Hid (Below w.heap.size w wr) := B0.out.trans (hb.mono (by omega))
    by_cases hlt : k < l.length
    · obtain ⟨b, o, a3, c3, ha, _, hbl, d0, d1, d2, d3, r3⟩ := DeRow.cells (DeRow.keep HR.out (Below.agree Q0.out (Nat.le_refl _))) k hlt
      subst ha
      have HX : Hid (DeBd 1048576 l[k]) := HT.out l[k] (List.getElem_mem hlt)
      have K3 : Hid (∀ W0, Below wr.heap.size wr W0 → SelRow 0 W0.heap.size W0 a3 l[k].sels) := fun W0 hB => SelRow.up (SelRow.wide r3 (Nat.le_refl _) (by omega)) hB
      have h1 := doc_one HC.out hlt
      have s60 : l[k].sels.size ≤ 60 := by omega
      have hds := Sels.depth_size l[k].sels
      have HN : Hid (n + l[k].sels.size = sizeL (l.take (k + 1))) := by rw [Hid, sizeL_take hlt, HA.out]
      have hn2 : n + l[k].sels.size ≤ 60 := by
        have := HN.out
        have h7 := HA.out
        have h8 := depthL_le HC.out k
        omega
      have HCC : Hid (cntB 7 l[k].sels = true) := doc_cnt HC.out hlt
      clear r3 h1
      go_wp2_with fail
      refine Calls.mono (spec_sels l[k].sels a3 c3 7 _ (K3.out _ ?b0) HX.out.2.2.1 HX.out.2.2.2 (by omega)) ?_
      case b0 => repeat (first | exact Below.refl _ _ | refine Below.setCell ?_ (by first | omega | (simp <;> omega)) _ | refine Below.alloc ?_ (by first | omega | (simp <;> omega)) _)
      rw [(cnt_yes HCC.out).1, HCC.out]
      rintro e w1 ⟨rfl, hb1⟩
      have p1 : Below wr.heap.size wr w1 := by
        refine Below.trans ?_ (hb1.mono (by first | omega | (simp <;> omega)))
        repeat (first | exact Below.refl _ _ | refine Below.setCell ?_ (by first | omega | (simp <;> omega)) _ | refine Below.alloc ?_ (by first | omega | (simp <;> omega)) _)
      have Q1 : Hid (Below (w.heap.size + 1) _ w1) := hb.trans (p1.mono (by omega))
      clear hb1 p1 hb k0
      go_wp2_with fail
      go_roundw
      case rel => exact ⟨k + 1, n + l[k].sels.size, by omega, by go_num, by go_num, hn2, Q1.out, HN⟩
      case measure => simp [intOf]; omega
    · have HN : Hid (codeN l = 0 ∧ sizeN l = n) := by
        have h1 := HA.out
        rw [List.take_of_length_le (by omega)] at h1
        have h2 := code_yes HC.out
        exact ⟨h2.1, by rw [h1]; exact h2.2.1⟩
      go_wp2_with fail
      go_ret2
      exact ⟨ret_ints (by have := HN.out; omega) (by have := HN.out; omega), Q0.out⟩

set_option maxHeartbeats 4000000 in
set_option maxRecDepth 40000 in
theorem impl_depth (a : Option Addr) (c : Nat) (l : List De) (w : World) (hr : DeRow 0 w.heap.size w a l) (hl : l.length ≤ 1048576) (ht : ∀ x ∈ l, DeBd 1048576 x) :
    Calls Try.prog 11 #[.agg #[.slice a l.length c]] w fun e w' => e = .returned (.tuple #[.int .i64 (deepN l), .int .i64 (codeN l)]) ∧ Below w.heap.size w w' := by
  have B0 : Hid (Below w.heap.size w (w.alloc (.cells #[.slice a l.length c] 30))) := (Below.refl _ _).alloc (Nat.le_refl _) _
  have K0 : Hid (∀ W0, Below w.heap.size w W0 → DeRow 0 W0.heap.size W0 a l) := fun W0 hB => DeRow.up hr hB
  have HR : Hid (DeRow 0 w.heap.size w a l) := hr
  have HT : Hid (∀ x ∈ l, DeBd 1048576 x) := ht
  clear hr ht
  go_enter Try.func11, Try.ntmps11
  go_wp2_with fail
  refine (impl_doc a c l _ (K0.out _ B0.out) hl HT.out).mono ?_
  cases hd : docB l
  · rintro e w1 ⟨rfl, hb1⟩
    have HN : Hid _ := code_no hd
    have q1 : Hid (Below w.heap.size w w1) := below_one hb1
    go_wp2_with fail
    go_ret2
    exact ⟨ret_ints (by have := HN.out; omega) (by have := HN.out; omega), q1.out⟩
  rintro e w1 ⟨rfl, hb1⟩
  have HC : Hid (docB l = true) := hd
  have hl6 := doc_len6 hd
  have k1 := fun o => hb1.cell (p := ⟨w.heap.size, o, none⟩) (by simp)
  have z1 := size_one hb1
  have b1 : Below (w.heap.size + 1) (w.alloc (.cells #[.slice a l.length c] 30)) w1 := hb1.mono (by simp)
  clear hd hb1
  go_wp2_with fail
  go_loopw [4, 13] (fun s i w' => ∃ (k n : Nat), k ≤ l.length ∧ i = .int .i64 k ∧ s = .int .i64 n ∧ n ≤ 60 ∧ Below (w.heap.size + 1) (w.alloc (.cells #[.slice a l.length c] 30)) w' ∧ Hid (n = depthL (l.take k))) (fun _ i _ => l.length - (intOf i).toNat)
  case atStart => exact ⟨0, 0, by omega, rfl, rfl, by omega, b1, rfl⟩
  case round =>
    rename_i wr
    clear k1 z1 b1
    obtain ⟨k, n, hk, rfl, rfl, hn, hb, HA⟩ := hrel
    have k0 := fun o => hb.cell (p := ⟨w.heap.size, o, none⟩) (show w.heap.size < w.heap.size + 1 by omega)
    have hz := size_one hb
    have Q0 : Hid (Below w.heap.size w wr) := B0.out.trans (hb.mono (by omega))
    by_cases hlt : k < l.length
    · obtain ⟨b, o, a3, c3, ha, _, hbl, d0, d1, d2, d3, r3⟩ := DeRow.cells (DeRow.keep HR.out (Below.agree Q0.out (Nat.le_refl _))) k hlt
      subst ha
      have HX : Hid (DeBd 1048576 l[k]) := HT.out l[k] (List.getElem_mem hlt)
      have K3 : Hid (∀ W0, Below wr.heap.size wr W0 → SelRow 0 W0.heap.size W0 a3 l[k].sels) := fun W0 hB => SelRow.up (SelRow.wide r3 (Nat.le_refl _) (by omega)) hB
      have h1 := doc_one HC.out hlt
      have s60 : l[k].sels.size ≤ 60 := by omega
      have hds := Sels.depth_size l[k].sels
      have HN : Hid (max n l[k].sels.depth = depthL (l.take (k + 1))) := by rw [Hid, depthL_take hlt, HA.out]
      have hn2 : max n l[k].sels.depth ≤ 60 := by
        have := HN.out
        have h7 := HA.out
        have h8 := depthL_le HC.out k
        omega
      have HCC : Hid (cntB 7 l[k].sels = true) := doc_cnt HC.out hlt
      clear r3 h1
      go_wp2_with fail
      refine Calls.mono (impl_set_depth l[k].sels a3 c3 _ (K3.out _ ?b0) s60) ?_
      case b0 => repeat (first | exact Below.refl _ _ | refine Below.setCell ?_ (by first | omega | (simp <;> omega)) _ | refine Below.alloc ?_ (by first | omega | (simp <;> omega)) _)
      have hmx : max (n : Int) (l[k].sels.depth : Int) = ((max n l[k].sels.depth : Nat) : Int) := by omega
      rintro e w1 ⟨rfl, hb1⟩
      have p1 : Below wr.heap.size wr w1 := by
        refine Below.trans ?_ (hb1.mono (by first | omega | (simp <;> omega)))
        repeat (first | exact Below.refl _ _ | refine Below.setCell ?_ (by first | omega | (simp <;> omega)) _ | refine Below.alloc ?_ (by first | omega | (simp <;> omega)) _)
      have Q1 : Hid (Below (w.heap.size + 1) _ w1) := hb.trans (p1.mono (by omega))
      clear hb1 p1 hb k0
      go_wp2_with fail
      go_roundw
      case rel => exact ⟨k + 1, max n l[k].sels.depth, by omega, by go_num, by first | go_num | (congr 1; omega), hn2, Q1.out, HN⟩
      case measure => simp [intOf]; omega
    · have HN : Hid (codeN l = 0 ∧ deepN l = n) := by
        have h1 := HA.out
        rw [List.take_of_length_le (by omega)] at h1
        have h2 := code_yes HC.out
        exact ⟨h2.1, by rw [h1]; exact h2.2.2⟩
      go_wp2_with fail
      go_ret2
      exact ⟨ret_ints (by have := HN.out; omega) (by have := HN.out; omega), Q0.out⟩

set_option maxHeartbeats 4000000 in
set_option maxRecDepth 40000 in
theorem spec_depth (a : Option Addr) (c : Nat) (l : List De) (w : World) (hr : DeRow 0 w.heap.size w a l) (hl : l.length ≤ 1048576) (ht : ∀ x ∈ l, DeBd 1048576 x) :
    Calls Try.prog 9 #[.agg #[.slice a l.length c]] w fun e w' => e = .returned (.tuple #[.int .i64 (deepN l), .int .i64 (codeN l)]) ∧ Below w.heap.size w w' := by
  have B0 : Hid (Below w.heap.size w (w.alloc (.cells #[.slice a l.length c] 30))) := (Below.refl _ _).alloc (Nat.le_refl _) _
  have K0 : Hid (∀ W0, Below w.heap.size w W0 → DeRow 0 W0.heap.size W0 a l) := fun W0 hB => DeRow.up hr hB
  have HR : Hid (DeRow 0 w.heap.size w a l) := hr
  have HT : Hid (∀ x ∈ l, DeBd 1048576 x) := ht
  clear hr ht
  go_enter Try.func9, Try.ntmps9
  go_wp2_with fail
  refine (spec_doc a c l _ (K0.out _ B0.out) hl HT.out).mono ?_
  cases hd : docB l
  · rintro e w1 ⟨rfl, hb1⟩
    have HN : Hid _ := code_no hd
    have q1 : Hid (Below w.heap.size w w1) := below_one hb1
    go_wp2_with fail
    go_ret2
    exact ⟨ret_ints (by have := HN.out; omega) (by have := HN.out; omega), q1.out⟩
  rintro e w1 ⟨rfl, hb1⟩
  have HC : Hid (docB l = true) := hd
  have hl6 := doc_len6 hd
  have k1 := fun o => hb1.cell (p := ⟨w.heap.size, o, none⟩) (by simp)
  have z1 := size_one hb1
  have b1 : Below (w.heap.size + 1) (w.alloc (.cells #[.slice a l.length c] 30)) w1 := hb1.mono (by simp)
  clear hd hb1
  go_wp2_with fail
  go_loopw [4, 5] (fun s i w' => ∃ (k n : Nat), k ≤ l.length ∧ i = .int .i64 k ∧ s = .int .i64 n ∧ n ≤ 60 ∧ Below (w.heap.size + 1) (w.alloc (.cells #[.slice a l.length c] 30)) w' ∧ Hid (n = depthL (l.take k))) (fun _ i _ => l.length - (intOf i).toNat)
  case atStart => exact ⟨0, 0, by omega, rfl, rfl, by omega, b1, rfl⟩
  case round =>
    rename_i wr
    clear k1 z1 b1
    obtain ⟨k, n, hk, rfl, rfl, hn, hb, HA⟩ := hrel
    have k0 := fun o => hb.cell (p := ⟨w.heap.size, o, none⟩) (show w.heap.size < w.heap.size + 1 by omega)
    have hz := size_one hb
    have Q0 : Hid (Below w.heap.size w wr) := B0.out.trans (hb.mono (by omega))
    by_cases hlt : k < l.length
    · obtain ⟨b, o, a3, c3, ha, _, hbl, d0, d1, d2, d3, r3⟩ := DeRow.cells (DeRow.keep HR.out (Below.agree Q0.out (Nat.le_refl _))) k hlt
      subst ha
      have HX : Hid (DeBd 1048576 l[k]) := HT.out l[k] (List.getElem_mem hlt)
      have K3 : Hid (∀ W0, Below wr.heap.size wr W0 → SelRow 0 W0.heap.size W0 a3 l[k].sels) := fun W0 hB => SelRow.up (SelRow.wide r3 (Nat.le_refl _) (by omega)) hB
      have h1 := doc_one HC.out hlt
      have s60 : l[k].sels.size ≤ 60 := by omega
      have hds := Sels.depth_size l[k].sels
      have HN : Hid (max n l[k].sels.depth = depthL (l.take (k + 1))) := by rw [Hid, depthL_take hlt, HA.out]
      have hn2 : max n l[k].sels.depth ≤ 60 := by
        have := HN.out
        have h7 := HA.out
        have h8 := depthL_le HC.out k
        omega
      have HCC : Hid (cntB 7 l[k].sels = true) := doc_cnt HC.out hlt
      clear r3 h1
      go_wp2_with fail
      refine Calls.mono (spec_set_depth l[k].sels a3 c3 _ (K3.out _ ?b0) s60) ?_
      case b0 => repeat (first | exact Below.refl _ _ | refine Below.setCell ?_ (by first | omega | (simp <;> omega)) _ | refine Below.alloc ?_ (by first | omega | (simp <;> omega)) _)
      have hmx : max (n : Int) (l[k].sels.depth : Int) = ((max n l[k].sels.depth : Nat) : Int) := by omega
      rintro e w1 ⟨rfl, hb1⟩
      have p1 : Below wr.heap.size wr w1 := by
        refine Below.trans ?_ (hb1.mono (by first | omega | (simp <;> omega)))
        repeat (first | exact Below.refl _ _ | refine Below.setCell ?_ (by first | omega | (simp <;> omega)) _ | refine Below.alloc ?_ (by first | omega | (simp <;> omega)) _)
      have Q1 : Hid (Below (w.heap.size + 1) _ w1) := hb.trans (p1.mono (by omega))
      clear hb1 p1 hb k0
      go_wp2_with fail
      go_roundw
      case rel => exact ⟨k + 1, max n l[k].sels.depth, by omega, by go_num, by first | go_num | (congr 1; omega), hn2, Q1.out, HN⟩
      case measure => simp [intOf]; omega
    · have HN : Hid (codeN l = 0 ∧ deepN l = n) := by
        have h1 := HA.out
        rw [List.take_of_length_le (by omega)] at h1
        have h2 := code_yes HC.out
        exact ⟨h2.1, by rw [h1]; exact h2.2.2⟩
      go_wp2_with fail
      go_ret2
      exact ⟨ret_ints (by have := HN.out; omega) (by have := HN.out; omega), Q0.out⟩
end Go.Proofs.Ytbhkcgmlkahodai
