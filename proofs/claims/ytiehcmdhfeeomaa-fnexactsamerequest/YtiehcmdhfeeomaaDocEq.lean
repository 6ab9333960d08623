/- What the law holds against each other: alike documents are alike. -/
import Derived.Test.YtiehcmdhfeeomaaSelFrom
import Derived.Deep.RegionWith
namespace Go.Proofs.Ytiehcmdhfeeomaa
open Go.ChangeShapes Go.WideShapes Go.ChangeAt Go.RowKit
set_option linter.unusedVariables false

set_option maxHeartbeats 1000000 in
theorem eq_val (a b : Int) (s : ByteArray) (w : World) :
    Calls Try.prog 72 #[.agg #[.int .i64 a, .int .i64 b, .string s], .agg #[.int .i64 a, .int .i64 b, .string s]] w fun e w' => e = .returned (.bool true) ∧ Below w.heap.size w w' := by
  go_enter Try.func72, Try.ntmps72
  go_wp2_with fail
  go_ret
  refine ⟨rfl, ?_⟩
  repeat (first | exact Below.refl _ _ | refine Below.alloc ?_ (by simp) _)
set_option maxHeartbeats 1000000 in
theorem eq_arg (x : Ar) (w : World) :
    Calls Try.prog 100 #[.agg #[.string x.nm, .int .i64 x.v.k, .int .i64 x.v.n, .string x.v.t], .agg #[.string x.nm, .int .i64 x.v.k, .int .i64 x.v.n, .string x.v.t]] w fun e w' => e = .returned (.bool true) ∧ Below w.heap.size w w' := by
  go_enter Try.func100, Try.ntmps100
  go_wp2_with fail
  refine (eq_val _ _ _ _).mono ?_
  rintro e w1 ⟨rfl, hb1⟩
  have q1 : Below w.heap.size w w1 := by
    refine Below.trans ?_ (hb1.mono (by simp <;> omega))
    repeat (first | exact Below.refl _ _ | refine Below.alloc ?_ (by simp) _)
  go_wp2_with fail
  go_ret
  exact ⟨rfl, q1⟩
set_option maxHeartbeats 1000000 in
theorem eq_dir (x : Di) (w : World) :
    Calls Try.prog 101 #[.agg #[.bool x.sk, .int .i64 x.v.k, .int .i64 x.v.n, .string x.v.t], .agg #[.bool x.sk, .int .i64 x.v.k, .int .i64 x.v.n, .string x.v.t]] w fun e w' => e = .returned (.bool true) ∧ Below w.heap.size w w' := by
  go_enter Try.func101, Try.ntmps101
  go_wp2_with fail
  refine (eq_val _ _ _ _).mono ?_
  rintro e w1 ⟨rfl, hb1⟩
  have q1 : Below w.heap.size w w1 := by
    refine Below.trans ?_ (hb1.mono (by simp <;> omega))
    repeat (first | exact Below.refl _ _ | refine Below.alloc ?_ (by simp) _)
  go_wp2_with fail
  go_ret
  exact ⟨rfl, q1⟩
set_option maxHeartbeats 1000000 in
theorem eq_args (a a' : Option Addr) (c c' : Nat) (l : List Ar) (w : World) (hr : ArRow 0 w.heap.size w a l) (hr' : ArRow 0 w.heap.size w a' l) (hl : l.length ≤ 1048576) :
    Calls Try.prog 94 #[.slice a l.length c, .slice a' l.length c'] w fun e w' => e = .returned (.bool true) ∧ Below w.heap.size w w' := by
  have HR : Hid (ArRow 0 w.heap.size w a l) := hr
  have HR' : Hid (ArRow 0 w.heap.size w a' l) := hr'
  clear hr hr'
  go_enter Try.func94, Try.ntmps94
  go_wp2_with fail
  go_loopw [5] (fun i w' => ∃ (k : Nat), k ≤ l.length ∧ i = .int .i64 k ∧ Below w.heap.size w w') (fun i _ => l.length - (intOf i).toNat)
  case atStart => exact ⟨0, by omega, rfl, Below.refl _ _⟩
  case round =>
    rename_i wr
    obtain ⟨k, hk, rfl, hb⟩ := hrel
    by_cases hlt : k < l.length
    · obtain ⟨b, o, ha, _, hbl, c0, c1, c2, c3⟩ := (Row.cells_ar (HR.out.keep (Below.agree hb (Nat.le_refl _))) k hlt)
      obtain ⟨b', o', ha', _, hbl', d0, d1, d2, d3⟩ := (Row.cells_ar (HR'.out.keep (Below.agree hb (Nat.le_refl _))) k hlt)
      subst ha
      subst ha'
      have hlt' : (k : Int) < l.length := by omega
      go_wp2_with fail
      go_region_with (go_at_call 100; refine (eq_arg l[k] _).mono ?_; rintro e w1 ⟨rfl, hb1⟩)
      all_goals
        go_wp2_with fail
        exact ⟨⟨k + 1, by omega, by go_num, hb.drew.trans (hb1.mono hb.size)⟩, by simp [intOf]; omega⟩
    · go_wp2_with fail
      go_ret
      exact ⟨rfl, hb⟩
set_option maxHeartbeats 1000000 in
theorem eq_dirs (a a' : Option Addr) (c c' : Nat) (l : List Di) (w : World) (hr : DiRow 0 w.heap.size w a l) (hr' : DiRow 0 w.heap.size w a' l) (hl : l.length ≤ 1048576) :
    Calls Try.prog 95 #[.slice a l.length c, .slice a' l.length c'] w fun e w' => e = .returned (.bool true) ∧ Below w.heap.size w w' := by
  have HR : Hid (DiRow 0 w.heap.size w a l) := hr
  have HR' : Hid (DiRow 0 w.heap.size w a' l) := hr'
  clear hr hr'
  go_enter Try.func95, Try.ntmps95
  go_wp2_with fail
  go_loopw [5] (fun i w' => ∃ (k : Nat), k ≤ l.length ∧ i = .int .i64 k ∧ Below w.heap.size w w') (fun i _ => l.length - (intOf i).toNat)
  case atStart => exact ⟨0, by omega, rfl, Below.refl _ _⟩
  case round =>
    rename_i wr
    obtain ⟨k, hk, rfl, hb⟩ := hrel
    by_cases hlt : k < l.length
    · obtain ⟨b, o, ha, _, hbl, c0, c1, c2, c3⟩ := (Row.cells_di (HR.out.keep (Below.agree hb (Nat.le_refl _))) k hlt)
      obtain ⟨b', o', ha', _, hbl', d0, d1, d2, d3⟩ := (Row.cells_di (HR'.out.keep (Below.agree hb (Nat.le_refl _))) k hlt)
      subst ha
      subst ha'
      have hlt' : (k : Int) < l.length := by omega
      go_wp2_with fail
      go_region_with (go_at_call 101; refine (eq_dir l[k] _).mono ?_; rintro e w1 ⟨rfl, hb1⟩)
      all_goals
        go_wp2_with fail
        exact ⟨⟨k + 1, by omega, by go_num, hb.drew.trans (hb1.mono hb.size)⟩, by simp [intOf]; omega⟩
    · go_wp2_with fail
      go_ret
      exact ⟨rfl, hb⟩
def EqSels (l : Sels) : Prop := ∀ (a a' : Option Addr) (c c' : Nat) (w : World), SelRow 0 w.heap.size w a l → SelRow 0 w.heap.size w a' l → l.len ≤ 1048576 → SelsBd 1048576 l →
    Calls Try.prog 64 #[.slice a l.len c, .slice a' l.len c'] w fun e w' => e = .returned (.bool true) ∧ Below w.heap.size w w'
set_option maxHeartbeats 2000000 in
theorem eq_sel (h : Hd) (sub : Sels) (ih : EqSels sub) (a1 a2 a3 b1 b2 b3 : Option Addr) (c1 c2 c3 d1 d2 d3 : Nat) (w : World) (r1 : ArRow 0 w.heap.size w a1 h.args) (r2 : DiRow 0 w.heap.size w a2 h.dirs) (r3 : SelRow 0 w.heap.size w a3 sub)
    (s1 : ArRow 0 w.heap.size w b1 h.args) (s2 : DiRow 0 w.heap.size w b2 h.dirs) (s3 : SelRow 0 w.heap.size w b3 sub) (hb : HdBd 1048576 h) (hl : sub.len ≤ 1048576) (hs : SelsBd 1048576 sub) :
    Calls Try.prog 84 #[.agg #[.int .i64 h.k, .string h.al, .string h.nm, .slice a1 h.args.length c1, .slice a2 h.dirs.length c2, .slice a3 sub.len c3], .agg #[.int .i64 h.k, .string h.al, .string h.nm, .slice b1 h.args.length d1, .slice b2 h.dirs.length d2, .slice b3 sub.len d3]] w fun e w' =>
      e = .returned (.bool true) ∧ Below w.heap.size w w' := by
  obtain ⟨x1, x2, x3, x4, x5, x6⟩ := hb
  have K1 : Hid (∀ W0, Below w.heap.size w W0 → ArRow 0 W0.heap.size W0 a1 h.args ∧ ArRow 0 W0.heap.size W0 b1 h.args) := fun W0 hB => ⟨Row.up r1 hB, Row.up s1 hB⟩
  have K2 : Hid (∀ W0, Below w.heap.size w W0 → DiRow 0 W0.heap.size W0 a2 h.dirs ∧ DiRow 0 W0.heap.size W0 b2 h.dirs) := fun W0 hB => ⟨Row.up r2 hB, Row.up s2 hB⟩
  have K3 : Hid (∀ W0, Below w.heap.size w W0 → SelRow 0 W0.heap.size W0 a3 sub ∧ SelRow 0 W0.heap.size W0 b3 sub) := fun W0 hB => ⟨SelRow.up r3 hB, SelRow.up s3 hB⟩
  have HI : Hid (EqSels sub) := ih
  have HS : Hid (SelsBd 1048576 sub) := hs
  clear r1 r2 r3 s1 s2 s3 ih hs x4 x6
  have B0 : Below w.heap.size w ((w.alloc (.cells #[.int .i64 h.k, .string h.al, .string h.nm, .slice a1 h.args.length c1, .slice a2 h.dirs.length c2, .slice a3 sub.len c3] 108)).alloc (.cells #[.int .i64 h.k, .string h.al, .string h.nm, .slice b1 h.args.length d1, .slice b2 h.dirs.length d2, .slice b3 sub.len d3] 108)) :=
    ((Below.refl _ _).alloc (Nat.le_refl _) _).alloc (by simp) _
  have HB : Hid _ := B0
  clear B0
  go_enter Try.func84, Try.ntmps84
  go_wp2_with fail
  refine (eq_args a1 b1 c1 d1 h.args _ (K1.out _ HB.out).1 (K1.out _ HB.out).2 x3).mono ?_
  rintro e w1 ⟨rfl, hb1⟩
  have hz1 : w.heap.size + 2 ≤ w1.heap.size := by have := hb1.size; simp at this; omega
  have Q1 : Hid (Below w.heap.size w w1) := HB.out.trans (hb1.mono (by simp <;> omega))
  have k10 := fun o => hb1.cell (p := ⟨w.heap.size, o, none⟩) (by simp <;> omega)
  have k11 := fun o => hb1.cell (p := ⟨w.heap.size + 1, o, none⟩) (by simp <;> omega)
  clear hb1
  go_wp2_with fail
  refine (eq_dirs a2 b2 c2 d2 h.dirs _ (K2.out _ Q1.out).1 (K2.out _ Q1.out).2 x5).mono ?_
  rintro e w2 ⟨rfl, hb2⟩
  have hz2 := hb2.size
  have Q2 : Hid (Below w.heap.size w w2) := Q1.out.trans (hb2.mono (by omega))
  have k20 := fun o => hb2.cell (p := ⟨w.heap.size, o, none⟩) (show w.heap.size < w1.heap.size by omega)
  have k21 := fun o => hb2.cell (p := ⟨w.heap.size + 1, o, none⟩) (show w.heap.size + 1 < w1.heap.size by omega)
  clear hb2
  go_wp2_with fail
  refine (HI.out a3 b3 c3 d3 _ (K3.out _ Q2.out).1 (K3.out _ Q2.out).2 hl HS.out).mono ?_
  rintro e w3 ⟨rfl, hb3⟩
  have Q3 : Hid (Below w.heap.size w w3) := Q2.out.trans (hb3.mono (by omega))
  go_wp2_with fail
  go_ret
  exact ⟨rfl, Q3.out⟩
set_option maxHeartbeats 2000000 in
theorem eq_sels (l : Sels) : EqSels l := by
  induction hN : l.size using Nat.strongRecOn generalizing l with
  | _ N ih =>
  subst hN
  intro a a' c c' w hr hr' hl hbd
  have IH : Hid (∀ sub : Sels, sub.size < l.size → EqSels sub) := fun sub hsub => ih sub.size hsub sub rfl
  have HR : Hid (SelFrom 0 w.heap.size w a 0 l) := hr.from_
  have HR' : Hid (SelFrom 0 w.heap.size w a' 0 l) := hr'.from_
  have HB : Hid (SelsBd 1048576 l) := hbd
  clear hr hr' ih hbd
  go_enter Try.func64, Try.ntmps64
  go_wp2_with fail
  go_loopw [5] (fun i w' => ∃ (k : Nat) (rest : Sels), Hid (l.len = k + rest.len) ∧ i = .int .i64 k ∧ Below w.heap.size w w' ∧ Hid (rest.size ≤ l.size) ∧ Hid (SelsBd 1048576 rest) ∧ Hid (SelFrom 0 w.heap.size w a k rest) ∧ Hid (SelFrom 0 w.heap.size w a' k rest)) (fun i _ => l.len - (intOf i).toNat)
  case atStart => exact ⟨0, l, by simp [Hid], rfl, Below.refl _ _, Nat.le_refl _, HB, HR, HR'⟩
  case round =>
    rename_i wr
    obtain ⟨k, rest, HK, rfl, hb, HZ, HD, HF, HF'⟩ := hrel
    cases rest with
    | nil =>
      have hk' : ¬ k < l.len := by rw [HK.out]; simp only [Sels.len]; omega
      go_wp2_with fail
      go_ret
      exact ⟨rfl, hb⟩
    | cons h sub rest =>
      have hlt : k < l.len := by rw [HK.out]; simp only [Sels.len]; omega
      have hlt' : (k : Int) < l.len := by omega
      have HK2 : Hid (l.len = k + 1 + rest.len) := by rw [Hid, HK.out]; simp only [Sels.len]; omega
      obtain ⟨b, o, a1, c1, a2, c2, a3, c3, ha, _, hbl, d0, d1, d2, d3, d4, d5, r1, r2, r3, _⟩ := (HF.out.keep (Below.agree hb (Nat.le_refl _))).step
      obtain ⟨b', o', b1, e1, b2, e2, b3, e3, ha', _, hbl', f0, f1, f2, f3, f4, f5, s1, s2, s3, _⟩ := (HF'.out.keep (Below.agree hb (Nat.le_refl _))).step
      have HF2 : Hid (SelFrom 0 w.heap.size w a (k + 1) rest) := SelFrom.next HF.out
      have HF2' : Hid (SelFrom 0 w.heap.size w a' (k + 1) rest) := SelFrom.next HF'.out
      subst ha
      subst ha'
      have R1 : Hid (ArRow 0 wr.drew.heap.size wr.drew a1 h.args) := Row.wide r1 (Nat.le_refl _) hb.size
      have R2 : Hid (DiRow 0 wr.drew.heap.size wr.drew a2 h.dirs) := Row.wide r2 (Nat.le_refl _) hb.size
      have R3 : Hid (SelRow 0 wr.drew.heap.size wr.drew a3 sub) := SelRow.wide (SelRow.keep r3 (fun g _ _ => rfl)) (Nat.le_refl _) hb.size
      have S1 : Hid (ArRow 0 wr.drew.heap.size wr.drew b1 h.args) := Row.wide s1 (Nat.le_refl _) hb.size
      have S2 : Hid (DiRow 0 wr.drew.heap.size wr.drew b2 h.dirs) := Row.wide s2 (Nat.le_refl _) hb.size
      have S3 : Hid (SelRow 0 wr.drew.heap.size wr.drew b3 sub) := SelRow.wide (SelRow.keep s3 (fun g _ _ => rfl)) (Nat.le_refl _) hb.size
      have HD' := HD.out
      obtain ⟨g1, g2, g3, g4⟩ := HD'
      have E1 : Hid (HdBd 1048576 h) := g1
      have E2 : Hid (sub.len ≤ 1048576) := g2
      have E3 : Hid (SelsBd 1048576 sub) := g3
      have E4 : Hid (SelsBd 1048576 rest) := g4
      have HZ2 : Hid (rest.size ≤ l.size) := by have := HZ.out; simp only [Sels.size] at this; unfold Hid; omega
      have IS : Hid (EqSels sub) := IH.out sub (by have := HZ.out; simp only [Sels.size] at this; omega)
      clear r1 r2 r3 s1 s2 s3 g1 g2 g3 g4
      go_wp2_with fail
      go_region_with (go_at_call 84; refine (eq_sel h sub IS.out a1 a2 a3 b1 b2 b3 c1 c2 c3 e1 e2 e3 _ R1.out R2.out R3.out S1.out S2.out S3.out E1.out E2.out E3.out).mono ?_; rintro e w1 ⟨rfl, hb1⟩)
      all_goals
        go_wp2_with fail
        exact ⟨⟨k + 1, rest, HK2, by go_num, hb.drew.trans (hb1.mono hb.size), HZ2, E4, HF2, HF2'⟩, by simp [intOf]; omega⟩
set_option maxHeartbeats 1000000 in
theorem eq_def (x : De) (a3 b3 : Option Addr) (c3 d3 : Nat) (w : World) (r3 : SelRow 0 w.heap.size w a3 x.sels) (s3 : SelRow 0 w.heap.size w b3 x.sels) (hb : DeBd 1048576 x) :
    Calls Try.prog 46 #[.agg #[.int .i64 x.k, .string x.nm, .string x.on, .slice a3 x.sels.len c3], .agg #[.int .i64 x.k, .string x.nm, .string x.on, .slice b3 x.sels.len d3]] w fun e w' => e = .returned (.bool true) ∧ Below w.heap.size w w' := by
  obtain ⟨x1, x2, x3, x4⟩ := hb
  have K3 : Hid (∀ W0, Below w.heap.size w W0 → SelRow 0 W0.heap.size W0 a3 x.sels ∧ SelRow 0 W0.heap.size W0 b3 x.sels) := fun W0 hB => ⟨SelRow.up r3 hB, SelRow.up s3 hB⟩
  have HS : Hid (SelsBd 1048576 x.sels) := x4
  clear r3 s3 x4
  go_enter Try.func46, Try.ntmps46
  go_wp2_with fail
  refine (eq_sels x.sels a3 b3 c3 d3 _ (K3.out _ ?b0).1 (K3.out _ ?b0).2 x3 HS.out).mono ?_
  case b0 => exact ((Below.refl _ _).alloc (Nat.le_refl _) _).alloc (by simp) _
  rintro e w3 ⟨rfl, hb3⟩
  have Q3 : Hid (Below w.heap.size w w3) := (((Below.refl _ _).alloc (Nat.le_refl _) _).alloc (by simp) _).trans (hb3.mono (by simp <;> omega))
  go_wp2_with fail
  go_ret
  exact ⟨rfl, Q3.out⟩
set_option maxHeartbeats 1000000 in
theorem eq_defs (a a' : Option Addr) (c c' : Nat) (l : List De) (w : World) (hr : DeRow 0 w.heap.size w a l) (hr' : DeRow 0 w.heap.size w a' l) (hl : l.length ≤ 1048576) (ht : ∀ x ∈ l, DeBd 1048576 x) :
    Calls Try.prog 26 #[.slice a l.length c, .slice a' l.length c'] w fun e w' => e = .returned (.bool true) ∧ Below w.heap.size w w' := by
  have HR : Hid (DeRow 0 w.heap.size w a l) := hr
  have HR' : Hid (DeRow 0 w.heap.size w a' l) := hr'
  have HT : Hid (∀ x ∈ l, DeBd 1048576 x) := ht
  clear hr hr' ht
  go_enter Try.func26, Try.ntmps26
  go_wp2_with fail
  go_loopw [5] (fun i w' => ∃ (k : Nat), k ≤ l.length ∧ i = .int .i64 k ∧ Below w.heap.size w w') (fun i _ => l.length - (intOf i).toNat)
  case atStart => exact ⟨0, by omega, rfl, Below.refl _ _⟩
  case round =>
    rename_i wr
    obtain ⟨k, hk, rfl, hb⟩ := hrel
    by_cases hlt : k < l.length
    · obtain ⟨b, o, a3, c3, ha, _, hbl, c0, c1, c2, c3x, r3⟩ := (DeRow.cells (HR.out.keep (Below.agree hb (Nat.le_refl _))) k hlt)
      obtain ⟨b', o', a3', c3', ha', _, hbl', d0, d1, d2, d3x, r3'⟩ := (DeRow.cells (HR'.out.keep (Below.agree hb (Nat.le_refl _))) k hlt)
      subst ha
      subst ha'
      have hlt' : (k : Int) < l.length := by omega
      have R3 : Hid (SelRow 0 wr.drew.heap.size wr.drew a3 l[k].sels) := SelRow.wide (SelRow.keep r3 (fun g _ _ => rfl)) (Nat.le_refl _) hb.size
      have S3 : Hid (SelRow 0 wr.drew.heap.size wr.drew a3' l[k].sels) := SelRow.wide (SelRow.keep r3' (fun g _ _ => rfl)) (Nat.le_refl _) hb.size
      have HX : Hid (DeBd 1048576 l[k]) := HT.out l[k] (List.getElem_mem hlt)
      clear r3 r3'
      go_wp2_with fail
      go_region_with (go_at_call 46; refine (eq_def l[k] a3 a3' c3 c3' _ R3.out S3.out HX.out).mono ?_; rintro e w1 ⟨rfl, hb1⟩)
      all_goals
        go_wp2_with fail
        exact ⟨⟨k + 1, by omega, by go_num, hb.drew.trans (hb1.mono hb.size)⟩, by simp [intOf]; omega⟩
    · go_wp2_with fail
      go_ret
      exact ⟨rfl, hb⟩
set_option maxHeartbeats 1000000 in
theorem eq_doc (a a' : Option Addr) (c c' : Nat) (l : List De) (w : World) (hr : DeRow 0 w.heap.size w a l) (hr' : DeRow 0 w.heap.size w a' l) (hb : DefsBd 1048576 l) :
    Calls Try.prog 10 #[.agg #[.slice a l.length c], .agg #[.slice a' l.length c']] w fun e w' => e = .returned (.bool true) ∧ Below w.heap.size w w' := by
  obtain ⟨hl, ht⟩ := hb
  have K3 : Hid (∀ W0, Below w.heap.size w W0 → DeRow 0 W0.heap.size W0 a l ∧ DeRow 0 W0.heap.size W0 a' l) := fun W0 hB => ⟨DeRow.up hr hB, DeRow.up hr' hB⟩
  have HT : Hid (∀ x ∈ l, DeBd 1048576 x) := ht
  clear hr hr' ht
  go_enter Try.func10, Try.ntmps10
  go_wp2_with fail
  refine (eq_defs a a' c c' l _ (K3.out _ ?b0).1 (K3.out _ ?b0).2 hl HT.out).mono ?_
  case b0 => exact ((Below.refl _ _).alloc (Nat.le_refl _) _).alloc (by simp) _
  rintro e w3 ⟨rfl, hb3⟩
  have Q3 : Hid (Below w.heap.size w w3) := (((Below.refl _ _).alloc (Nat.le_refl _) _).alloc (by simp) _).trans (hb3.mono (by simp <;> omega))
  go_wp2_with fail
  go_ret
  exact ⟨rfl, Q3.out⟩
end Go.Proofs.Ytiehcmdhfeeomaa
