/- What the law holds against each other: alike ones are alike. -/
import Derived.Test.YtnfoinmccigdfaaGreatDoorSchRows
namespace Go.Proofs.YtnfoinmccigdfaaGreatDoor.G
open Go.ChangeShapes Go.WideShapes Go.ChangeAt Go.RowKit
set_option linter.unusedVariables false

set_option maxHeartbeats 1000000 in
theorem eq_Ag (x : Ag) (w : World) :
    Calls Tryz.prog 95 #[.agg #[.string x.nm, .bool x.need], .agg #[.string x.nm, .bool x.need]] w fun e w' => e = .returned (.bool true) ∧ Below w.heap.size w w' := by
  go_enter Tryz.func95, Tryz.ntmps95
  go_wp2_with fail
  go_ret
  refine ⟨rfl, ?_⟩
  repeat (first | exact Below.refl _ _ | refine Below.alloc ?_ (by simp) _)
set_option maxHeartbeats 1000000 in
theorem eq_Ags (a a' : Option Addr) (c c' : Nat) (l : List Ag) (w : World) (hr : AgRow 0 w.heap.size w a l) (hr' : AgRow 0 w.heap.size w a' l) (hbd : AgsBd 1048576 l) :
    Calls Tryz.prog 90 #[.slice a l.length c, .slice a' l.length c'] w fun e w' => e = .returned (.bool true) ∧ Below w.heap.size w w' := by
  obtain ⟨hl, ht⟩ := hbd
  have HR : Hid (AgRow 0 w.heap.size w a l) := hr
  have HR' : Hid (AgRow 0 w.heap.size w a' l) := hr'
  have HT : Hid (∀ x ∈ l, AgBd 1048576 x) := ht
  clear hr hr' ht
  go_enter Tryz.func90, Tryz.ntmps90
  go_wp2_with fail
  go_loopw [5] (fun i w' => ∃ (k : Nat), k ≤ l.length ∧ i = .int .i64 k ∧ Below w.heap.size w w') (fun i _ => l.length - (intOf i).toNat)
  case atStart => exact ⟨0, by omega, rfl, Below.refl _ _⟩
  case round =>
    rename_i wr
    obtain ⟨k, hk, rfl, hb⟩ := hrel
    by_cases hlt : k < l.length
    · obtain ⟨b, o, ha, _, hbl, d0, d1⟩ := AgRow.cells (AgRow.keep HR.out (agree hb (Nat.le_refl _))) k hlt
      obtain ⟨b', o', ha', _, hbl', f0, f1⟩ := AgRow.cells (AgRow.keep HR'.out (agree hb (Nat.le_refl _))) k hlt
      subst ha
      subst ha'
      have hlt' : (k : Int) < l.length := by omega
      go_wp2_with fail
      go_region_with (go_at_call 95; refine (eq_Ag l[k] _).mono ?_; rintro e w1 ⟨rfl, hb1⟩)
      all_goals
        go_wp2_with fail
        exact ⟨⟨k + 1, by omega, by go_num, hb.drew.trans (hb1.mono hb.size)⟩, by simp [intOf]; omega⟩
    · go_wp2_with fail
      go_ret
      exact ⟨rfl, hb⟩
set_option maxHeartbeats 2000000 in
theorem eq_Fd (x : Fd) (a3 b3 : Option Addr) (c3 d3 : Nat) (w : World) (r3 : AgRow 0 w.heap.size w a3 x.args) (s3 : AgRow 0 w.heap.size w b3 x.args) (hb : FdBd 1048576 x) :
    Calls Tryz.prog 77 #[.agg #[.string x.nm, .slice a3 x.args.length c3, .string x.ty, .bool x.ls, .bool x.bg], .agg #[.string x.nm, .slice b3 x.args.length d3, .string x.ty, .bool x.ls, .bool x.bg]] w fun e w' => e = .returned (.bool true) ∧ Below w.heap.size w w' := by
  obtain ⟨_, x3, _⟩ := hb
  have K3 : Hid (∀ W0, Below w.heap.size w W0 → AgRow 0 W0.heap.size W0 a3 x.args ∧ AgRow 0 W0.heap.size W0 b3 x.args) := fun W0 hB => ⟨AgRow.up r3 hB, AgRow.up s3 hB⟩
  have HS : Hid (AgsBd 1048576 x.args) := x3
  clear r3 s3 x3
  go_enter Tryz.func77, Tryz.ntmps77
  go_wp2_with fail
  refine (eq_Ags a3 b3 c3 d3 x.args _ (K3.out _ ?b0).1 (K3.out _ ?b0).2 HS.out).mono ?_
  case b0 => exact ((Below.refl _ _).alloc (Nat.le_refl _) _).alloc (by simp) _
  rintro e w3 ⟨rfl, hb3⟩
  have k30 := fun o => hb3.cell (p := ⟨w.heap.size, o, none⟩) (by first | omega | (simp <;> omega))
  have k31 := fun o => hb3.cell (p := ⟨w.heap.size + 1, o, none⟩) (by first | omega | (simp <;> omega))
  have Q3 : Hid (Below w.heap.size w w3) := (((Below.refl _ _).alloc (Nat.le_refl _) _).alloc (by simp) _).trans (hb3.mono (by first | omega | (simp <;> omega)))
  clear hb3
  go_wp2_with fail
  go_ret
  exact ⟨rfl, Q3.out⟩
set_option maxHeartbeats 1000000 in
theorem eq_Fds (a a' : Option Addr) (c c' : Nat) (l : List Fd) (w : World) (hr : FdRow 0 w.heap.size w a l) (hr' : FdRow 0 w.heap.size w a' l) (hbd : FdsBd 1048576 l) :
    Calls Tryz.prog 55 #[.slice a l.length c, .slice a' l.length c'] w fun e w' => e = .returned (.bool true) ∧ Below w.heap.size w w' := by
  obtain ⟨hl, ht⟩ := hbd
  have HR : Hid (FdRow 0 w.heap.size w a l) := hr
  have HR' : Hid (FdRow 0 w.heap.size w a' l) := hr'
  have HT : Hid (∀ x ∈ l, FdBd 1048576 x) := ht
  clear hr hr' ht
  go_enter Tryz.func55, Tryz.ntmps55
  go_wp2_with fail
  go_loopw [5] (fun i w' => ∃ (k : Nat), k ≤ l.length ∧ i = .int .i64 k ∧ Below w.heap.size w w') (fun i _ => l.length - (intOf i).toNat)
  case atStart => exact ⟨0, by omega, rfl, Below.refl _ _⟩
  case round =>
    rename_i wr
    obtain ⟨k, hk, rfl, hb⟩ := hrel
    by_cases hlt : k < l.length
    · obtain ⟨b, o, a3, c3, ha, _, hbl, d0, d1, d2, d3, d4, r3⟩ := FdRow.cells (FdRow.keep HR.out (agree hb (Nat.le_refl _))) k hlt
      obtain ⟨b', o', a3', c3', ha', _, hbl', f0, f1, f2, f3, f4, r3'⟩ := FdRow.cells (FdRow.keep HR'.out (agree hb (Nat.le_refl _))) k hlt
      subst ha
      subst ha'
      have hlt' : (k : Int) < l.length := by omega
      have R3 : Hid (AgRow 0 wr.drew.heap.size wr.drew a3 l[k].args) := AgRow.wide (AgRow.keep r3 (fun g _ _ => rfl)) (Nat.le_refl _) hb.size
      have S3 : Hid (AgRow 0 wr.drew.heap.size wr.drew a3' l[k].args) := AgRow.wide (AgRow.keep r3' (fun g _ _ => rfl)) (Nat.le_refl _) hb.size
      have HX : Hid (FdBd 1048576 l[k]) := HT.out l[k] (List.getElem_mem hlt)
      clear r3 r3'
      go_wp2_with fail
      go_region_with (go_at_call 77; refine (eq_Fd l[k] a3 a3' c3 c3' _ R3.out S3.out HX.out).mono ?_; rintro e w1 ⟨rfl, hb1⟩)
      all_goals
        go_wp2_with fail
        exact ⟨⟨k + 1, by omega, by go_num, hb.drew.trans (hb1.mono hb.size)⟩, by simp [intOf]; omega⟩
    · go_wp2_with fail
      go_ret
      exact ⟨rfl, hb⟩
set_option maxHeartbeats 2000000 in
theorem eq_Td (x : Td) (a3 b3 : Option Addr) (c3 d3 : Nat) (w : World) (r3 : FdRow 0 w.heap.size w a3 x.fs) (s3 : FdRow 0 w.heap.size w b3 x.fs) (hb : TdBd 1048576 x) :
    Calls Tryz.prog 33 #[.agg #[.string x.nm, .slice a3 x.fs.length c3], .agg #[.string x.nm, .slice b3 x.fs.length d3]] w fun e w' => e = .returned (.bool true) ∧ Below w.heap.size w w' := by
  obtain ⟨_, x3⟩ := hb
  have K3 : Hid (∀ W0, Below w.heap.size w W0 → FdRow 0 W0.heap.size W0 a3 x.fs ∧ FdRow 0 W0.heap.size W0 b3 x.fs) := fun W0 hB => ⟨FdRow.up r3 hB, FdRow.up s3 hB⟩
  have HS : Hid (FdsBd 1048576 x.fs) := x3
  clear r3 s3 x3
  go_enter Tryz.func33, Tryz.ntmps33
  go_wp2_with fail
  refine (eq_Fds a3 b3 c3 d3 x.fs _ (K3.out _ ?b0).1 (K3.out _ ?b0).2 HS.out).mono ?_
  case b0 => exact ((Below.refl _ _).alloc (Nat.le_refl _) _).alloc (by simp) _
  rintro e w3 ⟨rfl, hb3⟩
  have k30 := fun o => hb3.cell (p := ⟨w.heap.size, o, none⟩) (by first | omega | (simp <;> omega))
  have k31 := fun o => hb3.cell (p := ⟨w.heap.size + 1, o, none⟩) (by first | omega | (simp <;> omega))
  have Q3 : Hid (Below w.heap.size w w3) := (((Below.refl _ _).alloc (Nat.le_refl _) _).alloc (by simp) _).trans (hb3.mono (by first | omega | (simp <;> omega)))
  clear hb3
  go_wp2_with fail
  go_ret
  exact ⟨rfl, Q3.out⟩
set_option maxHeartbeats 1000000 in
theorem eq_Tds (a a' : Option Addr) (c c' : Nat) (l : List Td) (w : World) (hr : TdRow 0 w.heap.size w a l) (hr' : TdRow 0 w.heap.size w a' l) (hbd : TdsBd 1048576 l) :
    Calls Tryz.prog 15 #[.slice a l.length c, .slice a' l.length c'] w fun e w' => e = .returned (.bool true) ∧ Below w.heap.size w w' := by
  obtain ⟨hl, ht⟩ := hbd
  have HR : Hid (TdRow 0 w.heap.size w a l) := hr
  have HR' : Hid (TdRow 0 w.heap.size w a' l) := hr'
  have HT : Hid (∀ x ∈ l, TdBd 1048576 x) := ht
  clear hr hr' ht
  go_enter Tryz.func15, Tryz.ntmps15
  go_wp2_with fail
  go_loopw [5] (fun i w' => ∃ (k : Nat), k ≤ l.length ∧ i = .int .i64 k ∧ Below w.heap.size w w') (fun i _ => l.length - (intOf i).toNat)
  case atStart => exact ⟨0, by omega, rfl, Below.refl _ _⟩
  case round =>
    rename_i wr
    obtain ⟨k, hk, rfl, hb⟩ := hrel
    by_cases hlt : k < l.length
    · obtain ⟨b, o, a3, c3, ha, _, hbl, d0, d1, r3⟩ := TdRow.cells (TdRow.keep HR.out (agree hb (Nat.le_refl _))) k hlt
      obtain ⟨b', o', a3', c3', ha', _, hbl', f0, f1, r3'⟩ := TdRow.cells (TdRow.keep HR'.out (agree hb (Nat.le_refl _))) k hlt
      subst ha
      subst ha'
      have hlt' : (k : Int) < l.length := by omega
      have R3 : Hid (FdRow 0 wr.drew.heap.size wr.drew a3 l[k].fs) := FdRow.wide (FdRow.keep r3 (fun g _ _ => rfl)) (Nat.le_refl _) hb.size
      have S3 : Hid (FdRow 0 wr.drew.heap.size wr.drew a3' l[k].fs) := FdRow.wide (FdRow.keep r3' (fun g _ _ => rfl)) (Nat.le_refl _) hb.size
      have HX : Hid (TdBd 1048576 l[k]) := HT.out l[k] (List.getElem_mem hlt)
      clear r3 r3'
      go_wp2_with fail
      go_region_with (go_at_call 33; refine (eq_Td l[k] a3 a3' c3 c3' _ R3.out S3.out HX.out).mono ?_; rintro e w1 ⟨rfl, hb1⟩)
      all_goals
        go_wp2_with fail
        exact ⟨⟨k + 1, by omega, by go_num, hb.drew.trans (hb1.mono hb.size)⟩, by simp [intOf]; omega⟩
    · go_wp2_with fail
      go_ret
      exact ⟨rfl, hb⟩
set_option maxHeartbeats 1000000 in
theorem eq_top (a a' : Option Addr) (c c' : Nat) (l : List Td) (w : World) (hr : TdRow 0 w.heap.size w a l) (hr' : TdRow 0 w.heap.size w a' l) (hbd : TdsBd 1048576 l) :
    Calls Tryz.prog 6 #[.agg #[.slice a l.length c], .agg #[.slice a' l.length c']] w fun e w' => e = .returned (.bool true) ∧ Below w.heap.size w w' := by
  have K3 : Hid (∀ W0, Below w.heap.size w W0 → TdRow 0 W0.heap.size W0 a l ∧ TdRow 0 W0.heap.size W0 a' l) := fun W0 hB => ⟨TdRow.up hr hB, TdRow.up hr' hB⟩
  have HD : Hid _ := hbd
  clear hr hr' hbd
  go_enter Tryz.func6, Tryz.ntmps6
  go_wp2_with fail
  refine (eq_Tds a a' c c' l _ (K3.out _ ?b0).1 (K3.out _ ?b0).2 HD.out).mono ?_
  case b0 => exact ((Below.refl _ _).alloc (Nat.le_refl _) _).alloc (by simp) _
  rintro e w3 ⟨rfl, hb3⟩
  have Q3 : Hid (Below w.heap.size w w3) := (((Below.refl _ _).alloc (Nat.le_refl _) _).alloc (by simp) _).trans (hb3.mono (by first | omega | (simp <;> omega)))
  go_wp2_with fail
  go_ret
  exact ⟨rfl, Q3.out⟩
end Go.Proofs.YtnfoinmccigdfaaGreatDoor.G
