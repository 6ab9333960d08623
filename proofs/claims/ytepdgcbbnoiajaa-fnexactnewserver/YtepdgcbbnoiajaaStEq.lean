/- What the law holds against each other: stores that are alike are alike. -/
import Derived.Test.YtepdgcbbnoiajaaStRows
namespace Go.Proofs.Ytepdgcbbnoiajaa.G
open Go.ChangeShapes Go.WideShapes Go.ChangeAt Go.RowKit
set_option linter.unusedVariables false

set_option maxHeartbeats 1000000 in
theorem eq_Ve (x : Ve) (w : World) :
    Calls Try.prog 39 #[.agg #[.int .i64 x.ts, .int .i64 x.v], .agg #[.int .i64 x.ts, .int .i64 x.v]] w fun e w' => e = .returned (.bool true) ∧ Below w.heap.size w w' := by
  go_enter Try.func39, Try.ntmps39
  go_wp2_with fail
  go_ret
  refine ⟨rfl, ?_⟩
  repeat (first | exact Below.refl _ _ | refine Below.alloc ?_ (by simp) _)
set_option maxHeartbeats 1000000 in
theorem eq_Ves (a a' : Option Addr) (c c' : Nat) (l : List Ve) (w : World) (hr : VeRow 0 w.heap.size w a l) (hr' : VeRow 0 w.heap.size w a' l) (hl : l.length ≤ 1048576) :
    Calls Try.prog 32 #[.slice a l.length c, .slice a' l.length c'] w fun e w' => e = .returned (.bool true) ∧ Below w.heap.size w w' := by
  have HR : Hid (VeRow 0 w.heap.size w a l) := hr
  have HR' : Hid (VeRow 0 w.heap.size w a' l) := hr'
  clear hr hr'
  go_enter Try.func32, Try.ntmps32
  go_wp2_with fail
  go_loopw [5] (fun i w' => ∃ (k : Nat), k ≤ l.length ∧ i = .int .i64 k ∧ Below w.heap.size w w') (fun i _ => l.length - (intOf i).toNat)
  case atStart => exact ⟨0, by omega, rfl, Below.refl _ _⟩
  case round =>
    rename_i wr
    obtain ⟨k, hk, rfl, hb⟩ := hrel
    by_cases hlt : k < l.length
    · obtain ⟨b, o, ha, _, hbl, d0, d1⟩ := VeRow.cells (VeRow.keep HR.out (agree hb (Nat.le_refl _))) k hlt
      obtain ⟨b', o', ha', _, hbl', f0, f1⟩ := VeRow.cells (VeRow.keep HR'.out (agree hb (Nat.le_refl _))) k hlt
      subst ha
      subst ha'
      have hlt' : (k : Int) < l.length := by omega
      go_wp2_with fail
      go_region_with (go_at_call 39; refine (eq_Ve l[k] _).mono ?_; rintro e w1 ⟨rfl, hb1⟩)
      all_goals
        go_wp2_with fail
        exact ⟨⟨k + 1, by omega, by go_num, hb.drew.trans (hb1.mono hb.size)⟩, by simp [intOf]; omega⟩
    · go_wp2_with fail
      go_ret
      exact ⟨rfl, hb⟩
set_option maxHeartbeats 1000000 in
theorem eq_Chs (a a' : Option Addr) (c c' : Nat) (l : Chs) (w : World) (hr : ChRow 0 w.heap.size w a l) (hr' : ChRow 0 w.heap.size w a' l) (hbd : ChsBd 1048576 l) :
    Calls Try.prog 20 #[.slice a l.length c, .slice a' l.length c'] w fun e w' => e = .returned (.bool true) ∧ Below w.heap.size w w' := by
  obtain ⟨hl, ht⟩ := hbd
  have HR : Hid (ChRow 0 w.heap.size w a l) := hr
  have HR' : Hid (ChRow 0 w.heap.size w a' l) := hr'
  have HT : Hid (∀ x ∈ l, x.length ≤ 1048576) := ht
  clear hr hr' ht
  go_enter Try.func20, Try.ntmps20
  go_wp2_with fail
  go_loopw [5] (fun i w' => ∃ (k : Nat), k ≤ l.length ∧ i = .int .i64 k ∧ Below w.heap.size w w') (fun i _ => l.length - (intOf i).toNat)
  case atStart => exact ⟨0, by omega, rfl, Below.refl _ _⟩
  case round =>
    rename_i wr
    obtain ⟨k, hk, rfl, hb⟩ := hrel
    by_cases hlt : k < l.length
    · obtain ⟨b, o, a3, c3, ha, _, hbl, d0, _, r3⟩ := ChRow.cells (ChRow.keep HR.out (agree hb (Nat.le_refl _))) k hlt
      obtain ⟨b', o', a3', c3', ha', _, hbl', f0, _, r3'⟩ := ChRow.cells (ChRow.keep HR'.out (agree hb (Nat.le_refl _))) k hlt
      subst ha
      subst ha'
      have hlt' : (k : Int) < l.length := by omega
      have R3 : Hid (VeRow 0 wr.drew.heap.size wr.drew a3 l[k]) := VeRow.wide (VeRow.keep r3 (fun g _ _ => rfl)) (Nat.le_refl _) hb.size
      have S3 : Hid (VeRow 0 wr.drew.heap.size wr.drew a3' l[k]) := VeRow.wide (VeRow.keep r3' (fun g _ _ => rfl)) (Nat.le_refl _) hb.size
      have HX : Hid (l[k].length ≤ 1048576) := HT.out l[k] (List.getElem_mem hlt)
      clear r3 r3'
      go_wp2_with fail
      go_region_with (go_at_call 32; refine (eq_Ves a3 a3' c3 c3' l[k] _ R3.out S3.out HX.out).mono ?_; rintro e w1 ⟨rfl, hb1⟩)
      all_goals
        go_wp2_with fail
        exact ⟨⟨k + 1, by omega, by go_num, hb.drew.trans (hb1.mono hb.size)⟩, by simp [intOf]; omega⟩
    · go_wp2_with fail
      go_ret
      exact ⟨rfl, hb⟩
set_option maxHeartbeats 1000000 in
theorem eq_store (a a' : Option Addr) (c c' : Nat) (l : Chs) (now : Int) (w : World) (hr : ChRow 0 w.heap.size w a l) (hr' : ChRow 0 w.heap.size w a' l) (hbd : ChsBd 1048576 l) :
    Calls Try.prog 11 #[.agg #[.slice a l.length c, .int .i64 now], .agg #[.slice a' l.length c', .int .i64 now]] w fun e w' => e = .returned (.bool true) ∧ Below w.heap.size w w' := by
  have K3 : Hid (∀ W0, Below w.heap.size w W0 → ChRow 0 W0.heap.size W0 a l ∧ ChRow 0 W0.heap.size W0 a' l) := fun W0 hB => ⟨ChRow.up hr hB, ChRow.up hr' hB⟩
  have HD : Hid _ := hbd
  clear hr hr' hbd
  go_enter Try.func11, Try.ntmps11
  go_wp2_with fail
  refine (eq_Chs a a' c c' l _ (K3.out _ ?b0).1 (K3.out _ ?b0).2 HD.out).mono ?_
  case b0 => exact ((Below.refl _ _).alloc (Nat.le_refl _) _).alloc (by simp) _
  rintro e w3 ⟨rfl, hb3⟩
  have k30 := fun o => hb3.cell (p := ⟨w.heap.size, o, none⟩) (by first | omega | (simp <;> omega))
  have k31 := fun o => hb3.cell (p := ⟨w.heap.size + 1, o, none⟩) (by first | omega | (simp <;> omega))
  have Q3 : Hid (Below w.heap.size w w3) := (((Below.refl _ _).alloc (Nat.le_refl _) _).alloc (by simp) _).trans (hb3.mono (by first | omega | (simp <;> omega)))
  clear hb3
  go_wp2_with fail
  go_ret
  exact ⟨rfl, Q3.out⟩
end Go.Proofs.Ytepdgcbbnoiajaa.G
