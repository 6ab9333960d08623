/- Those that are done, held against each other by the law. -/
import Derived.Test.YtgnonbghgcpnoaaDoorDnRows
import Derived.Deep.CutRange
namespace Go.Proofs.YtgnonbghgcpnoaaDoor
open Go.ChangeShapes Go.WideShapes Go.ChangeAt Go.RowKit
set_option linter.unusedVariables false

set_option maxHeartbeats 2000000 in
theorem eq_done (x : Dn) (a a' b b' : Option Addr) (c c' d d' : Nat) (w : World) (hr : DeRow 0 w.heap.size w a x.defs) (hv : ArRow 0 w.heap.size w b x.vars) (hr' : DeRow 0 w.heap.size w a' x.defs) (hv' : ArRow 0 w.heap.size w b' x.vars) (hbd : DnBd x) :
    Calls Tryd.prog 26 #[.agg #[.int .i64 x.id, .int .i64 x.code, .int .i64 x.ts, .int .i64 x.since, .bool x.wr, .slice a x.defs.length c, .slice b x.vars.length d, .string x.t], .agg #[.int .i64 x.id, .int .i64 x.code, .int .i64 x.ts, .int .i64 x.since, .bool x.wr, .slice a' x.defs.length c', .slice b' x.vars.length d', .string x.t]] w fun e w' => e = .returned (.bool true) ∧ Below w.heap.size w w' := by
  obtain ⟨V, hV⟩ : ∃ V, V = (w.alloc (.cells #[.int .i64 x.id, .int .i64 x.code, .int .i64 x.ts, .int .i64 x.since, .bool x.wr, .slice a x.defs.length c, .slice b x.vars.length d, .string x.t] 54)).alloc (.cells #[.int .i64 x.id, .int .i64 x.code, .int .i64 x.ts, .int .i64 x.since, .bool x.wr, .slice a' x.defs.length c', .slice b' x.vars.length d', .string x.t] 54) := ⟨_, rfl⟩
  have B0 : Below w.heap.size w V := by rw [hV]; exact ((Below.refl _ _).alloc (Nat.le_refl _) _).alloc (by simp) _
  have zV : w.heap.size + 2 ≤ V.heap.size := by rw [hV]; simp
  have x0 : V.heap[w.heap.size]? = some (.cells #[.int .i64 x.id, .int .i64 x.code, .int .i64 x.ts, .int .i64 x.since, .bool x.wr, .slice a x.defs.length c, .slice b x.vars.length d, .string x.t] 54 (0, 0)) := by
    rw [hV, Below.heap_alloc _ _ _ (by simp)]; exact heap_alloc_new _ _
  have y0 : V.heap[w.heap.size + 1]? = some (.cells #[.int .i64 x.id, .int .i64 x.code, .int .i64 x.ts, .int .i64 x.since, .bool x.wr, .slice a' x.defs.length c', .slice b' x.vars.length d', .string x.t] 54 (0, 0)) := by
    rw [hV]
    have := heap_alloc_new (w.alloc (.cells #[.int .i64 x.id, .int .i64 x.code, .int .i64 x.ts, .int .i64 x.since, .bool x.wr, .slice a x.defs.length c, .slice b x.vars.length d, .string x.t] 54)) (.cells #[.int .i64 x.id, .int .i64 x.code, .int .i64 x.ts, .int .i64 x.since, .bool x.wr, .slice a' x.defs.length c', .slice b' x.vars.length d', .string x.t] 54)
    simpa using this
  have HR : Hid (DeRow 0 V.heap.size V a x.defs ∧ ArRow 0 V.heap.size V b x.vars ∧ DeRow 0 V.heap.size V a' x.defs ∧ ArRow 0 V.heap.size V b' x.vars) := ⟨DeRow.up hr B0, Row.up hv B0, DeRow.up hr' B0, Row.up hv' B0⟩
  have HB : Hid _ := B0
  have HX : Hid _ := x0
  have HY : Hid _ := y0
  have HD : Hid (RqBd 1048576 x.defs x.vars) := hbd.1.1
  have cx0 := fun o => row_cell x0 o
  have cy0 := fun o => row_cell y0 o
  clear hr hv hr' hv' hbd B0 x0 y0
  go_enter Tryd.func26, Tryd.ntmps26
  go_upto_region 1 with fail
  rw [← hV]
  clear hV
  go_wp2_with fail
  refine (eq_req a a' b b' c c' d d' x.defs x.vars _ HR.out.1 HR.out.2.2.1 HR.out.2.1 HR.out.2.2.2 HD.out).mono ?_
  rintro e w1 ⟨rfl, hb1⟩
  have q1 : Hid (Below w.heap.size w w1) := HB.out.trans (hb1.mono (by omega))
  have cx1 := fun o => row_cell ((hb1.block w.heap.size (by omega)).trans HX.out) o
  have cy1 := fun o => row_cell ((hb1.block (w.heap.size + 1) (by omega)).trans HY.out) o
  clear hb1 cx0 cy0
  go_wp2_with fail
  go_ret
  exact ⟨rfl, q1.out⟩
set_option maxHeartbeats 2000000 in
theorem eq_dones (a a' : Option Addr) (c c' : Nat) (l : List Dn) (w : World) (hr : DnRow 0 w.heap.size w a l) (hr' : DnRow 0 w.heap.size w a' l) (hbd : DnsBd l) :
    Calls Tryd.prog 11 #[.slice a l.length c, .slice a' l.length c'] w fun e w' => e = .returned (.bool true) ∧ Below w.heap.size w w' := by
  obtain ⟨hl, ht⟩ := hbd
  have HR : Hid (DnRow 0 w.heap.size w a l) := hr
  have HR' : Hid (DnRow 0 w.heap.size w a' l) := hr'
  have HT : Hid (∀ x ∈ l, DnBd x) := ht
  clear hr hr' ht
  go_enter Tryd.func11, Tryd.ntmps11
  go_wp2_with fail
  go_loopw [5] (fun i w' => ∃ (k : Nat), k ≤ l.length ∧ i = .int .i64 k ∧ Below w.heap.size w w') (fun i _ => l.length - (intOf i).toNat)
  case atStart => exact ⟨0, by omega, rfl, Below.refl _ _⟩
  case round =>
    rename_i wr
    obtain ⟨k, hk, rfl, hb⟩ := hrel
    by_cases hlt : k < l.length
    · obtain ⟨g, o, a3, c3, b3, d3, ha, _, hbl, c0, c1, c2, c3x, c4x, c5, c6, c7, r1, r2⟩ := DnRow.cells (HR.out.keep (Below.agree hb (Nat.le_refl _))) k hlt
      obtain ⟨g', o', a3', c3', b3', d3', ha', _, hbl', d0, d1, d2, d3x, d4x, d5, d6, d7, r1', r2'⟩ := DnRow.cells (HR'.out.keep (Below.agree hb (Nat.le_refl _))) k hlt
      subst ha
      subst ha'
      have hlt' : (k : Int) < l.length := by omega
      have R3 : Hid (DeRow 0 wr.drew.heap.size wr.drew a3 l[k].defs ∧ ArRow 0 wr.drew.heap.size wr.drew b3 l[k].vars) := ⟨DeRow.wide (DeRow.keep r1 (fun g _ _ => rfl)) (Nat.le_refl _) hb.size, Row.wide (Row.keep r2 (fun g _ _ => rfl)) (Nat.le_refl _) hb.size⟩
      have S3 : Hid (DeRow 0 wr.drew.heap.size wr.drew a3' l[k].defs ∧ ArRow 0 wr.drew.heap.size wr.drew b3' l[k].vars) := ⟨DeRow.wide (DeRow.keep r1' (fun g _ _ => rfl)) (Nat.le_refl _) hb.size, Row.wide (Row.keep r2' (fun g _ _ => rfl)) (Nat.le_refl _) hb.size⟩
      have HX : Hid (DnBd l[k]) := HT.out l[k] (List.getElem_mem hlt)
      clear r1 r1' r2 r2'
      go_wp2_with fail
      go_region_with (go_at_call 26; refine (eq_done l[k] a3 a3' b3 b3' c3 c3' d3 d3' _ R3.out.1 R3.out.2 S3.out.1 S3.out.2 HX.out).mono ?_; rintro e w1 ⟨rfl, hb1⟩)
      all_goals
        go_wp2_with fail
        exact ⟨⟨k + 1, by omega, by go_num, hb.drew.trans (hb1.mono hb.size)⟩, by simp [intOf]; omega⟩
    · go_wp2_with fail
      go_ret
      exact ⟨rfl, hb⟩
end Go.Proofs.YtgnonbghgcpnoaaDoor
