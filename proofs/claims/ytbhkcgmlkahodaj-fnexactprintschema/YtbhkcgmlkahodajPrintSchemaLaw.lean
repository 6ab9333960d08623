/- Proved: at every schema the law FnExactPrintSchema returns true, and its arguments read afterwards as they read before. No conditions beyond the row's own. -/
import Derived.Test.YtbhkcgmlkahodajSchPrintSpec
import Derived.Test.YtbhkcgmlkahodajSchSz
import Derived.Test.YtbhkcgmlkahodajSchTo
import Derived.Test.YtbhkcgmlkahodajSchEq
import Derived.WalkKit
import Derived.ProofKit
import Derived.OpenShut
import Derived.ShutString
import Derived.ChangeOld
import Derived.Below
import Derived.Lib.SmallJoins
namespace Go.Proofs.Ytbhkcgmlkahodaj.fnExactPrintSchema
open Go.ChangeShapes Go.WideShapes Go.ChangeAt Go.RowKit
open Go.ChangeMaps (open_string shut_string)
open Go.Proofs.Ytbhkcgmlkahodaj.G
set_option linter.unusedVariables false

theorem own : ownKnob Try.prog.godebug = none := by kernel_rfl
theorem laidOut : laidOutB Try.prog = true := by kernel_rfl

set_option maxHeartbeats 4000000 in
set_option maxRecDepth 40000 in
theorem walk (a : Option Addr) (c : Nat) (l : List Td) (w : World) (hr : TdRow 0 w.heap.size w a l) (hb : TdsBd maxLen l) :
    Calls Try.prog 6 #[.agg #[.slice a l.length c]] w fun e w' => e = .returned (.bool true) ∧ Below w.heap.size w w' := by
  have B0 : Hid (Below w.heap.size w (w.alloc (.cells #[.slice a l.length c] 24))) := (Below.refl _ _).alloc (Nat.le_refl _) _
  have K0 : Hid (∀ W0, Below w.heap.size w W0 → TdRow 0 W0.heap.size W0 a l) := fun W0 hB => TdRow.up hr hB
  have HD : Hid (TdsBd maxLen l) := hb
  clear hr hb
  go_enter Try.func6, Try.ntmps6
  go_wp2_with fail
  refine (sz_top a c l 1048576 _ (K0.out _ B0.out) HD.out (by omega) (by omega)).mono ?_
  rintro e w1 ⟨m, rfl, hm, hb1⟩
  have HM : Hid (Sz 1048576 m (TdsBd 1048576 l)) := hm
  clear hm
  have c1 := fun o => hb1.cell (p := ⟨w.heap.size, o, none⟩) (by simp)
  have z1 : w.heap.size + 1 ≤ w1.heap.size := size_one hb1
  have q1 : Hid (Below w.heap.size w w1) := below_one hb1
  clear hb1
  by_cases hneg : m < 0
  · go_wp2_with fail
    go_ret
    exact ⟨rfl, q1.out⟩
  have HE : Hid (TdsBd 1048576 l) := HM.out.2.2 (by omega)
  clear HM
  go_wp2_with fail
  refine (to_top a c l _ (K0.out _ q1.out) HE.out).mono ?_
  rintro e w2 ⟨a2, d2, rfl, r2, hb2⟩
  have RA : Hid (TdRow 0 w2.heap.size w2 a2 l) := TdRow.wide r2 (Nat.zero_le _) (Nat.le_refl _)
  have c2 := fun o => (hb2.cell (p := ⟨w.heap.size, o, none⟩) (by first | omega | (simp <;> omega))).trans (c1 o)
  have z2 : w.heap.size + 1 ≤ w2.heap.size := by have := hb2.size; omega
  have q2 : Hid (Below w.heap.size w w2) := q1.out.trans (hb2.mono (by omega))
  clear r2 hb2 c1
  go_wp2_with fail
  refine (spec_printSchema a2 d2 l _ RA.out HE.out).mono ?_
  rintro e w3 ⟨hpr, hb3⟩
  obtain ⟨ts, ys, rfl, hxs⟩ := PrR.open_ hpr
  have HXS : Hid _ := hxs
  clear hxs hpr
  have c3 := fun o => (hb3.cell (p := ⟨w.heap.size, o, none⟩) (by first | omega | (simp <;> omega))).trans (c2 o)
  have z3 : w.heap.size + 1 ≤ w3.heap.size := by have := hb3.size; omega
  have q3 : Hid (Below w.heap.size w w3) := q2.out.trans (hb3.mono (by omega))
  clear hb3 c2
  go_wp2_with fail
  refine (to_top a c l _ (K0.out _ q3.out) HE.out).mono ?_
  rintro e w4 ⟨a4, d4, rfl, r4, hb4⟩
  have R4 : Hid (∀ W0, Below w4.heap.size w4 W0 → TdRow 0 W0.heap.size W0 a4 l) := fun W0 hB => TdRow.up (TdRow.wide r4 (Nat.zero_le _) (Nat.le_refl _)) hB
  have c4 := fun o => (hb4.cell (p := ⟨w.heap.size, o, none⟩) (by first | omega | (simp <;> omega))).trans (c3 o)
  have z4 : w.heap.size + 1 ≤ w4.heap.size := by have := hb4.size; omega
  have q4 : Hid (Below w.heap.size w w4) := q3.out.trans (hb4.mono (by omega))
  clear r4 hb4 c3
  go_wp2_with fail
  refine (impl_print a4 d4 l _ (R4.out _ ((Below.refl _ _).alloc (Nat.le_refl _) _)) HE.out).mono ?_
  rintro e w5 ⟨hpr, hb5⟩
  obtain ⟨ti, yi, rfl, hxi⟩ := PrR.open_ hpr
  obtain ⟨rfl, rfl⟩ : ts = ti ∧ ys = yi := PrV.one HXS.out hxi
  clear hxi hpr
  have e5 : w5.cell? ⟨w4.heap.size, 0, none⟩ = some (.slice a4 l.length d4) := (hb5.cell (p := ⟨w4.heap.size, 0, none⟩) (by simp)).trans (row_cell (heap_alloc_new _ _) 0)
  have z5 : w4.heap.size + 1 ≤ w5.heap.size := size_one hb5
  have p5 : Hid (Below w4.heap.size w4 w5) := below_one hb5
  have c5 : w5.cell? ⟨w.heap.size, 0, none⟩ = some (.slice a l.length c) := ((p5.out.cell (p := ⟨w.heap.size, 0, none⟩) (show w.heap.size < w4.heap.size by omega)).trans (c4 0)).trans (row_cell (heap_alloc_new _ _) 0)
  clear hb5 c4
  go_wp2_with fail
  go_region_with (first
    | (go_at_call 10
       refine Calls.mono (to_top a c l _ (K0.out _ ?hb) HE.out) ?_
       case hb => exact q4.out.trans ((p5.out.drew).mono (by omega))
       rintro e w6 ⟨a6, d6, rfl, r6, hb6⟩
       have e6 : w6.cell? ⟨w4.heap.size, 0, none⟩ = some (.slice a4 l.length d4) := (hb6.cell (p := ⟨w4.heap.size, 0, none⟩) (by first | omega | (simp <;> omega))).trans e5
       have R6 : Hid (TdRow 0 w6.heap.size w6 a6 l) := TdRow.wide r6 (Nat.zero_le _) (Nat.le_refl _)
       have p6 : Hid (Below w4.heap.size w4 w6) := p5.out.drew.trans (hb6.mono (by first | omega | (simp <;> omega)))
       clear r6 hb6)
    | (go_at_call 12
       refine (eq_top a4 _ d4 _ l _ (R4.out _ p6.out) R6.out HE.out).mono ?_
       rintro e w7 ⟨rfl, hb7⟩
       have p7 : Hid (Below w4.heap.size w4 w7) := p6.out.trans (hb7.mono (by have := p6.out.size; omega))))
  all_goals
    go_wp2_with fail
    go_ret
    exact ⟨rfl, q4.out.trans (p7.out.mono (by omega))⟩

set_option maxRecDepth 100000 in
theorem lifted (os : Os) (started : os.Started) (H : Type) (enc : TypeId × Value → H) :
    ReturnsInHanded {} Try.checked os 6 .any (Rows.fnExactPrintSchemaSpec.pre6 enc Try.prog Try.f6 Rows.fnExactPrintSchemaRow.domain false) (Rows.fnExactPrintSchemaSpec.post enc Try.prog Try.f6 false true false false) := by
  refine returnsInHanded_of_change (C := Try.checked) own started (by kernel_rfl) Try.func6
    (ChangeSpec.witness6 (enc := enc) (C := Try.checked) false ⟨#[], #[.agg #[.slice none 0 0]], []⟩ 8 (by kernel_rfl) (by kernel_rfl) (by kernel_rfl) (by kernel_rfl)) ?_
  intro W base args ds gs before hval0 hW hcnd _
  have hval : ∀ (j : Nat) t v, Try.f6.params[j]? = some t → args[j]? = some v → Value.okWide Try.prog W .any base t v := hval0
  have hW' := hW
  obtain ⟨p, q, hA0, hV, rfl, hfz, hnd⟩ := hW
  have hA : DataW.TrodAll enc Try.prog W 0 (fun _ => true) true Try.f6.params.toList args.toList ds p := hA0
  rw [Try.params6] at hA hval
  obtain ⟨v0, vs0, d0, ds0, p0, q0, hargs, rfl, rfl, h0, r0⟩ := trodAll_cons hA
  obtain ⟨rfl, rfl, rfl⟩ := trodAll_nil r0
  obtain rfl : args = #[v0] := by cases args; simp_all
  obtain ⟨rfl, rfl⟩ := trodVars_none hV
  have g0 := h0
  have lt0 : ∀ x ∈ p0, x.block < W.heap.size := by obtain ⟨m, hm⟩ := g0; exact DataW.trod_lt m _ _ _ hm
  obtain ⟨a0, c0, l0, rfl, hb0, hr0⟩ : ∃ a c, ∃ l : List Td, v0 = .agg #[.slice a l.length c] ∧ TdsBd maxLen l ∧ TdRow 0 W.heap.size W a l := by
    obtain ⟨cs, rfl, hsz⟩ := okWide_struct Try.underlying24 (hval 0 24 v0 rfl rfl)
    obtain ⟨fuel, hf⟩ := h0
    obtain ⟨y0, n, hx, hlen, h1⟩ := trod_struct1 Try.underlying24 hf
    have cd : Try.prog.cellsOf 24 = 1 := by kernel_rfl
    have c1 : Try.prog.cellsOf 22 = 1 := by kernel_rfl
    obtain ⟨u⟩ := cs
    have hu : u.length = 1 := by rw [cd] at hsz; simpa using hsz
    obtain ⟨q, rfl⟩ : ∃ q, u = [q] := List.length_eq_one_iff.1 hu
    obtain ⟨a, c, l, e, hb, hr⟩ := Tds_open (by simpa [Value.cells, c1] using h1)
    simp only [List.cons.injEq, and_true] at e
    subst e
    exact ⟨a, c, l, rfl, hb, hr⟩
  clear hA0 hval0
  refine (walk a0 c0 l0 W hr0 hb0).mono fun e W' ⟨he, bel⟩ => ?_
  subst he
  exact ⟨_, rfl, _, _, _, [], _, [], hW', trodAll_mk1 (shut_bool Try.underlying4 _), (trodAll_cons_mk (Below.trod laidOut (by kernel_rfl) (of_decide_eq_true (by kernel_rfl)) g0 bel lt0) trodAll_mk0), rfl, bel.frame _, fun h => by cases h⟩

theorem over : Rows.fnExactPrintSchemaRow.holds Try.pinned (OpenSpec.ofChange Rows.fnExactPrintSchemaSpec) :=
  OpenClaim.holds_of_wide 6 Try.f6 rfl rfl rfl rfl rfl rfl rfl ⟨rfl, rfl, rfl, rfl, rfl⟩ rfl rfl rfl rfl rfl (by kernel_rfl) Try.func6 (by kernel_rfl)
    (of_decide_eq_true (by kernel_rfl)) (by unfold Func.isWrapper; first | (rw [if_pos (by decide +kernel)]; kernel_rfl) | (rw [if_neg (by decide +kernel)]; exact ⟨rfl, rfl⟩))
    (fun os started H enc _ => lifted os started H enc)
end Go.Proofs.Ytbhkcgmlkahodaj.fnExactPrintSchema
namespace Go.Proofs.Ytbhkcgmlkahodaj
theorem printSchema_holds : Rows.FnExactPrintSchemaSaid := fnExactPrintSchema.over
#print axioms printSchema_holds
end Go.Proofs.Ytbhkcgmlkahodaj
