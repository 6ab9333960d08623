/- Proved: the law FnExactPlainSchema, which takes nothing, returns true. No conditions beyond the row's own. -/
import Derived.Test.YtkjomeceojjfhaaPlainImplTwo
import Derived.Test.YtkjomeceojjfhaaPlainSpec
import Derived.Test.YtkjomeceojjfhaaPlainBd
import Derived.Test.YtkjomeceojjfhaaSchMark
import Derived.Test.YtkjomeceojjfhaaSchEq
import Derived.WalkKit
import Derived.ProofKit
import Derived.OpenShut
import Derived.ShutString
import Derived.ChangeOld
import Derived.Below
import Derived.Lib.SmallJoins
namespace Go.Proofs.Ytkjomeceojjfhaa.fnExactPlainSchema
open Go.ChangeShapes Go.WideShapes Go.ChangeAt Go.RowKit
open Go.ChangeMaps (open_string shut_string)
open Go.Proofs.Ytkjomeceojjfhaa.G
set_option linter.unusedVariables false

theorem own : ownKnob Try.prog.godebug = none := by kernel_rfl
theorem laidOut : laidOutB Try.prog = true := by kernel_rfl

set_option maxHeartbeats 4000000 in
set_option maxRecDepth 40000 in
theorem walk (w : World) :
    Calls Try.prog 3 #[] w fun e w' => e = .returned (.bool true) ∧ Below w.heap.size w w' := by
  have HB : Hid (TdsBd 1048576 PL) := PL_bd
  go_enter Try.func3, Try.ntmps3
  go_wp2_with fail
  refine (spec_plain _).mono ?_
  rintro e w1 ⟨ag, cg, rfl, r1, hb1⟩
  have R1 : Hid (TdRow 0 w1.heap.size w1 ag PL) := r1
  have z1 := hb1.size
  have q1 : Hid (Below w.heap.size w w1) := hb1
  clear r1 hb1
  go_wp2_with fail
  obtain ⟨va, hva⟩ : ∃ W, W = w1.alloc (.cells #[.slice ag 3 cg] 24) := ⟨_, rfl⟩
  rw [← hva]
  have za : va.heap.size = w1.heap.size + 1 := by rw [hva]; simp
  have ba : Below w1.heap.size w1 va := by rw [hva]; exact (Below.refl _ _).alloc (Nat.le_refl _) _
  have ha : va.heap[w1.heap.size]? = some (.cells #[.slice ag 3 cg] 24 (0, 0)) := by rw [hva]; exact heap_alloc_new _ _
  have qa : Hid (Below w.heap.size w va) := q1.out.trans (ba.mono (by omega))
  have KA : Hid (∀ W, Below va.heap.size va W → TdRow 0 W.heap.size W ag PL ∧ W.cell? ⟨w1.heap.size, 0, none⟩ = some (.slice ag 3 cg) ∧ Below w.heap.size w W) := fun W h =>
    ⟨TdRow.up (TdRow.up R1.out ba) h, row_cell ((h.block _ (by omega)).trans ha) 0, qa.out.trans (h.mono (by omega))⟩
  clear hva ba ha qa
  refine (impl_plain _).mono ?_
  rintro e w2 ⟨ai, ci, rfl, ⟨bs, o2, n2, i2⟩, hb2⟩
  have HO : Hid (TdOwn w2 ai PL bs) := o2
  have HN : Hid bs.Nodup := n2
  have HI : Hid (∀ g ∈ bs, va.heap.size ≤ g ∧ g < w2.heap.size) := i2
  have z2 := hb2.size
  have U2 : Hid (Below va.heap.size va w2) := hb2
  clear o2 n2 i2 hb2
  have c2 : w2.cell? ⟨w1.heap.size, 0, none⟩ = some (.slice ag 3 cg) := (KA.out _ U2.out).2.1
  have cp2 := fun o => (World.cell?_alloc_past (w := w2) o w1.heap.size 0 (by omega)).trans c2
  go_wp2_with fail
  clear c2 cp2
  obtain ⟨vb, hvb⟩ : ∃ W, W = w2.alloc (.cells #[.slice ai 3 ci] 24) := ⟨_, rfl⟩
  rw [← hvb]
  have zb : vb.heap.size = w2.heap.size + 1 := by rw [hvb]; simp
  have bb : Below w2.heap.size w2 vb := by rw [hvb]; exact (Below.refl _ _).alloc (Nat.le_refl _) _
  have hX : Hid (vb.heap[w2.heap.size]? = some (.cells #[.slice ai 3 ci] 24 (0, 0))) := by rw [hvb]; exact heap_alloc_new _ _
  have HOb : Hid (TdOwn vb ai PL bs) := TdOwn.same HO.out (fun g hg => bb.block g (HI.out g hg).2)
  have Ub : Hid (Below va.heap.size va vb) := U2.out.trans (bb.mono (by omega))
  clear hvb bb HO U2
  refine (eq_top ai ag ci cg PL _ (TdOwn.row HOb.out (fun g hg => by have := HI.out g hg; omega)) (KA.out _ Ub.out).1 HB.out).mono ?_
  rintro e w3 ⟨rfl, hb3⟩
  have z3 := hb3.size
  have X3 : Hid (w3.heap[w2.heap.size]? = some (.cells #[.slice ai 3 ci] 24 (0, 0))) := (hb3.block _ (by omega)).trans hX.out
  have HO3 : Hid (TdOwn w3 ai PL bs) := TdOwn.same HOb.out (fun g hg => hb3.block g (by have := (HI.out g hg).2; omega))
  have U3 : Hid (Below va.heap.size va w3) := Ub.out.trans (hb3.mono (by omega))
  clear hb3 hX HOb Ub
  have x3 : w3.cell? ⟨w2.heap.size, 0, none⟩ = some (.slice ai 3 ci) := row_cell X3.out 0
  go_wp2_with fail
  clear x3
  refine Calls.mono (mark_top ai ci PL bs 1 _ HO3.out HN.out (by omega) (by decide) (by decide)) ?_
  rintro e w4 ⟨m1, rfl, hm, o4, k4⟩
  have z4 := k4.size
  have U4 : Hid (Below va.heap.size va w4) := U3.out.trans (k4.below (by omega) (fun g hg => (HI.out g hg).1))
  have X4 : Hid (w4.heap[w2.heap.size]? = some (.cells #[.slice ai 3 ci] 24 (0, 0))) := (k4.block _ (by omega) (fun hx => by have := (HI.out _ hx).2; omega)).trans X3.out
  have R4 : Hid (TdRow 0 w4.heap.size w4 ai (mks fTd cTd 1 PL)) := o4.row (fun g hg => by have := HI.out g hg; omega)
  have HM : Hid (m1 = ((1 + cnt cTd PL : Nat) : Int)) := hm
  have hm0 : ¬ m1 < 0 := by omega
  clear hm o4 k4 U3 X3 HO3 HN
  have x4 : w4.cell? ⟨w2.heap.size, 0, none⟩ = some (.slice ai 3 ci) := row_cell X4.out 0
  go_wp2_with fail
  clear x4
  refine Calls.mono (held_top ai ci PL 1 _ R4.out (by omega) (by decide) (by decide)) ?_
  rintro e w5 ⟨m2, rfl, hm2, hb5⟩
  obtain rfl : m1 = m2 := HM.out.trans hm2.symm
  have z5 := hb5.size
  have B5 : Hid (Below w4.heap.size w4 w5) := hb5
  clear hm2 hb5
  go_wp2_with fail
  refine (impl_plain _).mono ?_
  rintro e w6 ⟨ah, ch, rfl, T6, hb6⟩
  have z6 := hb6.size
  have R6 : Hid (TdRow 0 w6.heap.size w6 ah PL) := TdRow.wide T6.row (Nat.zero_le _) (Nat.le_refl _)
  have B6 : Hid (Below w4.heap.size w4 w6) := B5.out.trans (hb6.mono (by omega))
  clear T6 hb6 B5
  have c6 : w6.cell? ⟨w1.heap.size, 0, none⟩ = some (.slice ag 3 cg) := (KA.out _ (U4.out.trans (B6.out.mono (by omega)))).2.1
  have cp6 := fun o => (World.cell?_alloc_past (w := w6) o w1.heap.size 0 (by omega)).trans c6
  go_wp2_with fail
  clear c6 cp6
  obtain ⟨ve, hve⟩ : ∃ W, W = w6.alloc (.cells #[.slice ah 3 ch] 24) := ⟨_, rfl⟩
  rw [← hve]
  have ze : ve.heap.size = w6.heap.size + 1 := by rw [hve]; simp
  have be : Below w6.heap.size w6 ve := by rw [hve]; exact (Below.refl _ _).alloc (Nat.le_refl _) _
  have Be : Hid (Below w4.heap.size w4 ve) := B6.out.trans (be.mono (by omega))
  have Re : Hid (TdRow 0 ve.heap.size ve ah PL) := TdRow.up R6.out be
  clear hve be B6 R6
  refine (eq_top ah ag ch cg PL _ Re.out (KA.out _ (U4.out.trans (Be.out.mono (by omega)))).1 HB.out).mono ?_
  rintro e w7 ⟨rfl, hb7⟩
  have z7 := hb7.size
  have B7 : Hid (Below w4.heap.size w4 w7) := Be.out.trans (hb7.mono (by omega))
  clear hb7 Be Re
  have x7 : w7.cell? ⟨w2.heap.size, 0, none⟩ = some (.slice ai 3 ci) := row_cell ((B7.out.block _ (by omega)).trans X4.out) 0
  go_wp2_with fail
  clear x7
  refine Calls.mono (held_top ai ci PL 1 _ (TdRow.up R4.out B7.out) (by omega) (by decide) (by decide)) ?_
  rintro e w8 ⟨m3, rfl, hm3, hb8⟩
  obtain rfl : m1 = m3 := HM.out.trans hm3.symm
  have Q8 : Hid (Below w.heap.size w w8) := (KA.out _ (U4.out.trans ((B7.out.trans (hb8.mono (by omega))).mono (by omega)))).2.2
  clear hm3 hb8
  go_wp2_with fail
  go_ret
  exact ⟨rfl, Q8.out⟩

set_option maxRecDepth 100000 in
theorem lifted (os : Os) (started : os.Started) (H : Type) (enc : TypeId × Value → H) :
    ReturnsInHanded {} Try.checked os 3 .any (Rows.fnExactPlainSchemaSpec.pre6 enc Try.prog Try.f3 Rows.fnExactPlainSchemaRow.domain false) (Rows.fnExactPlainSchemaSpec.post enc Try.prog Try.f3 false true false false) := by
  refine returnsInHanded_of_change (C := Try.checked) own started (by kernel_rfl) Try.func3
    (ChangeSpec.witness6 (enc := enc) (C := Try.checked) false ⟨#[], #[], []⟩ 8 (by kernel_rfl) (by kernel_rfl) (by kernel_rfl) (by kernel_rfl)) ?_
  intro W base args ds gs before hval0 hW hcnd _
  have hval : ∀ (j : Nat) t v, Try.f3.params[j]? = some t → args[j]? = some v → Value.okWide Try.prog W .any base t v := hval0
  have hW' := hW
  obtain ⟨p, q, hA0, hV, rfl, hfz, hnd⟩ := hW
  have hA : DataW.TrodAll enc Try.prog W 0 (fun _ => true) true Try.f3.params.toList args.toList ds p := hA0
  rw [Try.params3] at hA hval
  obtain ⟨hargs, rfl, rfl⟩ := trodAll_nil hA
  obtain rfl : args = #[] := by cases args; simp_all
  obtain ⟨rfl, rfl⟩ := trodVars_none hV
  clear hA0 hval0
  refine (walk W).mono fun e W' ⟨he, bel⟩ => ?_
  subst he
  exact ⟨_, rfl, _, _, _, [], _, [], hW', trodAll_mk1 (shut_bool Try.underlying4 _), trodAll_mk0, rfl, bel.frame _, fun h => by cases h⟩

theorem over : Rows.fnExactPlainSchemaRow.holds Try.pinned (OpenSpec.ofChange Rows.fnExactPlainSchemaSpec) :=
  OpenClaim.holds_of_wide 3 Try.f3 rfl rfl rfl rfl rfl rfl rfl ⟨rfl, rfl, rfl, rfl, rfl⟩ rfl rfl rfl rfl rfl (by kernel_rfl) Try.func3 (by kernel_rfl)
    (of_decide_eq_true (by kernel_rfl)) (by unfold Func.isWrapper; first | (rw [if_pos (by decide +kernel)]; kernel_rfl) | (rw [if_neg (by decide +kernel)]; exact ⟨rfl, rfl⟩))
    (fun os started H enc _ => lifted os started H enc)
end Go.Proofs.Ytkjomeceojjfhaa.fnExactPlainSchema
namespace Go.Proofs.Ytkjomeceojjfhaa
theorem plainSchema_holds : Rows.FnExactPlainSchemaSaid := fnExactPlainSchema.over
#print axioms plainSchema_holds
end Go.Proofs.Ytkjomeceojjfhaa
