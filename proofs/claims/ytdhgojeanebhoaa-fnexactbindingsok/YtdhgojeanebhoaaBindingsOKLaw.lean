/- Proved: at every list of bindings the law FnExactBindingsOK returns true, and its argument reads afterwards as it read before. No conditions beyond the row's own. -/
import Derived.Test.YtdhgojeanebhoaaBnOK
import Derived.WalkKit
import Derived.ProofKit
import Derived.OpenShut
import Derived.ShutString
import Derived.ChangeOld
import Derived.Below
import Derived.Lib.SmallJoins
namespace Go.Proofs.Ytdhgojeanebhoaa.fnExactBindingsOK
open Go.ChangeShapes Go.WideShapes Go.ChangeAt Go.RowKit
open Go.ChangeMaps (open_string shut_string)
set_option linter.unusedVariables false

theorem own : ownKnob Try.prog.godebug = none := by kernel_rfl
theorem laidOut : laidOutB Try.prog = true := by kernel_rfl

set_option maxHeartbeats 2000000 in
theorem walk (a : Option Addr) (c : Nat) (l : List Ar) (w : World) (hr : ArRow 0 w.heap.size w a l) (hl : l.length ≤ maxLen) (ht : ∀ x ∈ l, ArBd maxLen x) :
    Calls Try.prog 3 #[.slice a l.length c] w fun e w' => e = .returned (.bool true) ∧ Below w.heap.size w w' := by
  have K0 : Hid (∀ W0, Below w.heap.size w W0 → ArRow 0 W0.heap.size W0 a l) := fun W0 hB => Row.up hr hB
  have HT : Hid (∀ x ∈ l, ArBd maxLen x) := ht
  clear hr ht
  go_enter Try.func3, Try.ntmps3
  go_wp2_with fail
  refine (sz_binds a c l 1048576 _ (K0.out _ (Below.refl _ _)) hl HT.out (by omega) (by omega)).mono ?_
  rintro e w1 ⟨m, rfl, hm, hb1⟩
  have HM : Hid (Sz 1048576 m (l.length ≤ 1048576 ∧ ∀ x ∈ l, ArBd 1048576 x)) := hm
  have q1 : Hid (Below w.heap.size w w1) := hb1
  clear hm hb1
  by_cases hneg : m < 0
  · go_wp2_with fail
    go_ret
    exact ⟨rfl, q1.out⟩
  obtain ⟨hl2, ht2⟩ := HM.out.2.2 (by omega)
  have HE : Hid (∀ x ∈ l, ArBd 1048576 x) := ht2
  clear HM ht2
  have z1 := q1.out.size
  go_wp2_with fail
  refine (to_binds a c l _ (K0.out _ q1.out) hl2).mono ?_
  rintro e w2 ⟨a2, d2, rfl, r2, hb2⟩
  have RA : Hid (ArRow 0 w2.heap.size w2 a2 l) := Row.wide r2 (Nat.zero_le _) (Nat.le_refl _)
  have z2 := hb2.size
  have q2 : Hid (Below w.heap.size w w2) := q1.out.trans (hb2.mono (by omega))
  clear r2 hb2
  go_wp2_with fail
  refine (spec_binds a2 d2 l _ RA.out hl2 HE.out).mono ?_
  rintro e w3 ⟨rfl, hb3⟩
  have z3 := hb3.size
  have q3 : Hid (Below w.heap.size w w3) := q2.out.trans (hb3.mono (by omega))
  clear hb3
  go_wp2_with fail
  refine (to_binds a c l _ (K0.out _ q3.out) hl2).mono ?_
  rintro e w4 ⟨a4, d4, rfl, r4, hb4⟩
  have R4 : Hid (∀ W0, Below w4.heap.size w4 W0 → ArRow 0 W0.heap.size W0 a4 l) := fun W0 hB => Row.up (Row.wide r4 (Nat.zero_le _) (Nat.le_refl _)) hB
  have z4 := hb4.size
  have q4 : Hid (Below w.heap.size w w4) := q3.out.trans (hb4.mono (by omega))
  clear r4 hb4
  go_wp2_with fail
  refine (impl_binds a4 d4 l _ (R4.out _ (Below.refl _ _)) hl2 HE.out).mono ?_
  rintro e w5 ⟨rfl, hb5⟩
  have z5 := hb5.size
  have p5 : Hid (Below w4.heap.size w4 w5) := hb5
  have q5 : Hid (Below w.heap.size w w5) := q4.out.trans (hb5.mono (by omega))
  clear hb5
  go_wp2_with fail
  refine (to_binds a c l _ (K0.out _ q5.out) hl2).mono ?_
  rintro e w6 ⟨a6, d6, rfl, r6, hb6⟩
  have R6 : Hid (ArRow 0 w6.heap.size w6 a6 l) := Row.wide r6 (Nat.zero_le _) (Nat.le_refl _)
  have z6 := hb6.size
  have p6 : Hid (Below w4.heap.size w4 w6) := p5.out.trans (hb6.mono (by omega))
  have q6 : Hid (Below w.heap.size w w6) := q5.out.trans (hb6.mono (by omega))
  clear r6 hb6
  go_wp2_with fail
  refine (eq_binds a4 a6 d4 d6 l _ (R4.out _ p6.out) R6.out hl2).mono ?_
  rintro e w7 ⟨rfl, hb7⟩
  have q7 : Hid (Below w.heap.size w w7) := q6.out.trans (hb7.mono (by omega))
  go_wp2_with fail
  go_ret
  exact ⟨rfl, q7.out⟩

set_option maxRecDepth 100000 in
theorem lifted (os : Os) (started : os.Started) (H : Type) (enc : TypeId × Value → H) :
    ReturnsInHanded {} Try.checked os 3 .any (Rows.fnExactBindingsOKSpec.pre6 enc Try.prog Try.f3 Rows.fnExactBindingsOKRow.domain false) (Rows.fnExactBindingsOKSpec.post enc Try.prog Try.f3 false true false false) := by
  refine returnsInHanded_of_change (C := Try.checked) own started (by kernel_rfl) Try.func3
    (ChangeSpec.witness6 (enc := enc) (C := Try.checked) false ⟨#[], #[.slice none 0 0], []⟩ 8 (by kernel_rfl) (by kernel_rfl) (by kernel_rfl) (by kernel_rfl)) ?_
  intro W base args ds gs before hval0 hW hcnd _
  have hval : ∀ (j : Nat) t v, Try.f3.params[j]? = some t → args[j]? = some v → Value.okWide Try.prog W .any base t v := hval0
  have hW' := hW
  obtain ⟨p, q, hA0, hV, rfl, hfz, hnd⟩ := hW
  have hA : DataW.TrodAll enc Try.prog W 0 (fun _ => true) true Try.f3.params.toList args.toList ds p := hA0
  rw [Try.params3] at hA hval
  obtain ⟨v0, vs0, d0, ds0, p0, q0, hargs, rfl, rfl, h0, r0⟩ := trodAll_cons hA
  obtain ⟨rfl, rfl, rfl⟩ := trodAll_nil r0
  obtain rfl : args = #[v0] := by cases args; simp_all
  obtain ⟨rfl, rfl⟩ := trodVars_none hV
  have g0 := h0
  have lt0 : ∀ x ∈ p0, x.block < W.heap.size := by obtain ⟨m, hm⟩ := g0; exact DataW.trod_lt m _ _ _ hm
  obtain ⟨a0, c0, l0, rfl, hb0, ht0, hr0⟩ : ∃ a c, ∃ l : List Ar, v0 = .slice a l.length c ∧ l.length ≤ maxLen ∧ (∀ x ∈ l, ArBd maxLen x) ∧ ArRow 0 W.heap.size W a l := by
    obtain ⟨a, len, cap, rfl⟩ := okWide_slice Try.underlying22 (hval 0 22 v0 rfl rfl)
    obtain ⟨fuel, hf⟩ := h0
    obtain ⟨a', c', l, e, h1, h2, h3⟩ := binds_open (by simpa [Value.cells] using hf)
    simp only [List.cons.injEq, and_true] at e
    exact ⟨a', c', l, e, h1, h2, h3⟩
  clear hA0 hval0
  refine (walk a0 c0 l0 W hr0 hb0 ht0).mono fun e W' ⟨he, bel⟩ => ?_
  subst he
  exact ⟨_, rfl, _, _, _, [], _, [], hW', trodAll_mk1 (shut_bool Try.underlying4 _), (trodAll_cons_mk (Below.trod laidOut (by kernel_rfl) (of_decide_eq_true (by kernel_rfl)) g0 bel lt0) trodAll_mk0), rfl, bel.frame _, fun h => by cases h⟩

theorem over : Rows.fnExactBindingsOKRow.holds Try.pinned (OpenSpec.ofChange Rows.fnExactBindingsOKSpec) :=
  OpenClaim.holds_of_wide 3 Try.f3 rfl rfl rfl rfl rfl rfl rfl ⟨rfl, rfl, rfl, rfl, rfl⟩ rfl rfl rfl rfl rfl (by kernel_rfl) Try.func3 (by kernel_rfl)
    (of_decide_eq_true (by kernel_rfl)) (by unfold Func.isWrapper; first | (rw [if_pos (by decide +kernel)]; kernel_rfl) | (rw [if_neg (by decide +kernel)]; exact ⟨rfl, rfl⟩))
    (fun os started H enc _ => lifted os started H enc)
end Go.Proofs.Ytdhgojeanebhoaa.fnExactBindingsOK
namespace Go.Proofs.Ytdhgojeanebhoaa
theorem bindingsOK_holds : Rows.FnExactBindingsOKSaid := fnExactBindingsOK.over
#print axioms bindingsOK_holds
end Go.Proofs.Ytdhgojeanebhoaa
