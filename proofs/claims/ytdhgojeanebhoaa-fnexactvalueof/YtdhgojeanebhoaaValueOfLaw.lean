/- Proved: at every value and every list of bindings the law FnExactValueOf returns true, and its arguments read afterwards as they read before. No conditions beyond the row's own. -/
import Derived.Test.YtdhgojeanebhoaaBnVal
import Derived.WalkKit
import Derived.ProofKit
import Derived.OpenShut
import Derived.ShutString
import Derived.ChangeOld
import Derived.Below
import Derived.Lib.SmallJoins
namespace Go.Proofs.Ytdhgojeanebhoaa.fnExactValueOf
open Go.ChangeShapes Go.WideShapes Go.ChangeAt Go.RowKit
open Go.ChangeMaps (open_string shut_string)
set_option linter.unusedVariables false

theorem own : ownKnob Try.prog.godebug = none := by kernel_rfl
theorem laidOut : laidOutB Try.prog = true := by kernel_rfl

set_option maxHeartbeats 4000000 in
set_option maxRecDepth 20000 in
theorem walk (k0 n0 : Int) (t0 : ByteArray) (a : Option Addr) (c : Nat) (l : List Ar) (w : World) (hs : t0.size ≤ maxLen) (hr : ArRow 0 w.heap.size w a l) (hl : l.length ≤ maxLen) (ht : ∀ x ∈ l, ArBd maxLen x) :
    Calls Try.prog 4 #[.agg #[.int .i64 k0, .int .i64 n0, .string t0], .slice a l.length c] w fun e w' => e = .returned (.bool true) ∧ Below w.heap.size w w' := by
  have K0 : Hid (∀ W0, Below w.heap.size w W0 → ArRow 0 W0.heap.size W0 a l) := fun W0 hB => Row.up hr hB
  have HT : Hid (∀ x ∈ l, ArBd maxLen x) := ht
  clear hr ht
  obtain ⟨u, y, hy⟩ : ∃ u y, valOf ⟨k0, n0, t0⟩ l = (u, y) := ⟨_, _, rfl⟩
  have HY : Hid (valOf ⟨k0, n0, t0⟩ l = (u, y)) := hy
  clear hy
  go_enter Try.func4, Try.ntmps4
  go_wp2_with fail
  refine (sz_val ⟨k0, n0, t0⟩ 1048576 _ hs (by omega) (by omega)).mono ?_
  rintro e w1 ⟨m, rfl, hm, hb1⟩
  have HM : Hid (Sz 1048576 m (VaBd 1048576 ⟨k0, n0, t0⟩)) := hm
  have z1 : w.heap.size + 1 ≤ w1.heap.size := by have := hb1.size; simpa using this
  have q1 : Hid (Below w.heap.size w w1) := ((Below.refl _ _).alloc (Nat.le_refl _) _).trans (hb1.mono (by simp))
  have c1 := fun o => hb1.cell (p := ⟨w.heap.size, o, none⟩) (by simp)
  clear hm hb1
  by_cases hneg : m < 0
  · go_wp2_with fail
    go_ret
    exact ⟨rfl, q1.out⟩
  have HV : Hid (t0.size ≤ 1048576) := HM.out.2.2 (by omega)
  have hmm := HM.out.1
  clear HM
  go_wp2_with fail
  refine (sz_binds a c l m _ (K0.out _ q1.out) hl HT.out (by omega) (by omega)).mono ?_
  rintro e w2 ⟨m2, rfl, hm, hb2⟩
  have HM : Hid (Sz m m2 (l.length ≤ 1048576 ∧ ∀ x ∈ l, ArBd 1048576 x)) := hm
  have z2 : w.heap.size + 1 ≤ w2.heap.size := by have := hb2.size; omega
  have q2 : Hid (Below w.heap.size w w2) := q1.out.trans (hb2.mono (by omega))
  have c2 := fun o => (hb2.cell (p := ⟨w.heap.size, o, none⟩) (show w.heap.size < w1.heap.size by omega)).trans (c1 o)
  clear hm hb2 c1
  by_cases hneg2 : m2 < 0
  · go_wp2_with fail
    go_ret
    exact ⟨rfl, q2.out⟩
  obtain ⟨hl2, ht2⟩ := HM.out.2.2 (by omega)
  have HE : Hid (∀ x ∈ l, ArBd 1048576 x) := ht2
  clear HM ht2
  go_wp2_with fail
  refine (to_val k0 n0 t0 _).mono ?_
  rintro e w3 ⟨rfl, hb3⟩
  have z3 : w.heap.size + 1 ≤ w3.heap.size := by have := hb3.size; omega
  have q3 : Hid (Below w.heap.size w w3) := q2.out.trans (hb3.mono (by omega))
  have c3 := fun o => (hb3.cell (p := ⟨w.heap.size, o, none⟩) (show w.heap.size < w2.heap.size by omega)).trans (c2 o)
  clear hb3 c2
  go_wp2_with fail
  refine (to_binds a c l _ (K0.out _ q3.out) hl2).mono ?_
  rintro e w4 ⟨a4, d4, rfl, r4, hb4⟩
  have R4 : Hid (ArRow 0 w4.heap.size w4 a4 l) := Row.wide r4 (Nat.zero_le _) (Nat.le_refl _)
  have z4 : w.heap.size + 1 ≤ w4.heap.size := by have := hb4.size; omega
  have q4 : Hid (Below w.heap.size w w4) := q3.out.trans (hb4.mono (by omega))
  have c4 := fun o => (hb4.cell (p := ⟨w.heap.size, o, none⟩) (show w.heap.size < w3.heap.size by omega)).trans (c3 o)
  clear r4 hb4 c3
  go_wp2_with fail
  refine (spec_valueOf ⟨k0, n0, t0⟩ a4 d4 l u y _ HV.out R4.out hl2 HE.out HY.out).mono ?_
  rintro e w5 ⟨rfl, hb5⟩
  have z5 : w.heap.size + 1 ≤ w5.heap.size := by have := hb5.size; omega
  have q5 : Hid (Below w.heap.size w w5) := q4.out.trans (hb5.mono (by omega))
  have c5 := fun o => (hb5.cell (p := ⟨w.heap.size, o, none⟩) (show w.heap.size < w4.heap.size by omega)).trans (c4 o)
  clear hb5 c4
  go_wp2_with fail
  obtain ⟨W, hW⟩ : ∃ W, W = w5.alloc (.cells #[.int .i64 u.k, .int .i64 u.n, .string u.t] 32) := ⟨_, rfl⟩
  rw [← hW]
  have zW : W.heap.size = w5.heap.size + 1 := by rw [hW]; simp
  have bW : Hid (Below w5.heap.size w5 W) := by rw [hW]; exact (Below.refl _ _).alloc (Nat.le_refl _) _
  have qW : Hid (Below w.heap.size w W) := q5.out.trans (bW.out.mono (by omega))
  have HX : Hid (W.heap[w5.heap.size]? = some (.cells #[.int .i64 u.k, .int .i64 u.n, .string u.t] 32 (0, 0))) := by rw [hW]; exact heap_alloc_new _ _
  have cW := fun o => (bW.out.cell (p := ⟨w.heap.size, o, none⟩) (show w.heap.size < w5.heap.size by omega)).trans (c5 o)
  clear hW c5
  refine (to_binds a c l _ (K0.out _ qW.out) hl2).mono ?_
  rintro e w6 ⟨a6, d6, rfl, r6, hb6⟩
  have R6 : Hid (∀ W0, Below w6.heap.size w6 W0 → ArRow 0 W0.heap.size W0 a6 l) := fun W0 hB => Row.up (Row.wide r6 (Nat.zero_le _) (Nat.le_refl _)) hB
  have z6 : w5.heap.size + 1 ≤ w6.heap.size := by have := hb6.size; omega
  have q6 : Hid (Below w.heap.size w w6) := qW.out.trans (hb6.mono (by omega))
  have HX6 : Hid (w6.heap[w5.heap.size]? = some (.cells #[.int .i64 u.k, .int .i64 u.n, .string u.t] 32 (0, 0))) := (hb6.block _ (by omega)).trans HX.out
  have c6 := fun o => (hb6.cell (p := ⟨w.heap.size, o, none⟩) (show w.heap.size < W.heap.size by omega)).trans (cW o)
  clear r6 hb6 cW HX
  go_wp2_with fail
  refine (to_val k0 n0 t0 _).mono ?_
  rintro e w7 ⟨rfl, hb7⟩
  have z7 : w6.heap.size ≤ w7.heap.size := hb7.size
  have p7 : Hid (Below w6.heap.size w6 w7) := hb7
  have q7 : Hid (Below w.heap.size w w7) := q6.out.trans (hb7.mono (by omega))
  clear hb7 c6
  go_wp2_with fail
  refine (impl_valueOf ⟨k0, n0, t0⟩ a6 d6 l u y _ HV.out (R6.out _ p7.out) hl2 HE.out HY.out).mono ?_
  rintro e w8 ⟨rfl, hb8⟩
  have z8 : w6.heap.size ≤ w8.heap.size := by have := hb8.size; omega
  have p8 : Hid (Below w6.heap.size w6 w8) := p7.out.trans (hb8.mono (by omega))
  have q8 : Hid (Below w.heap.size w w8) := q7.out.trans (hb8.mono (by omega))
  have x8 : w8.heap[w5.heap.size]? = _ := (p8.out.block _ (by omega)).trans HX6.out
  have e8 := fun o => row_cell x8 o
  have s8 := fun ob o => (((Below.refl w8.heap.size w8).alloc (Nat.le_refl _) ob).cell (p := ⟨w5.heap.size, o, none⟩) (show w5.heap.size < w8.heap.size by omega)).trans (e8 o)
  clear hb8 x8 e8
  go_wp2_with fail
  refine (eq_val u.k u.n u.t _).mono ?_
  rintro e w9 ⟨rfl, hb9⟩
  have z9 : w8.heap.size + 1 ≤ w9.heap.size := by have := hb9.size; simpa using this
  have b9 : Below w8.heap.size w8 w9 := by
    refine Below.trans ?_ (hb9.mono (by first | omega | (simp <;> omega)))
    repeat (first | exact Below.refl _ _ | refine Below.setCell ?_ (by first | omega | (simp <;> omega)) _ | refine Below.alloc ?_ (by first | omega | (simp <;> omega)) _)
  have p9 : Hid (Below w6.heap.size w6 w9) := p8.out.trans (b9.mono (by omega))
  have q9 : Hid (Below w.heap.size w w9) := q8.out.trans (b9.mono (by omega))
  clear hb9 b9 s8
  go_wp2_with fail
  refine (to_binds a c l _ (K0.out _ q9.out) hl2).mono ?_
  rintro e wa ⟨aa, da, rfl, ra, hba⟩
  have Ra : Hid (ArRow 0 wa.heap.size wa aa l) := Row.wide ra (Nat.zero_le _) (Nat.le_refl _)
  have za := hba.size
  have pa : Hid (Below w6.heap.size w6 wa) := p9.out.trans (hba.mono (by omega))
  have qa : Hid (Below w.heap.size w wa) := q9.out.trans (hba.mono (by omega))
  clear ra hba
  go_wp2_with fail
  refine (eq_binds a6 aa d6 da l _ (R6.out _ pa.out) Ra.out hl2).mono ?_
  rintro e wb ⟨rfl, hbb⟩
  have qb : Hid (Below w.heap.size w wb) := qa.out.trans (hbb.mono (by omega))
  go_wp2_with fail
  go_ret
  exact ⟨rfl, qb.out⟩

set_option maxRecDepth 100000 in
theorem lifted (os : Os) (started : os.Started) (H : Type) (enc : TypeId × Value → H) :
    ReturnsInHanded {} Try.checked os 4 .any (Rows.fnExactValueOfSpec.pre6 enc Try.prog Try.f4 Rows.fnExactValueOfRow.domain false) (Rows.fnExactValueOfSpec.post enc Try.prog Try.f4 false true false false) := by
  refine returnsInHanded_of_change (C := Try.checked) own started (by kernel_rfl) Try.func4
    (ChangeSpec.witness6 (enc := enc) (C := Try.checked) false ⟨#[], #[.agg #[.int .i64 0, .int .i64 0, .string ByteArray.empty], .slice none 0 0], []⟩ 8 (by kernel_rfl) (by kernel_rfl) (by kernel_rfl) (by kernel_rfl)) ?_
  intro W base args ds gs before hval0 hW hcnd _
  have hval : ∀ (j : Nat) t v, Try.f4.params[j]? = some t → args[j]? = some v → Value.okWide Try.prog W .any base t v := hval0
  have hW' := hW
  obtain ⟨p, q, hA0, hV, rfl, hfz, hnd⟩ := hW
  have hA : DataW.TrodAll enc Try.prog W 0 (fun _ => true) true Try.f4.params.toList args.toList ds p := hA0
  rw [Try.params4] at hA hval
  obtain ⟨v0, vs0, d0, ds0, p0, q0, hargs, rfl, rfl, h0, r0⟩ := trodAll_cons hA
  obtain ⟨v1, vs1, d1, ds1, p1, q1, rfl, rfl, rfl, h1, r1⟩ := trodAll_cons r0
  obtain ⟨rfl, rfl, rfl⟩ := trodAll_nil r1
  obtain rfl : args = #[v0, v1] := by cases args; simp_all
  obtain ⟨rfl, rfl⟩ := trodVars_none hV
  have g0 := h0
  have lt0 : ∀ x ∈ p0, x.block < W.heap.size := by obtain ⟨m, hm⟩ := g0; exact DataW.trod_lt m _ _ _ hm
  obtain ⟨x0, x1, x2, y0, y1, y2, m, rfl, _, _, hy0, hy1, hy2⟩ := Go.Joins.open_agg3 Try.underlying30 (by kernel_rfl) (by kernel_rfl) (hval 0 30 v0 rfl rfl) h0
  obtain ⟨k00, e0, _, z00⟩ := DataW.trod_int Try.underlying3 hy0
  obtain ⟨k01, e1, _, z01⟩ := DataW.trod_int Try.underlying3 hy1
  obtain ⟨k02, e2, _, w0⟩ := DataW.trod_string Try.underlying9 hy2
  simp only [List.cons.injEq, and_true] at e0 e1 e2
  subst e0 e1 e2
  have g1 := h1
  have lt1 : ∀ x ∈ p1, x.block < W.heap.size := by obtain ⟨m, hm⟩ := g1; exact DataW.trod_lt m _ _ _ hm
  obtain ⟨a1, c1, l1, rfl, hb1, ht1, hr1⟩ : ∃ a c, ∃ l : List Ar, v1 = .slice a l.length c ∧ l.length ≤ maxLen ∧ (∀ x ∈ l, ArBd maxLen x) ∧ ArRow 0 W.heap.size W a l := by
    obtain ⟨a, len, cap, rfl⟩ := okWide_slice Try.underlying22 (hval 1 22 v1 rfl rfl)
    obtain ⟨fuel, hf⟩ := h1
    obtain ⟨a', c', l, e, h1, h2, h3⟩ := binds_open (by simpa [Value.cells] using hf)
    simp only [List.cons.injEq, and_true] at e
    exact ⟨a', c', l, e, h1, h2, h3⟩
  clear hA0 hval0
  refine (walk k00 k01 k02 a1 c1 l1 W w0 hr1 hb1 ht1).mono fun e W' ⟨he, bel⟩ => ?_
  subst he
  exact ⟨_, rfl, _, _, _, [], _, [], hW', trodAll_mk1 (shut_bool Try.underlying4 _), (trodAll_cons_mk (Below.trod laidOut (by kernel_rfl) (of_decide_eq_true (by kernel_rfl)) g0 bel lt0) (trodAll_cons_mk (Below.trod laidOut (by kernel_rfl) (of_decide_eq_true (by kernel_rfl)) g1 bel lt1) trodAll_mk0)), rfl, bel.frame _, fun h => by cases h⟩

theorem over : Rows.fnExactValueOfRow.holds Try.pinned (OpenSpec.ofChange Rows.fnExactValueOfSpec) :=
  OpenClaim.holds_of_wide 4 Try.f4 rfl rfl rfl rfl rfl rfl rfl ⟨rfl, rfl, rfl, rfl, rfl⟩ rfl rfl rfl rfl rfl (by kernel_rfl) Try.func4 (by kernel_rfl)
    (of_decide_eq_true (by kernel_rfl)) (by unfold Func.isWrapper; first | (rw [if_pos (by decide +kernel)]; kernel_rfl) | (rw [if_neg (by decide +kernel)]; exact ⟨rfl, rfl⟩))
    (fun os started H enc _ => lifted os started H enc)
end Go.Proofs.Ytdhgojeanebhoaa.fnExactValueOf
namespace Go.Proofs.Ytdhgojeanebhoaa
theorem valueOf_holds : Rows.FnExactValueOfSaid := fnExactValueOf.over
#print axioms valueOf_holds
end Go.Proofs.Ytdhgojeanebhoaa
