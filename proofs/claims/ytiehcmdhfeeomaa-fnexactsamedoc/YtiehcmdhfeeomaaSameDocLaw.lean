/- Proved: at every two documents the law FnExactSameDoc returns true, and its arguments read afterwards as they read before. No conditions beyond the row's own. -/
import Derived.Test.YtiehcmdhfeeomaaDocSameSpec
import Derived.Test.YtiehcmdhfeeomaaDocSzTwo
import Derived.Test.YtiehcmdhfeeomaaDocToTwo
import Derived.Test.YtiehcmdhfeeomaaDocEq
import Derived.WalkKit
import Derived.ProofKit
import Derived.OpenShut
import Derived.ShutString
import Derived.ChangeOld
import Derived.Below
import Derived.Lib.SmallJoins
namespace Go.Proofs.Ytiehcmdhfeeomaa.fnExactSameDoc
open Go.ChangeShapes Go.WideShapes Go.ChangeAt Go.RowKit
open Go.ChangeMaps (open_string shut_string)
set_option linter.unusedVariables false

theorem own : ownKnob Try.prog.godebug = none := by kernel_rfl
theorem laidOut : laidOutB Try.prog = true := by kernel_rfl

set_option maxHeartbeats 4000000 in
set_option maxRecDepth 40000 in
theorem walk (a b : Option Addr) (c d : Nat) (l l' : List De) (w : World) (hr : DeRow 0 w.heap.size w a l) (hr' : DeRow 0 w.heap.size w b l') (hb : DefsBd maxLen l) (hb' : DefsBd maxLen l') :
    Calls Try.prog 3 #[.agg #[.slice a l.length c], .agg #[.slice b l'.length d]] w fun e w' => e = .returned (.bool true) ∧ Below w.heap.size w w' := by
  have B0 : Hid (Below w.heap.size w ((w.alloc (.cells #[.slice a l.length c] 24)).alloc (.cells #[.slice b l'.length d] 24))) := ((Below.refl _ _).alloc (Nat.le_refl _) _).alloc (by simp) _
  have K0 : Hid (∀ W0, Below w.heap.size w W0 → DeRow 0 W0.heap.size W0 a l ∧ DeRow 0 W0.heap.size W0 b l') := fun W0 hB => ⟨DeRow.up hr hB, DeRow.up hr' hB⟩
  have HD : Hid (DefsBd maxLen l) := hb
  have HD' : Hid (DefsBd maxLen l') := hb'
  have c0 : ((w.alloc (.cells #[.slice a l.length c] 24)).alloc (.cells #[.slice b l'.length d] 24)).cell? ⟨w.heap.size, 0, none⟩ = some (.slice a l.length c) := by simp
  have e0 : ((w.alloc (.cells #[.slice a l.length c] 24)).alloc (.cells #[.slice b l'.length d] 24)).cell? ⟨w.heap.size + 1, 0, none⟩ = some (.slice b l'.length d) := by simp
  have z0 : w.heap.size + 2 ≤ ((w.alloc (.cells #[.slice a l.length c] 24)).alloc (.cells #[.slice b l'.length d] 24)).heap.size := by simp
  clear hr hr' hb hb'
  go_enter Try.func3, Try.ntmps3
  go_wp2_with fail
  generalize (w.alloc (.cells #[.slice a l.length c] 24)).alloc (.cells #[.slice b l'.length d] 24) = w0 at *
  refine (sz_doc a c l 1048576 _ (K0.out _ B0.out).1 HD.out (by omega) (by omega)).mono ?_
  rintro e w1 ⟨m, rfl, hm, hb1⟩
  have HM : Hid (Sz 1048576 m (DefsBd 1048576 l)) := hm
  have hm1 := hm.1
  clear hm
  have z1 : w.heap.size + 2 ≤ w1.heap.size := by have := hb1.size; omega
  have q1 : Hid (Below w.heap.size w w1) := B0.out.trans (hb1.mono (by omega))
  have c1 : w1.cell? ⟨w.heap.size, 0, none⟩ = some (.slice a l.length c) := (hb1.cell (p := ⟨w.heap.size, 0, none⟩) (show w.heap.size < w0.heap.size by omega)).trans c0
  have e1 : w1.cell? ⟨w.heap.size + 1, 0, none⟩ = some (.slice b l'.length d) := (hb1.cell (p := ⟨w.heap.size + 1, 0, none⟩) (show w.heap.size + 1 < w0.heap.size by omega)).trans e0
  clear hb1 c0 e0 z0
  by_cases hneg : m < 0
  · go_wp2_with fail
    go_ret
    exact ⟨rfl, q1.out⟩
  have HE : Hid (DefsBd 1048576 l) := HM.out.2.2 (by omega)
  clear HM
  go_wp2_with fail
  refine (sz_doc b d l' m _ (K0.out _ q1.out).2 HD'.out (by omega) (by omega)).mono ?_
  rintro e w2 ⟨m', rfl, hm', hb2⟩
  have HM : Hid (Sz m m' (DefsBd 1048576 l')) := hm'
  clear hm'
  have z2 : w.heap.size + 2 ≤ w2.heap.size := by have := hb2.size; omega
  have q2 : Hid (Below w.heap.size w w2) := q1.out.trans (hb2.mono (by omega))
  have c2 : w2.cell? ⟨w.heap.size, 0, none⟩ = some (.slice a l.length c) := (hb2.cell (p := ⟨w.heap.size, 0, none⟩) (show w.heap.size < w1.heap.size by omega)).trans c1
  have e2 : w2.cell? ⟨w.heap.size + 1, 0, none⟩ = some (.slice b l'.length d) := (hb2.cell (p := ⟨w.heap.size + 1, 0, none⟩) (show w.heap.size + 1 < w1.heap.size by omega)).trans e1
  clear hb2 c1 e1 z1
  by_cases hneg' : m' < 0
  · go_wp2_with fail
    go_ret
    exact ⟨rfl, q2.out⟩
  have HE' : Hid (DefsBd 1048576 l') := HM.out.2.2 (by omega)
  clear HM
  go_wp2_with fail
  go_region_with (first
    | (go_at_call_of 8 l
       refine Calls.mono (to_doc a c l _ (K0.out _ ?hb).1 HE.out) ?_
       case hb => exact q2.out.drew
       rintro e w3 ⟨a3, d3, rfl, r3, hb3⟩
       have R3 : Hid (∀ W0, Below w3.heap.size w3 W0 → DeRow 0 W0.heap.size W0 a3 l) := fun W0 hB => DeRow.up (DeRow.wide r3 (Nat.zero_le _) (Nat.le_refl _)) hB
       have z3 : w.heap.size + 2 ≤ w3.heap.size := by have := hb3.size; have : w2.drew.heap.size = w2.heap.size := rfl; omega
       have q3 : Hid (Below w.heap.size w w3) := q2.out.drew.trans (hb3.mono (by have : w2.drew.heap.size = w2.heap.size := rfl; omega))
       have c3 : w3.cell? ⟨w.heap.size, 0, none⟩ = some (.slice a l.length c) := (hb3.cell (p := ⟨w.heap.size, 0, none⟩) (show w.heap.size < w2.heap.size by omega)).trans c2
       have e3 : w3.cell? ⟨w.heap.size + 1, 0, none⟩ = some (.slice b l'.length d) := (hb3.cell (p := ⟨w.heap.size + 1, 0, none⟩) (show w.heap.size + 1 < w2.heap.size by omega)).trans e2
       clear r3)
    | (go_at_call_of 8 l'
       refine Calls.mono (to_doc b d l' _ (K0.out _ ?hb).2 HE'.out) ?_
       case hb => exact q3.out
       rintro e w4 ⟨a4, d4, rfl, r4, hb4⟩
       have R4 : Hid (∀ W0, Below w4.heap.size w4 W0 → DeRow 0 W0.heap.size W0 a4 l') := fun W0 hB => DeRow.up (DeRow.wide r4 (Nat.zero_le _) (Nat.le_refl _)) hB
       have z4 : w.heap.size + 2 ≤ w4.heap.size := by have := hb4.size; omega
       have q4 : Hid (Below w.heap.size w w4) := q3.out.trans (hb4.mono (by omega))
       have c4 : w4.cell? ⟨w.heap.size, 0, none⟩ = some (.slice a l.length c) := (hb4.cell (p := ⟨w.heap.size, 0, none⟩) (show w.heap.size < w3.heap.size by omega)).trans c3
       have e4 : w4.cell? ⟨w.heap.size + 1, 0, none⟩ = some (.slice b l'.length d) := (hb4.cell (p := ⟨w.heap.size + 1, 0, none⟩) (show w.heap.size + 1 < w3.heap.size by omega)).trans e3
       clear r4)
    | (go_at_call 7
       refine Calls.mono (spec_same a3 a4 d3 d4 l l' _ (R3.out _ hb4) (R4.out _ (Below.refl _ _)) HE.out HE'.out) ?_
       rintro e w5 ⟨⟨bs, rfl, hbs⟩, hb5⟩
       have HBS : Hid _ := hbs
       have z5 : w.heap.size + 2 ≤ w5.heap.size := by have := hb5.size; omega
       have q5 : Hid (Below w.heap.size w w5) := q4.out.trans (hb5.mono (by omega))
       have c5 : w5.cell? ⟨w.heap.size, 0, none⟩ = some (.slice a l.length c) := (hb5.cell (p := ⟨w.heap.size, 0, none⟩) (show w.heap.size < w4.heap.size by omega)).trans c4
       have e5 : w5.cell? ⟨w.heap.size + 1, 0, none⟩ = some (.slice b l'.length d) := (hb5.cell (p := ⟨w.heap.size + 1, 0, none⟩) (show w.heap.size + 1 < w4.heap.size by omega)).trans e4
       clear hbs))
  all_goals
    clear R3 R4 hb3 hb4 hb5 c2 c3 c4 e2 e3 e4
    go_wp2_with fail
    refine (to_doc a c l _ (K0.out _ q5.out).1 HE.out).mono ?_
    rintro e w6 ⟨a6, d6, rfl, r6, hb6⟩
    have R6 : Hid (∀ W0, Below w6.heap.size w6 W0 → DeRow 0 W0.heap.size W0 a6 l) := fun W0 hB => DeRow.up (DeRow.wide r6 (Nat.zero_le _) (Nat.le_refl _)) hB
    have z6 : w.heap.size + 2 ≤ w6.heap.size := by have := hb6.size; omega
    have q6 : Hid (Below w.heap.size w w6) := q5.out.trans (hb6.mono (by omega))
    have c6 : w6.cell? ⟨w.heap.size, 0, none⟩ = some (.slice a l.length c) := (hb6.cell (p := ⟨w.heap.size, 0, none⟩) (show w.heap.size < w5.heap.size by omega)).trans c5
    have e6 : w6.cell? ⟨w.heap.size + 1, 0, none⟩ = some (.slice b l'.length d) := (hb6.cell (p := ⟨w.heap.size + 1, 0, none⟩) (show w.heap.size + 1 < w5.heap.size by omega)).trans e5
    clear hb6 r6 c5 e5
    have zz6 : w.heap.size < w6.heap.size := by omega
    have zy6 : w.heap.size + 1 < w6.heap.size := by omega
    go_wp2_with fail
    have S6 : Hid (Below w.heap.size w (w6.alloc (.cells #[.slice a6 l.length d6] 29))) := q6.out.alloc (by omega) _
    refine (to_doc b d l' _ (K0.out _ S6.out).2 HE'.out).mono ?_
    rintro e w7 ⟨a7, d7, rfl, r7, hb7⟩
    have R7 : Hid (∀ W0, Below w7.heap.size w7 W0 → DeRow 0 W0.heap.size W0 a7 l') := fun W0 hB => DeRow.up (DeRow.wide r7 (Nat.zero_le _) (Nat.le_refl _)) hB
    have z7 : w6.heap.size + 1 ≤ w7.heap.size := size_one hb7
    have p7 : Hid (Below w6.heap.size w6 w7) := below_one hb7
    have x7 : w7.cell? ⟨w6.heap.size, 0, none⟩ = some (.slice a6 l.length d6) := (hb7.cell (p := ⟨w6.heap.size, 0, none⟩) (by simp)).trans (row_cell (heap_alloc_new _ _) 0)
    have c7 : w7.cell? ⟨w.heap.size, 0, none⟩ = some (.slice a l.length c) := (p7.out.cell (p := ⟨w.heap.size, 0, none⟩) zz6).trans c6
    have e7 : w7.cell? ⟨w.heap.size + 1, 0, none⟩ = some (.slice b l'.length d) := (p7.out.cell (p := ⟨w.heap.size + 1, 0, none⟩) zy6).trans e6
    have q7 : Hid (Below w.heap.size w w7) := q6.out.trans (p7.out.mono (by omega))
    clear hb7 r7 c6 e6
    have zz7 : w6.heap.size < w7.heap.size := by omega
    go_wp2_with fail
    have S7 : Hid (Below w7.heap.size w7 (w7.alloc (.cells #[.slice a7 l'.length d7] 29))) := (Below.refl _ _).alloc (Nat.le_refl _) _
    refine (impl_same a6 a7 d6 d7 l l' _ (R6.out _ (p7.out.trans (S7.out.mono (by omega)))) (R7.out _ S7.out) HE.out HE'.out).mono ?_
    rintro e w8 ⟨⟨bi, rfl, hbi⟩, hb8⟩
    obtain rfl : bs = bi := Bl.one HBS.out hbi
    have z8 : w7.heap.size + 1 ≤ w8.heap.size := size_one hb8
    have p8 : Hid (Below w7.heap.size w7 w8) := below_one hb8
    have y8 : w8.cell? ⟨w7.heap.size, 0, none⟩ = some (.slice a7 l'.length d7) := (hb8.cell (p := ⟨w7.heap.size, 0, none⟩) (by simp)).trans (row_cell (heap_alloc_new _ _) 0)
    have x8 : w8.cell? ⟨w6.heap.size, 0, none⟩ = some (.slice a6 l.length d6) := (p8.out.cell (p := ⟨w6.heap.size, 0, none⟩) zz7).trans x7
    have c8 : w8.cell? ⟨w.heap.size, 0, none⟩ = some (.slice a l.length c) := (p8.out.cell (p := ⟨w.heap.size, 0, none⟩) (show w.heap.size < w7.heap.size by omega)).trans c7
    have e8 : w8.cell? ⟨w.heap.size + 1, 0, none⟩ = some (.slice b l'.length d) := (p8.out.cell (p := ⟨w.heap.size + 1, 0, none⟩) (show w.heap.size + 1 < w7.heap.size by omega)).trans e7
    have q8 : Hid (Below w.heap.size w w8) := q7.out.trans (p8.out.mono (by omega))
    have t8 : Hid (Below w6.heap.size w6 w8) := p7.out.trans (p8.out.mono (by omega))
    clear hb8 hbi x7 c7 e7
    go_wp2_with fail
    go_region_with (first
      | (go_at_call 8
         refine Calls.mono (to_doc a c l _ (K0.out _ ?hb).1 HE.out) ?_
         case hb => exact q8.out.drew
         rintro e w9 ⟨a9, d9, rfl, r9, hb9⟩
         have R9 : Hid (DeRow 0 w9.heap.size w9 a9 l) := DeRow.wide r9 (Nat.zero_le _) (Nat.le_refl _)
         have z9 : w8.heap.size ≤ w9.heap.size := hb9.size
         have x9 : w9.cell? ⟨w6.heap.size, 0, none⟩ = some (.slice a6 l.length d6) := (hb9.cell (p := ⟨w6.heap.size, 0, none⟩) (show w6.heap.size < w8.heap.size by omega)).trans x8
         have y9 : w9.cell? ⟨w7.heap.size, 0, none⟩ = some (.slice a7 l'.length d7) := (hb9.cell (p := ⟨w7.heap.size, 0, none⟩) (show w7.heap.size < w8.heap.size by omega)).trans y8
         have e9 : w9.cell? ⟨w.heap.size + 1, 0, none⟩ = some (.slice b l'.length d) := (hb9.cell (p := ⟨w.heap.size + 1, 0, none⟩) (show w.heap.size + 1 < w8.heap.size by omega)).trans e8
         have t9 : Hid (Below w8.heap.size w8 w9) := (Below.refl _ _).drew.trans hb9
         clear r9 hb9)
      | (go_at_call 10
         refine Calls.mono (eq_doc a6 a9 d6 d9 l _ (R6.out _ (t8.out.trans (t9.out.mono (by omega)))) R9.out HE.out) ?_
         rintro e wa ⟨rfl, hba⟩
         have za : w8.heap.size ≤ wa.heap.size := by have := hba.size; omega
         have ta : Hid (Below w8.heap.size w8 wa) := t9.out.trans (hba.mono z9)
         have ya : wa.cell? ⟨w7.heap.size, 0, none⟩ = some (.slice a7 l'.length d7) := (hba.cell (p := ⟨w7.heap.size, 0, none⟩) (show w7.heap.size < w9.heap.size by omega)).trans y9
         have ea : wa.cell? ⟨w.heap.size + 1, 0, none⟩ = some (.slice b l'.length d) := (hba.cell (p := ⟨w.heap.size + 1, 0, none⟩) (show w.heap.size + 1 < w9.heap.size by omega)).trans e9
         clear hba))
    all_goals
      clear x8 x9 y8 y9 e8 e9 c8 R9
      go_wp2_with fail
      go_region_with (first
        | (go_at_call 8
           refine Calls.mono (to_doc b d l' _ (K0.out _ ?hb).2 HE'.out) ?_
           case hb => exact (q8.out.trans (ta.out.mono (by omega))).drew
           rintro e wb ⟨ab, db, rfl, rb, hbb⟩
           have RB : Hid (DeRow 0 wb.heap.size wb ab l') := DeRow.wide rb (Nat.zero_le _) (Nat.le_refl _)
           have zb : wa.heap.size ≤ wb.heap.size := hbb.size
           have yb : wb.cell? ⟨w7.heap.size, 0, none⟩ = some (.slice a7 l'.length d7) := (hbb.cell (p := ⟨w7.heap.size, 0, none⟩) (show w7.heap.size < wa.heap.size by omega)).trans ya
           have tb : Hid (Below w8.heap.size w8 wb) := ta.out.drew.trans (hbb.mono za)
           clear rb hbb)
        | (go_at_call 10
           refine Calls.mono (eq_doc a7 ab d7 db l' _ (R7.out _ (p8.out.trans (tb.out.mono (by omega)))) RB.out HE'.out) ?_
           rintro e wc ⟨rfl, hbc⟩
           have tc : Hid (Below w8.heap.size w8 wc) := tb.out.trans (hbc.mono (by have := tb.out.size; omega))
           clear hbc))
      all_goals
        go_wp2_with fail
        go_ret
        exact ⟨rfl, q8.out.trans (tc.out.mono (by omega))⟩

set_option maxRecDepth 100000 in
theorem lifted (os : Os) (started : os.Started) (H : Type) (enc : TypeId × Value → H) :
    ReturnsInHanded {} Try.checked os 3 .any (Rows.fnExactSameDocSpec.pre6 enc Try.prog Try.f3 Rows.fnExactSameDocRow.domain false) (Rows.fnExactSameDocSpec.post enc Try.prog Try.f3 false true false false) := by
  refine returnsInHanded_of_change (C := Try.checked) own started (by kernel_rfl) Try.func3
    (ChangeSpec.witness6 (enc := enc) (C := Try.checked) false ⟨#[], #[.agg #[.slice none 0 0], .agg #[.slice none 0 0]], []⟩ 8 (by kernel_rfl) (by kernel_rfl) (by kernel_rfl) (by kernel_rfl)) ?_
  intro W base args ds gs before hval0 hW hcnd _
  have hval : ∀ (j : Nat) t v, Try.f3.params[j]? = some t → args[j]? = some v → Value.okWide Try.prog W .any base t v := hval0
  have hW' := hW
  obtain ⟨p, q, hA0, hV, rfl, hfz, hnd⟩ := hW
  have hA : DataW.TrodAll enc Try.prog W 0 (fun _ => true) true Try.f3.params.toList args.toList ds p := hA0
  rw [Try.params3] at hA hval
  obtain ⟨v0, vs0, d0, ds0, p0, q0, hargs, rfl, rfl, h0, r0⟩ := trodAll_cons hA
  obtain ⟨v1, vs1, d1, ds1, p1, q1, rfl, rfl, rfl, h1, r1⟩ := trodAll_cons r0
  obtain ⟨rfl, rfl, rfl⟩ := trodAll_nil r1
  obtain rfl : args = #[v0, v1] := by cases args; simp_all
  obtain ⟨rfl, rfl⟩ := trodVars_none hV
  have g0 := h0
  have lt0 : ∀ x ∈ p0, x.block < W.heap.size := by obtain ⟨m, hm⟩ := g0; exact DataW.trod_lt m _ _ _ hm
  obtain ⟨a0, c0, l0, rfl, hb0, hr0⟩ : ∃ a c, ∃ l : List De, v0 = .agg #[.slice a l.length c] ∧ DefsBd maxLen l ∧ DeRow 0 W.heap.size W a l := by
    obtain ⟨cs, rfl, hsz⟩ := okWide_struct Try.underlying24 (hval 0 24 v0 rfl rfl)
    obtain ⟨fuel, hf⟩ := h0
    obtain ⟨y0, n, hx, hlen, h1⟩ := trod_struct1 Try.underlying24 hf
    have cd : Try.prog.cellsOf 24 = 1 := by kernel_rfl
    have c1 : Try.prog.cellsOf 22 = 1 := by kernel_rfl
    obtain ⟨u⟩ := cs
    have hu : u.length = 1 := by rw [cd] at hsz; simpa using hsz
    obtain ⟨q, rfl⟩ : ∃ q, u = [q] := List.length_eq_one_iff.1 hu
    obtain ⟨a, c, l, e, hb, hr⟩ := defs_open (by simpa [Value.cells, c1] using h1)
    simp only [List.cons.injEq, and_true] at e
    subst e
    exact ⟨a, c, l, rfl, hb, hr⟩
  have g1 := h1
  have lt1 : ∀ x ∈ p1, x.block < W.heap.size := by obtain ⟨m, hm⟩ := g1; exact DataW.trod_lt m _ _ _ hm
  obtain ⟨a1, c1, l1, rfl, hb1, hr1⟩ : ∃ a c, ∃ l : List De, v1 = .agg #[.slice a l.length c] ∧ DefsBd maxLen l ∧ DeRow 0 W.heap.size W a l := by
    obtain ⟨cs, rfl, hsz⟩ := okWide_struct Try.underlying24 (hval 1 24 v1 rfl rfl)
    obtain ⟨fuel, hf⟩ := h1
    obtain ⟨y0, n, hx, hlen, h1⟩ := trod_struct1 Try.underlying24 hf
    have cd : Try.prog.cellsOf 24 = 1 := by kernel_rfl
    have c1 : Try.prog.cellsOf 22 = 1 := by kernel_rfl
    obtain ⟨u⟩ := cs
    have hu : u.length = 1 := by rw [cd] at hsz; simpa using hsz
    obtain ⟨q, rfl⟩ : ∃ q, u = [q] := List.length_eq_one_iff.1 hu
    obtain ⟨a, c, l, e, hb, hr⟩ := defs_open (by simpa [Value.cells, c1] using h1)
    simp only [List.cons.injEq, and_true] at e
    subst e
    exact ⟨a, c, l, rfl, hb, hr⟩
  clear hA0 hval0
  refine (walk a0 a1 c0 c1 l0 l1 W hr0 hr1 hb0 hb1).mono fun e W' ⟨he, bel⟩ => ?_
  subst he
  exact ⟨_, rfl, _, _, _, [], _, [], hW', trodAll_mk1 (shut_bool Try.underlying4 _), (trodAll_cons_mk (Below.trod laidOut (by kernel_rfl) (of_decide_eq_true (by kernel_rfl)) g0 bel lt0) (trodAll_cons_mk (Below.trod laidOut (by kernel_rfl) (of_decide_eq_true (by kernel_rfl)) g1 bel lt1) trodAll_mk0)), rfl, bel.frame _, fun h => by cases h⟩

theorem over : Rows.fnExactSameDocRow.holds Try.pinned (OpenSpec.ofChange Rows.fnExactSameDocSpec) :=
  OpenClaim.holds_of_wide 3 Try.f3 rfl rfl rfl rfl rfl rfl rfl ⟨rfl, rfl, rfl, rfl, rfl⟩ rfl rfl rfl rfl rfl (by kernel_rfl) Try.func3 (by kernel_rfl)
    (of_decide_eq_true (by kernel_rfl)) (by unfold Func.isWrapper; first | (rw [if_pos (by decide +kernel)]; kernel_rfl) | (rw [if_neg (by decide +kernel)]; exact ⟨rfl, rfl⟩))
    (fun os started H enc _ => lifted os started H enc)
end Go.Proofs.Ytiehcmdhfeeomaa.fnExactSameDoc
namespace Go.Proofs.Ytiehcmdhfeeomaa
theorem sameDoc_holds : Rows.FnExactSameDocSaid := fnExactSameDoc.over
#print axioms sameDoc_holds
end Go.Proofs.Ytiehcmdhfeeomaa
