/- Proved: at every two requests the law FnExactSameRequest returns true, and its arguments read afterwards as they read before. No conditions beyond the row's own. -/
import Derived.Test.YtiehcmdhfeeomaaRqSame
import Derived.WalkKit
import Derived.ProofKit
import Derived.OpenShut
import Derived.ShutString
import Derived.ChangeOld
import Derived.Below
import Derived.Lib.SmallJoins
namespace Go.Proofs.Ytiehcmdhfeeomaa.fnExactSameRequest
open Go.ChangeShapes Go.WideShapes Go.ChangeAt Go.RowKit
open Go.ChangeMaps (open_string shut_string)
set_option linter.unusedVariables false

theorem own : ownKnob Try.prog.godebug = none := by kernel_rfl
theorem laidOut : laidOutB Try.prog = true := by kernel_rfl

set_option maxHeartbeats 8000000 in
set_option maxRecDepth 40000 in
theorem walk (a b a' b' : Option Addr) (c d c' d' : Nat) (l l' : List De) (v v' : List Ar) (w : World) (hr : DeRow 0 w.heap.size w a l) (hv : ArRow 0 w.heap.size w b v) (hb : DefsBd maxLen l) (hl : v.length ≤ maxLen) (ht : ∀ x ∈ v, ArBd maxLen x)
    (hr' : DeRow 0 w.heap.size w a' l') (hv' : ArRow 0 w.heap.size w b' v') (hb' : DefsBd maxLen l') (hl' : v'.length ≤ maxLen) (ht' : ∀ x ∈ v', ArBd maxLen x) :
    Calls Try.prog 4 #[.agg #[.slice a l.length c, .slice b v.length d], .agg #[.slice a' l'.length c', .slice b' v'.length d']] w fun e w' => e = .returned (.bool true) ∧ Below w.heap.size w w' := by
  have K0 : Hid (∀ W0, Below w.heap.size w W0 → DeRow 0 W0.heap.size W0 a l ∧ DeRow 0 W0.heap.size W0 a' l' ∧ ArRow 0 W0.heap.size W0 b v ∧ ArRow 0 W0.heap.size W0 b' v') := fun W0 hB => ⟨DeRow.up hr hB, DeRow.up hr' hB, Row.up hv hB, Row.up hv' hB⟩
  have HD : Hid (DefsBd maxLen l ∧ v.length ≤ maxLen ∧ ∀ x ∈ v, ArBd maxLen x) := ⟨hb, hl, ht⟩
  have HD' : Hid (DefsBd maxLen l' ∧ v'.length ≤ maxLen ∧ ∀ x ∈ v', ArBd maxLen x) := ⟨hb', hl', ht'⟩
  obtain ⟨w0, hw0⟩ : ∃ V, V = (w.alloc (.cells #[.slice a l.length c, .slice b v.length d] 34)).alloc (.cells #[.slice a' l'.length c', .slice b' v'.length d'] 34) := ⟨_, rfl⟩
  have B0 : Hid (Below w.heap.size w w0) := by rw [Hid, hw0]; exact ((Below.refl _ _).alloc (Nat.le_refl _) _).alloc (by simp) _
  have z0 : w.heap.size + 2 ≤ w0.heap.size := by rw [hw0]; simp
  have X0 : w0.heap[w.heap.size]? = some (.cells #[.slice a l.length c, .slice b v.length d] 34 (0, 0)) := by
    rw [hw0, Below.heap_alloc _ _ _ (by simp)]; exact heap_alloc_new _ _
  have Y0 : w0.heap[w.heap.size + 1]? = some (.cells #[.slice a' l'.length c', .slice b' v'.length d'] 34 (0, 0)) := by
    rw [hw0]
    have := heap_alloc_new (w.alloc (.cells #[.slice a l.length c, .slice b v.length d] 34)) (.cells #[.slice a' l'.length c', .slice b' v'.length d'] 34)
    simpa using this
  have c0 := fun o => row_cell X0 o
  have e0 := fun o => row_cell Y0 o
  clear hr hr' hb hb' hv hv' hl hl' ht ht' X0 Y0
  go_enter Try.func4, Try.ntmps4
  go_wp2_with fail
  rw [← hw0]
  clear hw0
  refine (sz_req a b c d l v 1048576 _ (K0.out _ B0.out).1 (K0.out _ B0.out).2.2.1 HD.out.1 HD.out.2.1 HD.out.2.2 (by omega) (by omega)).mono ?_
  rintro e w1 ⟨m, rfl, hm, hb1⟩
  have HM : Hid (Sz 1048576 m (RqBd 1048576 l v)) := hm
  have hm1 := hm.1
  clear hm
  have z1 : w.heap.size + 2 ≤ w1.heap.size := by have := hb1.size; omega
  have q1 : Hid (Below w.heap.size w w1) := B0.out.trans (hb1.mono (by omega))
  have c1 := fun o => (hb1.cell (p := ⟨w.heap.size, o, none⟩) (show w.heap.size < w0.heap.size by omega)).trans (c0 o)
  have e1 := fun o => (hb1.cell (p := ⟨w.heap.size + 1, o, none⟩) (show w.heap.size + 1 < w0.heap.size by omega)).trans (e0 o)
  clear hb1 c0 e0 z0
  by_cases hneg : m < 0
  · go_wp2_with fail
    go_ret
    exact ⟨rfl, q1.out⟩
  have HE : Hid (RqBd 1048576 l v) := HM.out.2.2 (by omega)
  clear HM
  go_wp2_with fail
  refine (sz_req a' b' c' d' l' v' m _ (K0.out _ q1.out).2.1 (K0.out _ q1.out).2.2.2 HD'.out.1 HD'.out.2.1 HD'.out.2.2 (by omega) (by omega)).mono ?_
  rintro e w2 ⟨m', rfl, hm', hb2⟩
  have HM : Hid (Sz m m' (RqBd 1048576 l' v')) := hm'
  clear hm'
  have z2 : w.heap.size + 2 ≤ w2.heap.size := by have := hb2.size; omega
  have q2 : Hid (Below w.heap.size w w2) := q1.out.trans (hb2.mono (by omega))
  have cc2 := fun o => (hb2.cell (p := ⟨w.heap.size, o, none⟩) (show w.heap.size < w1.heap.size by omega)).trans (c1 o)
  have e2 := fun o => (hb2.cell (p := ⟨w.heap.size + 1, o, none⟩) (show w.heap.size + 1 < w1.heap.size by omega)).trans (e1 o)
  clear hb2 c1 e1 z1
  by_cases hneg' : m' < 0
  · go_wp2_with fail
    go_ret
    exact ⟨rfl, q2.out⟩
  have HE' : Hid (RqBd 1048576 l' v') := HM.out.2.2 (by omega)
  clear HM
  go_wp2_with fail
  go_region_with (first
    | (go_at_call_of 13 l
       refine Calls.mono (to_req a b c d l v _ (K0.out _ ?hb).1 (K0.out _ ?hb).2.2.1 HE.out) ?_
       case hb => exact q2.out.drew
       rintro e w3 ⟨a3, c3, b3, d3, rfl, r3, s3, hb3⟩
       have R3 : Hid (∀ W0, Below w3.heap.size w3 W0 → DeRow 0 W0.heap.size W0 a3 l ∧ ArRow 0 W0.heap.size W0 b3 v) := fun W0 hB => ⟨DeRow.up (DeRow.wide r3 (Nat.zero_le _) (Nat.le_refl _)) hB, Row.up (Row.wide s3 (Nat.zero_le _) (Nat.le_refl _)) hB⟩
       have z3 : w.heap.size + 2 ≤ w3.heap.size := by have := hb3.size; have : w2.drew.heap.size = w2.heap.size := rfl; omega
       have q3 : Hid (Below w.heap.size w w3) := q2.out.drew.trans (hb3.mono (by have : w2.drew.heap.size = w2.heap.size := rfl; omega))
       have cc3 := fun o => (hb3.cell (p := ⟨w.heap.size, o, none⟩) (show w.heap.size < w2.heap.size by omega)).trans (cc2 o)
       have e3 := fun o => (hb3.cell (p := ⟨w.heap.size + 1, o, none⟩) (show w.heap.size + 1 < w2.heap.size by omega)).trans (e2 o)
       clear r3 s3)
    | (go_at_call_of 13 l'
       refine Calls.mono (to_req a' b' c' d' l' v' _ (K0.out _ ?hb).2.1 (K0.out _ ?hb).2.2.2 HE'.out) ?_
       case hb => exact q3.out
       rintro e w4 ⟨a4, c4, b4, d4, rfl, r4, s4, hb4⟩
       have R4 : Hid (∀ W0, Below w4.heap.size w4 W0 → DeRow 0 W0.heap.size W0 a4 l' ∧ ArRow 0 W0.heap.size W0 b4 v') := fun W0 hB => ⟨DeRow.up (DeRow.wide r4 (Nat.zero_le _) (Nat.le_refl _)) hB, Row.up (Row.wide s4 (Nat.zero_le _) (Nat.le_refl _)) hB⟩
       have z4 : w.heap.size + 2 ≤ w4.heap.size := by have := hb4.size; omega
       have q4 : Hid (Below w.heap.size w w4) := q3.out.trans (hb4.mono (by omega))
       have cc4 := fun o => (hb4.cell (p := ⟨w.heap.size, o, none⟩) (show w.heap.size < w3.heap.size by omega)).trans (cc3 o)
       have e4 := fun o => (hb4.cell (p := ⟨w.heap.size + 1, o, none⟩) (show w.heap.size + 1 < w3.heap.size by omega)).trans (e3 o)
       clear r4 s4)
    | (go_at_call 12
       refine Calls.mono (spec_sameReq a3 a4 b3 b4 c3 c4 d3 d4 l l' v v' _ (R3.out _ hb4).1 (R4.out _ (Below.refl _ _)).1 (R3.out _ hb4).2 (R4.out _ (Below.refl _ _)).2 HE.out HE'.out) ?_
       rintro e w5 ⟨⟨bs, rfl, hbs⟩, hb5⟩
       have HBS : Hid _ := hbs
       have z5 : w.heap.size + 2 ≤ w5.heap.size := by have := hb5.size; omega
       have q5 : Hid (Below w.heap.size w w5) := q4.out.trans (hb5.mono (by omega))
       have c5 := fun o => (hb5.cell (p := ⟨w.heap.size, o, none⟩) (show w.heap.size < w4.heap.size by omega)).trans (cc4 o)
       have e5 := fun o => (hb5.cell (p := ⟨w.heap.size + 1, o, none⟩) (show w.heap.size + 1 < w4.heap.size by omega)).trans (e4 o)
       clear hbs))
  all_goals
    clear R3 R4 hb3 hb4 hb5 cc2 cc3 cc4 e2 e3 e4
    go_wp2_with fail
    refine (to_req a b c d l v _ (K0.out _ q5.out).1 (K0.out _ q5.out).2.2.1 HE.out).mono ?_
    rintro e w6 ⟨a6, c6, b6, d6, rfl, r6, s6, hb6⟩
    have R6 : Hid (∀ W0, Below w6.heap.size w6 W0 → DeRow 0 W0.heap.size W0 a6 l ∧ ArRow 0 W0.heap.size W0 b6 v) := fun W0 hB => ⟨DeRow.up (DeRow.wide r6 (Nat.zero_le _) (Nat.le_refl _)) hB, Row.up (Row.wide s6 (Nat.zero_le _) (Nat.le_refl _)) hB⟩
    have z6 : w.heap.size + 2 ≤ w6.heap.size := by have := hb6.size; omega
    have q6 : Hid (Below w.heap.size w w6) := q5.out.trans (hb6.mono (by omega))
    have cc6 := fun o => (hb6.cell (p := ⟨w.heap.size, o, none⟩) (show w.heap.size < w5.heap.size by omega)).trans (c5 o)
    have e6 := fun o => (hb6.cell (p := ⟨w.heap.size + 1, o, none⟩) (show w.heap.size + 1 < w5.heap.size by omega)).trans (e5 o)
    clear hb6 r6 s6 c5 e5
    have zz6 : w.heap.size < w6.heap.size := by omega
    have zy6 : w.heap.size + 1 < w6.heap.size := by omega
    go_wp2_with fail
    obtain ⟨V6, hV6⟩ : ∃ V, V = w6.alloc (.cells #[.slice a6 l.length c6, .slice b6 v.length d6] 39) := ⟨_, rfl⟩
    rw [← hV6]
    have S6b : Hid (Below w6.heap.size w6 V6) := by rw [Hid, hV6]; exact (Below.refl _ _).alloc (Nat.le_refl _) _
    have S6 : Hid (Below w.heap.size w V6) := q6.out.trans (S6b.out.mono (by omega))
    have X6 : V6.heap[w6.heap.size]? = some (.cells #[.slice a6 l.length c6, .slice b6 v.length d6] 39 (0, 0)) := by rw [hV6]; exact heap_alloc_new _ _
    have zV6 : w6.heap.size + 1 ≤ V6.heap.size := by rw [hV6]; simp
    clear hV6
    refine (to_req a' b' c' d' l' v' _ (K0.out _ S6.out).2.1 (K0.out _ S6.out).2.2.2 HE'.out).mono ?_
    rintro e w7 ⟨a7, c7, b7, d7, rfl, r7, s7, hb7⟩
    have R7 : Hid (∀ W0, Below w7.heap.size w7 W0 → DeRow 0 W0.heap.size W0 a7 l' ∧ ArRow 0 W0.heap.size W0 b7 v') := fun W0 hB => ⟨DeRow.up (DeRow.wide r7 (Nat.zero_le _) (Nat.le_refl _)) hB, Row.up (Row.wide s7 (Nat.zero_le _) (Nat.le_refl _)) hB⟩
    have z7 : w6.heap.size + 1 ≤ w7.heap.size := by have := hb7.size; omega
    have p7 : Hid (Below w6.heap.size w6 w7) := S6b.out.trans (hb7.mono (by omega))
    have x7 := fun o => row_cell ((hb7.block w6.heap.size (by omega)).trans X6) o
    have c7x := fun o => (p7.out.cell (p := ⟨w.heap.size, o, none⟩) zz6).trans (cc6 o)
    have e7 := fun o => (p7.out.cell (p := ⟨w.heap.size + 1, o, none⟩) zy6).trans (e6 o)
    have q7 : Hid (Below w.heap.size w w7) := q6.out.trans (p7.out.mono (by omega))
    clear hb7 r7 s7 cc6 e6 X6 zV6 S6 S6b
    have zz7 : w6.heap.size < w7.heap.size := by omega
    go_wp2_with fail
    obtain ⟨V7, hV7⟩ : ∃ V, V = w7.alloc (.cells #[.slice a7 l'.length c7, .slice b7 v'.length d7] 39) := ⟨_, rfl⟩
    rw [← hV7]
    have S7 : Hid (Below w7.heap.size w7 V7) := by rw [Hid, hV7]; exact (Below.refl _ _).alloc (Nat.le_refl _) _
    have Y7 : V7.heap[w7.heap.size]? = some (.cells #[.slice a7 l'.length c7, .slice b7 v'.length d7] 39 (0, 0)) := by rw [hV7]; exact heap_alloc_new _ _
    have zV7 : w7.heap.size + 1 ≤ V7.heap.size := by rw [hV7]; simp
    clear hV7
    refine (impl_sameReq a6 a7 b6 b7 c6 c7 d6 d7 l l' v v' _ (R6.out _ (p7.out.trans (S7.out.mono (by omega)))).1 (R7.out _ S7.out).1 (R6.out _ (p7.out.trans (S7.out.mono (by omega)))).2 (R7.out _ S7.out).2 HE.out HE'.out).mono ?_
    rintro e w8 ⟨⟨bi, rfl, hbi⟩, hb8⟩
    obtain rfl : bs = bi := Bl.one HBS.out hbi
    have z8 : w7.heap.size + 1 ≤ w8.heap.size := by have := hb8.size; omega
    have p8 : Hid (Below w7.heap.size w7 w8) := S7.out.trans (hb8.mono (by omega))
    have y8 := fun o => row_cell ((hb8.block w7.heap.size (by omega)).trans Y7) o
    have x8 := fun o => (p8.out.cell (p := ⟨w6.heap.size, o, none⟩) zz7).trans (x7 o)
    have c8 := fun o => (p8.out.cell (p := ⟨w.heap.size, o, none⟩) (show w.heap.size < w7.heap.size by omega)).trans (c7x o)
    have e8 := fun o => (p8.out.cell (p := ⟨w.heap.size + 1, o, none⟩) (show w.heap.size + 1 < w7.heap.size by omega)).trans (e7 o)
    have q8 : Hid (Below w.heap.size w w8) := q7.out.trans (p8.out.mono (by omega))
    have t8 : Hid (Below w6.heap.size w6 w8) := p7.out.trans (p8.out.mono (by omega))
    clear hb8 hbi x7 c7x e7 Y7 zV7 S7
    go_wp2_with fail
    go_region_with (first
      | (go_at_call 13
         refine Calls.mono (to_req a b c d l v _ (K0.out _ ?hb).1 (K0.out _ ?hb).2.2.1 HE.out) ?_
         case hb => exact q8.out.drew
         rintro e w9 ⟨a9, c9, b9, d9, rfl, r9, s9, hb9⟩
         have R9 : Hid (DeRow 0 w9.heap.size w9 a9 l ∧ ArRow 0 w9.heap.size w9 b9 v) := ⟨DeRow.wide r9 (Nat.zero_le _) (Nat.le_refl _), Row.wide s9 (Nat.zero_le _) (Nat.le_refl _)⟩
         have z9 : w8.heap.size ≤ w9.heap.size := hb9.size
         have x9 := fun o => (hb9.cell (p := ⟨w6.heap.size, o, none⟩) (show w6.heap.size < w8.heap.size by omega)).trans (x8 o)
         have y9 := fun o => (hb9.cell (p := ⟨w7.heap.size, o, none⟩) (show w7.heap.size < w8.heap.size by omega)).trans (y8 o)
         have e9 := fun o => (hb9.cell (p := ⟨w.heap.size + 1, o, none⟩) (show w.heap.size + 1 < w8.heap.size by omega)).trans (e8 o)
         have t9 : Hid (Below w8.heap.size w8 w9) := (Below.refl _ _).drew.trans hb9
         clear r9 s9 hb9)
      | (go_at_call 15
         refine Calls.mono (eq_req a6 a9 b6 b9 c6 c9 d6 d9 l v _ (R6.out _ (t8.out.trans (t9.out.mono (by omega)))).1 R9.out.1 (R6.out _ (t8.out.trans (t9.out.mono (by omega)))).2 R9.out.2 HE.out) ?_
         rintro e wa ⟨rfl, hba⟩
         have za : w8.heap.size ≤ wa.heap.size := by have := hba.size; omega
         have ta : Hid (Below w8.heap.size w8 wa) := t9.out.trans (hba.mono z9)
         have ya := fun o => (hba.cell (p := ⟨w7.heap.size, o, none⟩) (show w7.heap.size < w9.heap.size by omega)).trans (y9 o)
         have ea := fun o => (hba.cell (p := ⟨w.heap.size + 1, o, none⟩) (show w.heap.size + 1 < w9.heap.size by omega)).trans (e9 o)
         clear hba))
    all_goals
      clear x8 x9 y8 y9 e8 e9 c8 R9
      go_wp2_with fail
      go_region_with (first
        | (go_at_call 13
           refine Calls.mono (to_req a' b' c' d' l' v' _ (K0.out _ ?hb).2.1 (K0.out _ ?hb).2.2.2 HE'.out) ?_
           case hb => exact (q8.out.trans (ta.out.mono (by omega))).drew
           rintro e wb ⟨aB, cB, bB, dB, rfl, rb, sb, hbb⟩
           have RB : Hid (DeRow 0 wb.heap.size wb aB l' ∧ ArRow 0 wb.heap.size wb bB v') := ⟨DeRow.wide rb (Nat.zero_le _) (Nat.le_refl _), Row.wide sb (Nat.zero_le _) (Nat.le_refl _)⟩
           have zb : wa.heap.size ≤ wb.heap.size := hbb.size
           have yb := fun o => (hbb.cell (p := ⟨w7.heap.size, o, none⟩) (show w7.heap.size < wa.heap.size by omega)).trans (ya o)
           have tb : Hid (Below w8.heap.size w8 wb) := ta.out.drew.trans (hbb.mono za)
           clear rb sb hbb)
        | (go_at_call 15
           refine Calls.mono (eq_req a7 aB b7 bB c7 cB d7 dB l' v' _ (R7.out _ (p8.out.trans (tb.out.mono (by omega)))).1 RB.out.1 (R7.out _ (p8.out.trans (tb.out.mono (by omega)))).2 RB.out.2 HE'.out) ?_
           rintro e wc ⟨rfl, hbc⟩
           have tc : Hid (Below w8.heap.size w8 wc) := tb.out.trans (hbc.mono (by have := tb.out.size; omega))
           clear hbc))
      all_goals
        go_wp2_with fail
        go_ret
        exact ⟨rfl, q8.out.trans (tc.out.mono (by omega))⟩

set_option maxRecDepth 100000 in
theorem lifted (os : Os) (started : os.Started) (H : Type) (enc : TypeId × Value → H) :
    ReturnsInHanded {} Try.checked os 4 .any (Rows.fnExactSameRequestSpec.pre6 enc Try.prog Try.f4 Rows.fnExactSameRequestRow.domain false) (Rows.fnExactSameRequestSpec.post enc Try.prog Try.f4 false true false false) := by
  refine returnsInHanded_of_change (C := Try.checked) own started (by kernel_rfl) Try.func4
    (ChangeSpec.witness6 (enc := enc) (C := Try.checked) false ⟨#[], #[.agg #[.slice none 0 0, .slice none 0 0], .agg #[.slice none 0 0, .slice none 0 0]], []⟩ 8 (by kernel_rfl) (by kernel_rfl) (by kernel_rfl) (by kernel_rfl)) ?_
  intro W base args ds gs before hval0 hW hcnd _
  have hval : ∀ (j : Nat) t v, Try.f4.params[j]? = some t → args[j]? = some v → Value.okWide Try.prog W .any base t v := hval0
  have hW' := hW
  obtain ⟨p, q, hA0, hV, rfl, hfz, hnd⟩ := hW
  have hA : DataW.TrodAll enc Try.prog W 0 (fun _ => true) true Try.f4.params.toList args.toList ds p := hA0
  rw [Try.params4] at hA hval
  obtain ⟨v0, vs0, d0, ds0, p0, q0, hargs, rfl, rfl, h0, r0⟩ := trodAll_cons hA
  obtain ⟨v1, vs1, d1, ds1, p1, q1, rfl, rfl, rfl, h1, r1⟩ := trodAll_cons r0
  obtain ⟨rfl, rfl, rfl⟩ := trodAll_nil r1
  obtain rfl : args = #[v0, v1] := by cases args; simp_all
  obtain ⟨rfl, rfl⟩ := trodVars_none hV
  have g0 := h0
  have lt0 : ∀ x ∈ p0, x.block < W.heap.size := by obtain ⟨m, hm⟩ := g0; exact DataW.trod_lt m _ _ _ hm
  obtain ⟨a0, c0, l0, b0, e0, u0, rfl, hb0, hr0, hv0, hl0, ht0⟩ : ∃ (a : Option Addr) (c : Nat) (l : List De) (b : Option Addr) (d : Nat) (u : List Ar), v0 = .agg #[.slice a l.length c, .slice b u.length d] ∧ DefsBd maxLen l ∧ DeRow 0 W.heap.size W a l ∧ ArRow 0 W.heap.size W b u ∧ u.length ≤ maxLen ∧ (∀ x ∈ u, ArBd maxLen x) := by
    obtain ⟨cs, rfl, hsz⟩ := okWide_struct Try.underlying34 (hval 0 34 v0 rfl rfl)
    obtain ⟨fuel, hf⟩ := h0
    obtain ⟨y0, y1, n, hx, hlen, h1, h2⟩ := trod_struct2 Try.underlying34 hf
    have cd : Try.prog.cellsOf 34 = 2 := by kernel_rfl
    have c1 : Try.prog.cellsOf 24 = 1 := by kernel_rfl
    have c2 : Try.prog.cellsOf 22 = 1 := by kernel_rfl
    have c3 : Try.prog.cellsOf 32 = 1 := by kernel_rfl
    obtain ⟨u⟩ := cs
    have hu : u.length = 2 := by rw [cd] at hsz; simpa using hsz
    obtain ⟨q0, q1, rfl⟩ : ∃ a b, u = [a, b] := by
      rcases u with _ | ⟨a, _ | ⟨b, _ | ⟨_, _⟩⟩⟩ <;> simp at hu
      exact ⟨a, b, rfl⟩
    obtain ⟨y2, n2, hx2, hlen2, h3⟩ := trod_struct1 Try.underlying24 (show DataW.trod enc Try.prog W 0 (fun _ => true) true n 24 [q0] = _ by simpa [Value.cells, c1] using h1)
    obtain ⟨a, c, l, e, hb, hr⟩ := defs_open (by simpa [Value.cells, c2] using h3)
    obtain ⟨b, d, bs, e2, h4, h5, h6⟩ := binds_open (by simpa [Value.cells, c1, c3] using h2)
    simp at e e2
    subst e e2
    exact ⟨a, c, l, b, d, bs, rfl, hb, hr, h6, h4, h5⟩
  have g1 := h1
  have lt1 : ∀ x ∈ p1, x.block < W.heap.size := by obtain ⟨m, hm⟩ := g1; exact DataW.trod_lt m _ _ _ hm
  obtain ⟨a1, c1, l1, b1, e1, u1, rfl, hb1, hr1, hv1, hl1, ht1⟩ : ∃ (a : Option Addr) (c : Nat) (l : List De) (b : Option Addr) (d : Nat) (u : List Ar), v1 = .agg #[.slice a l.length c, .slice b u.length d] ∧ DefsBd maxLen l ∧ DeRow 0 W.heap.size W a l ∧ ArRow 0 W.heap.size W b u ∧ u.length ≤ maxLen ∧ (∀ x ∈ u, ArBd maxLen x) := by
    obtain ⟨cs, rfl, hsz⟩ := okWide_struct Try.underlying34 (hval 1 34 v1 rfl rfl)
    obtain ⟨fuel, hf⟩ := h1
    obtain ⟨y0, y1, n, hx, hlen, h1, h2⟩ := trod_struct2 Try.underlying34 hf
    have cd : Try.prog.cellsOf 34 = 2 := by kernel_rfl
    have c1 : Try.prog.cellsOf 24 = 1 := by kernel_rfl
    have c2 : Try.prog.cellsOf 22 = 1 := by kernel_rfl
    have c3 : Try.prog.cellsOf 32 = 1 := by kernel_rfl
    obtain ⟨u⟩ := cs
    have hu : u.length = 2 := by rw [cd] at hsz; simpa using hsz
    obtain ⟨q0, q1, rfl⟩ : ∃ a b, u = [a, b] := by
      rcases u with _ | ⟨a, _ | ⟨b, _ | ⟨_, _⟩⟩⟩ <;> simp at hu
      exact ⟨a, b, rfl⟩
    obtain ⟨y2, n2, hx2, hlen2, h3⟩ := trod_struct1 Try.underlying24 (show DataW.trod enc Try.prog W 0 (fun _ => true) true n 24 [q0] = _ by simpa [Value.cells, c1] using h1)
    obtain ⟨a, c, l, e, hb, hr⟩ := defs_open (by simpa [Value.cells, c2] using h3)
    obtain ⟨b, d, bs, e2, h4, h5, h6⟩ := binds_open (by simpa [Value.cells, c1, c3] using h2)
    simp at e e2
    subst e e2
    exact ⟨a, c, l, b, d, bs, rfl, hb, hr, h6, h4, h5⟩
  clear hA0 hval0
  refine (walk a0 b0 a1 b1 c0 e0 c1 e1 l0 l1 u0 u1 W hr0 hv0 hb0 hl0 ht0 hr1 hv1 hb1 hl1 ht1).mono fun e W' ⟨he, bel⟩ => ?_
  subst he
  exact ⟨_, rfl, _, _, _, [], _, [], hW', trodAll_mk1 (shut_bool Try.underlying4 _), (trodAll_cons_mk (Below.trod laidOut (by kernel_rfl) (of_decide_eq_true (by kernel_rfl)) g0 bel lt0) (trodAll_cons_mk (Below.trod laidOut (by kernel_rfl) (of_decide_eq_true (by kernel_rfl)) g1 bel lt1) trodAll_mk0)), rfl, bel.frame _, fun h => by cases h⟩

theorem over : Rows.fnExactSameRequestRow.holds Try.pinned (OpenSpec.ofChange Rows.fnExactSameRequestSpec) :=
  OpenClaim.holds_of_wide 4 Try.f4 rfl rfl rfl rfl rfl rfl rfl ⟨rfl, rfl, rfl, rfl, rfl⟩ rfl rfl rfl rfl rfl (by kernel_rfl) Try.func4 (by kernel_rfl)
    (of_decide_eq_true (by kernel_rfl)) (by unfold Func.isWrapper; first | (rw [if_pos (by decide +kernel)]; kernel_rfl) | (rw [if_neg (by decide +kernel)]; exact ⟨rfl, rfl⟩))
    (fun os started H enc _ => lifted os started H enc)
end Go.Proofs.Ytiehcmdhfeeomaa.fnExactSameRequest
namespace Go.Proofs.Ytiehcmdhfeeomaa
theorem sameRequest_holds : Rows.FnExactSameRequestSaid := fnExactSameRequest.over
#print axioms sameRequest_holds
end Go.Proofs.Ytiehcmdhfeeomaa
