/- Proved: at every document and every list of bindings the law FnExactVarsFit returns true, and its arguments read afterwards as they read before. No conditions beyond the row's own. -/
import Derived.Test.YtdhgojeanebhoaaBnFitTwo
import Derived.Test.YtdhgojeanebhoaaDocSzTwo
import Derived.Test.YtdhgojeanebhoaaDocToTwo
import Derived.WalkKit
import Derived.ProofKit
import Derived.OpenShut
import Derived.ShutString
import Derived.ChangeOld
import Derived.Below
import Derived.Lib.SmallJoins
import Derived.Deep.RegionWith
namespace Go.Proofs.Ytdhgojeanebhoaa.fnExactVarsFit
open Go.ChangeShapes Go.WideShapes Go.ChangeAt Go.RowKit
open Go.ChangeMaps (open_string shut_string)
set_option linter.unusedVariables false

theorem own : ownKnob Try.prog.godebug = none := by kernel_rfl
theorem laidOut : laidOutB Try.prog = true := by kernel_rfl

set_option maxHeartbeats 8000000 in
set_option maxRecDepth 40000 in
theorem walk (a' : Option Addr) (c' : Nat) (ds : List De) (a : Option Addr) (c : Nat) (l : List Ar) (w : World) (hd : DeRow 0 w.heap.size w a' ds) (hbd : DefsBd maxLen ds) (hr : ArRow 0 w.heap.size w a l) (hl : l.length ≤ maxLen) (ht : ∀ x ∈ l, ArBd maxLen x) :
    Calls Try.prog 6 #[.agg #[.slice a' ds.length c'], .slice a l.length c] w fun e w' => e = .returned (.bool true) ∧ Below w.heap.size w w' := by
  have K0 : Hid (∀ W0, Below w.heap.size w W0 → DeRow 0 W0.heap.size W0 a' ds) := fun W0 hB => DeRow.up hd hB
  have HD : Hid (DefsBd maxLen ds) := hbd
  have J0 : Hid (∀ W0, Below w.heap.size w W0 → ArRow 0 W0.heap.size W0 a l) := fun W0 hB => Row.up hr hB
  have HT : Hid (∀ x ∈ l, ArBd maxLen x) := ht
  have B0 : Hid (Below w.heap.size w (w.alloc (.cells #[.slice a' ds.length c'] 56))) := (Below.refl _ _).alloc (Nat.le_refl _) _
  clear hr ht hd hbd
  obtain ⟨x, y, hy⟩ : ∃ x y, varsFit ds l = (x, y) := ⟨_, _, rfl⟩
  have HY : Hid (varsFit ds l = (x, y)) := hy
  clear hy
  go_enter Try.func6, Try.ntmps6
  go_wp2_with fail
  refine (sz_doc a' c' ds 1048576 _ (K0.out _ B0.out) HD.out (by omega) (by omega)).mono ?_
  rintro e w1 ⟨m, rfl, hm, hb1⟩
  have HM : Hid (Sz 1048576 m (DefsBd 1048576 ds)) := hm
  have z1 : w.heap.size + 1 ≤ w1.heap.size := by have := hb1.size; simpa using this
  have q1 : Hid (Below w.heap.size w w1) := B0.out.trans (hb1.mono (by simp))
  have A1 : Hid (w1.heap[w.heap.size]? = some (.cells #[.slice a' ds.length c'] 56 (0, 0))) := (hb1.block w.heap.size (by simp)).trans (heap_alloc_new _ _)
  clear hm hb1
  by_cases hneg : m < 0
  · go_wp2_with fail
    go_ret
    exact ⟨rfl, q1.out⟩
  have HE : Hid (DefsBd 1048576 ds) := HM.out.2.2 (by omega)
  have hmm := HM.out.1
  clear HM
  go_wp2_with fail
  refine (sz_binds a c l m _ (J0.out _ q1.out) hl HT.out (by omega) (by omega)).mono ?_
  rintro e w2 ⟨m2, rfl, hm, hb2⟩
  have HM : Hid (Sz m m2 (l.length ≤ 1048576 ∧ ∀ x ∈ l, ArBd 1048576 x)) := hm
  have z2 : w.heap.size + 1 ≤ w2.heap.size := by have := hb2.size; omega
  have q2 : Hid (Below w.heap.size w w2) := q1.out.trans (hb2.mono (by omega))
  have A2 : Hid (w2.heap[w.heap.size]? = some (.cells #[.slice a' ds.length c'] 56 (0, 0))) := (hb2.block w.heap.size (by omega)).trans A1.out
  clear hm hb2 A1
  by_cases hneg2 : m2 < 0
  · go_wp2_with fail
    go_ret
    exact ⟨rfl, q2.out⟩
  obtain ⟨hl2, ht2⟩ := HM.out.2.2 (by omega)
  have HF : Hid (∀ x ∈ l, ArBd 1048576 x) := ht2
  clear HM ht2
  have c2 := fun o => row_cell A2.out o
  go_wp2_with fail
  refine (to_doc a' c' ds _ (K0.out _ q2.out) HE.out).mono ?_
  rintro e w3 ⟨a3x, d3x, rfl, r3x, hb3⟩
  have O3 : Hid (∀ W0, Below w3.heap.size w3 W0 → DeRow 0 W0.heap.size W0 a3x ds) := fun W0 hB => DeRow.up (DeRow.wide r3x (Nat.zero_le _) (Nat.le_refl _)) hB
  have z3 : w.heap.size + 1 ≤ w3.heap.size := by have := hb3.size; omega
  have q3 : Hid (Below w.heap.size w w3) := q2.out.trans (hb3.mono (by omega))
  have A3 : Hid (w3.heap[w.heap.size]? = some (.cells #[.slice a' ds.length c'] 56 (0, 0))) := (hb3.block w.heap.size (by omega)).trans A2.out
  clear hb3 r3x c2 A2
  go_wp2_with fail
  refine (to_binds a c l _ (J0.out _ q3.out) hl2).mono ?_
  rintro e w4 ⟨a4, d4, rfl, r4, hb4⟩
  have R4 : Hid (ArRow 0 w4.heap.size w4 a4 l) := Row.wide r4 (Nat.zero_le _) (Nat.le_refl _)
  have z4 : w.heap.size + 1 ≤ w4.heap.size := by have := hb4.size; omega
  have B4 : Hid (Below w3.heap.size w3 w4) := hb4
  have q4 : Hid (Below w.heap.size w w4) := q3.out.trans (hb4.mono (by omega))
  have A4 : Hid (w4.heap[w.heap.size]? = some (.cells #[.slice a' ds.length c'] 56 (0, 0))) := (hb4.block w.heap.size (by omega)).trans A3.out
  clear r4 hb4 A3
  go_wp2_with fail
  refine (spec_varsFit a3x d3x ds a4 d4 l x y _ (O3.out _ B4.out) HE.out R4.out hl2 HF.out HY.out).mono ?_
  rintro e w5 ⟨rfl, hb5⟩
  have z5 : w.heap.size + 1 ≤ w5.heap.size := by have := hb5.size; omega
  have q5 : Hid (Below w.heap.size w w5) := q4.out.trans (hb5.mono (by omega))
  have A5 : Hid (w5.heap[w.heap.size]? = some (.cells #[.slice a' ds.length c'] 56 (0, 0))) := (hb5.block w.heap.size (by omega)).trans A4.out
  have c5 := fun o => row_cell A5.out o
  clear hb5 A4
  go_wp2_with fail
  refine (to_doc a' c' ds _ (K0.out _ q5.out) HE.out).mono ?_
  rintro e w6 ⟨a6x, d6x, rfl, r6x, hb6⟩
  have O6 : Hid (∀ W0, Below w6.heap.size w6 W0 → DeRow 0 W0.heap.size W0 a6x ds) := fun W0 hB => DeRow.up (DeRow.wide r6x (Nat.zero_le _) (Nat.le_refl _)) hB
  have z6 : w.heap.size + 1 ≤ w6.heap.size := by have := hb6.size; omega
  have q6 : Hid (Below w.heap.size w w6) := q5.out.trans (hb6.mono (by omega))
  have A6 : Hid (w6.heap[w.heap.size]? = some (.cells #[.slice a' ds.length c'] 56 (0, 0))) := (hb6.block w.heap.size (by omega)).trans A5.out
  clear hb6 r6x c5 A5
  go_wp2_with fail
  obtain ⟨V, hV⟩ : ∃ V, V = w6.alloc (.cells #[.slice a6x ds.length d6x] 62) := ⟨_, rfl⟩
  rw [← hV]
  have zV : V.heap.size = w6.heap.size + 1 := by rw [hV]; simp
  have BV : Hid (Below w6.heap.size w6 V) := by rw [hV]; exact (Below.refl _ _).alloc (Nat.le_refl _) _
  have qV : Hid (Below w.heap.size w V) := q6.out.trans (BV.out.mono (by omega))
  have XV : Hid (V.heap[w6.heap.size]? = some (.cells #[.slice a6x ds.length d6x] 62 (0, 0))) := by rw [Hid, hV]; exact heap_alloc_new _ _
  have AV : Hid (V.heap[w.heap.size]? = some (.cells #[.slice a' ds.length c'] 56 (0, 0))) := (BV.out.block w.heap.size (by omega)).trans A6.out
  clear hV A6
  refine (to_binds a c l _ (J0.out _ qV.out) hl2).mono ?_
  rintro e w7 ⟨a7, d7, rfl, r7, hb7⟩
  have R7 : Hid (∀ W0, Below w7.heap.size w7 W0 → ArRow 0 W0.heap.size W0 a7 l) := fun W0 hB => Row.up (Row.wide r7 (Nat.zero_le _) (Nat.le_refl _)) hB
  have z7 : w6.heap.size + 1 ≤ w7.heap.size := by have := hb7.size; omega
  have B7 : Hid (Below w6.heap.size w6 w7) := BV.out.trans (hb7.mono (by omega))
  have q7 : Hid (Below w.heap.size w w7) := qV.out.trans (hb7.mono (by omega))
  have X7 : Hid (w7.heap[w6.heap.size]? = some (.cells #[.slice a6x ds.length d6x] 62 (0, 0))) := (hb7.block _ (by omega)).trans XV.out
  have A7 : Hid (w7.heap[w.heap.size]? = some (.cells #[.slice a' ds.length c'] 56 (0, 0))) := (hb7.block w.heap.size (by omega)).trans AV.out
  have x7 := fun o => row_cell X7.out o
  clear r7 hb7 XV AV
  go_wp2_with fail
  refine (impl_varsFit a6x d6x ds a7 d7 l x y _ (O6.out _ B7.out) HE.out (R7.out _ (Below.refl _ _)) hl2 HF.out HY.out).mono ?_
  rintro e w8 ⟨rfl, hb8⟩
  have z8 : w7.heap.size ≤ w8.heap.size := hb8.size
  have p8 : Hid (Below w7.heap.size w7 w8) := hb8
  have B8 : Hid (Below w6.heap.size w6 w8) := B7.out.trans (hb8.mono (by omega))
  have q8 : Hid (Below w.heap.size w w8) := q7.out.trans (hb8.mono (by omega))
  have X8 : Hid (w8.heap[w6.heap.size]? = some (.cells #[.slice a6x ds.length d6x] 62 (0, 0))) := (hb8.block _ (by omega)).trans X7.out
  have A8 : Hid (w8.heap[w.heap.size]? = some (.cells #[.slice a' ds.length c'] 56 (0, 0))) := (hb8.block w.heap.size (by omega)).trans A7.out
  have x8 := fun o => row_cell X8.out o
  have c8 := fun o => row_cell A8.out o
  clear hb8 x7 X7 A7
  go_wp2_with fail
  go_region_with (first
    | (go_at_call 24
       refine Calls.mono (to_doc a' c' ds _ (K0.out _ (q8.out.drew)) HE.out) ?_
       rintro e w9 ⟨a9x, d9x, rfl, r9x, hb9⟩
       have x9 := fun o => (hb9.cell (p := ⟨w6.heap.size, o, none⟩) (show w6.heap.size < w8.heap.size by omega)).trans (x8 o)
       have O9 : Hid (∀ W0, Below w9.heap.size w9 W0 → DeRow 0 W0.heap.size W0 a9x ds) := fun W0 hB => DeRow.up (DeRow.wide r9x (Nat.zero_le _) (Nat.le_refl _)) hB
       have z9 : w8.heap.size ≤ w9.heap.size := hb9.size
       have p9 : Hid (Below w7.heap.size w7 w9) := p8.out.drew.trans (hb9.mono (show w7.heap.size ≤ w8.heap.size by omega))
       have B9 : Hid (Below w6.heap.size w6 w9) := B8.out.drew.trans (hb9.mono (show w6.heap.size ≤ w8.heap.size by omega))
       have q9 : Hid (Below w.heap.size w w9) := q8.out.drew.trans (hb9.mono (show w.heap.size ≤ w8.heap.size by omega))
       clear r9x hb9)
    | (go_at_call 26
       refine (eq_doc a6x _ d6x _ ds _ (O6.out _ B9.out) (O9.out _ (Below.refl _ _)) HE.out).mono ?_
       rintro e wa ⟨rfl, hba⟩
       have za : w9.heap.size ≤ wa.heap.size := hba.size
       have pa : Hid (Below w7.heap.size w7 wa) := p9.out.trans (hba.mono (by omega))
       have qa : Hid (Below w.heap.size w wa) := q9.out.trans (hba.mono (by omega))))
  all_goals
    go_wp2_with fail
    refine (to_binds a c l _ (J0.out _ qa.out) hl2).mono ?_
    rintro e wb ⟨ab, db, rfl, rb, hbb⟩
    have Rb : Hid (ArRow 0 wb.heap.size wb ab l) := Row.wide rb (Nat.zero_le _) (Nat.le_refl _)
    have zb := hbb.size
    have pb : Hid (Below w7.heap.size w7 wb) := pa.out.trans (hbb.mono (by omega))
    have qb : Hid (Below w.heap.size w wb) := qa.out.trans (hbb.mono (by omega))
    clear rb hbb
    go_wp2_with fail
    refine (eq_binds a7 ab d7 db l _ (R7.out _ pb.out) Rb.out hl2).mono ?_
    rintro e wc ⟨rfl, hbc⟩
    have qc : Hid (Below w.heap.size w wc) := qb.out.trans (hbc.mono (by omega))
    go_wp2_with fail
    go_ret
    exact ⟨rfl, qc.out⟩

set_option maxRecDepth 100000 in
theorem lifted (os : Os) (started : os.Started) (H : Type) (enc : TypeId × Value → H) :
    ReturnsInHanded {} Try.checked os 6 .any (Rows.fnExactVarsFitSpec.pre6 enc Try.prog Try.f6 Rows.fnExactVarsFitRow.domain false) (Rows.fnExactVarsFitSpec.post enc Try.prog Try.f6 false true false false) := by
  refine returnsInHanded_of_change (C := Try.checked) own started (by kernel_rfl) Try.func6
    (ChangeSpec.witness6 (enc := enc) (C := Try.checked) false ⟨#[], #[.agg #[.slice none 0 0], .slice none 0 0], []⟩ 8 (by kernel_rfl) (by kernel_rfl) (by kernel_rfl) (by kernel_rfl)) ?_
  intro W base args ds gs before hval0 hW hcnd _
  have hval : ∀ (j : Nat) t v, Try.f6.params[j]? = some t → args[j]? = some v → Value.okWide Try.prog W .any base t v := hval0
  have hW' := hW
  obtain ⟨p, q, hA0, hV, rfl, hfz, hnd⟩ := hW
  have hA : DataW.TrodAll enc Try.prog W 0 (fun _ => true) true Try.f6.params.toList args.toList ds p := hA0
  rw [Try.params6] at hA hval
  obtain ⟨v0, vs0, d0, ds0, p0, q0, hargs, rfl, rfl, h0, r0⟩ := trodAll_cons hA
  obtain ⟨v1, vs1, d1, ds1, p1, q1, rfl, rfl, rfl, h1, r1⟩ := trodAll_cons r0
  obtain ⟨rfl, rfl, rfl⟩ := trodAll_nil r1
  obtain rfl : args = #[v0, v1] := by cases args; simp_all
  obtain ⟨rfl, rfl⟩ := trodVars_none hV
  have g0 := h0
  have lt0 : ∀ x ∈ p0, x.block < W.heap.size := by obtain ⟨m, hm⟩ := g0; exact DataW.trod_lt m _ _ _ hm
  obtain ⟨a0, c0, l0, rfl, hb0, hr0⟩ : ∃ a c, ∃ l : List De, v0 = .agg #[.slice a l.length c] ∧ DefsBd maxLen l ∧ DeRow 0 W.heap.size W a l := by
    obtain ⟨cs, rfl, hsz⟩ := okWide_struct Try.underlying56 (hval 0 56 v0 rfl rfl)
    obtain ⟨fuel, hf⟩ := h0
    obtain ⟨y0, n, hx, hlen, h1⟩ := trod_struct1 Try.underlying56 hf
    have cd : Try.prog.cellsOf 56 = 1 := by kernel_rfl
    have c1 : Try.prog.cellsOf 54 = 1 := by kernel_rfl
    obtain ⟨u⟩ := cs
    have hu : u.length = 1 := by rw [cd] at hsz; simpa using hsz
    obtain ⟨q, rfl⟩ : ∃ q, u = [q] := List.length_eq_one_iff.1 hu
    obtain ⟨a, c, l, e, hb, hr⟩ := defs_open (by simpa [Value.cells, c1] using h1)
    simp only [List.cons.injEq, and_true] at e
    subst e
    exact ⟨a, c, l, rfl, hb, hr⟩
  have g1 := h1
  have lt1 : ∀ x ∈ p1, x.block < W.heap.size := by obtain ⟨m, hm⟩ := g1; exact DataW.trod_lt m _ _ _ hm
  obtain ⟨a1, c1, l1, rfl, hb1, ht1, hr1⟩ : ∃ a c, ∃ l : List Ar, v1 = .slice a l.length c ∧ l.length ≤ maxLen ∧ (∀ x ∈ l, ArBd maxLen x) ∧ ArRow 0 W.heap.size W a l := by
    obtain ⟨a, len, cap, rfl⟩ := okWide_slice Try.underlying22 (hval 1 22 v1 rfl rfl)
    obtain ⟨fuel, hf⟩ := h1
    obtain ⟨a', c', l, e, h1, h2, h3⟩ := binds_open (by simpa [Value.cells] using hf)
    simp only [List.cons.injEq, and_true] at e
    exact ⟨a', c', l, e, h1, h2, h3⟩
  clear hA0 hval0
  refine (walk a0 c0 l0 a1 c1 l1 W hr0 hb0 hr1 hb1 ht1).mono fun e W' ⟨he, bel⟩ => ?_
  subst he
  exact ⟨_, rfl, _, _, _, [], _, [], hW', trodAll_mk1 (shut_bool Try.underlying4 _), (trodAll_cons_mk (Below.trod laidOut (by kernel_rfl) (of_decide_eq_true (by kernel_rfl)) g0 bel lt0) (trodAll_cons_mk (Below.trod laidOut (by kernel_rfl) (of_decide_eq_true (by kernel_rfl)) g1 bel lt1) trodAll_mk0)), rfl, bel.frame _, fun h => by cases h⟩

theorem over : Rows.fnExactVarsFitRow.holds Try.pinned (OpenSpec.ofChange Rows.fnExactVarsFitSpec) :=
  OpenClaim.holds_of_wide 6 Try.f6 rfl rfl rfl rfl rfl rfl rfl ⟨rfl, rfl, rfl, rfl, rfl⟩ rfl rfl rfl rfl rfl (by kernel_rfl) Try.func6 (by kernel_rfl)
    (of_decide_eq_true (by kernel_rfl)) (by unfold Func.isWrapper; first | (rw [if_pos (by decide +kernel)]; kernel_rfl) | (rw [if_neg (by decide +kernel)]; exact ⟨rfl, rfl⟩))
    (fun os started H enc _ => lifted os started H enc)
end Go.Proofs.Ytdhgojeanebhoaa.fnExactVarsFit
namespace Go.Proofs.Ytdhgojeanebhoaa
theorem varsFit_holds : Rows.FnExactVarsFitSaid := fnExactVarsFit.over
#print axioms varsFit_holds
end Go.Proofs.Ytdhgojeanebhoaa
