/- Proved: at every selection and every list of bindings the law FnExactIncluded returns true, and its arguments read afterwards as they read before. No conditions beyond the row's own. -/
import Derived.Test.YtdhgojeanebhoaaBnInTwo
import Derived.Test.YtdhgojeanebhoaaDocSzTwo
import Derived.Test.YtdhgojeanebhoaaDocToTwo
import Derived.WalkKit
import Derived.ProofKit
import Derived.OpenShut
import Derived.ShutString
import Derived.ChangeOld
import Derived.Below
import Derived.Lib.SmallJoins
import Derived.Deep.RegionWith
namespace Go.Proofs.Ytdhgojeanebhoaa.fnExactIncluded
open Go.ChangeShapes Go.WideShapes Go.ChangeAt Go.RowKit
open Go.ChangeMaps (open_string shut_string)
set_option linter.unusedVariables false

theorem own : ownKnob Try.prog.godebug = none := by kernel_rfl
theorem laidOut : laidOutB Try.prog = true := by kernel_rfl

set_option maxHeartbeats 8000000 in
set_option maxRecDepth 40000 in
theorem walk (h : Hd) (sub : Sels) (a1 : Option Addr) (c1 : Nat) (a2 : Option Addr) (c2 : Nat) (a3 : Option Addr) (c3 : Nat) (a : Option Addr) (c : Nat) (l : List Ar) (w : World) (r1 : ArRow 0 w.heap.size w a1 h.args) (r2 : DiRow 0 w.heap.size w a2 h.dirs) (r3 : SelRow 0 w.heap.size w a3 sub) (hbd : HdBd maxLen h ∧ sub.len ≤ maxLen ∧ SelsBd maxLen sub) (hr : ArRow 0 w.heap.size w a l) (hl : l.length ≤ maxLen) (ht : ∀ x ∈ l, ArBd maxLen x) :
    Calls Try.prog 5 #[.agg #[.int .i64 h.k, .string h.al, .string h.nm, .slice a1 h.args.length c1, .slice a2 h.dirs.length c2, .slice a3 sub.len c3], .slice a l.length c] w fun e w' => e = .returned (.bool true) ∧ Below w.heap.size w w' := by
  have K0 : Hid (∀ W0, Below w.heap.size w W0 → ArRow 0 W0.heap.size W0 a1 h.args ∧ DiRow 0 W0.heap.size W0 a2 h.dirs ∧ SelRow 0 W0.heap.size W0 a3 sub) := fun W0 hB => ⟨Row.up r1 hB, Row.up r2 hB, SelRow.up r3 hB⟩
  have HD : Hid (HdBd maxLen h ∧ sub.len ≤ maxLen ∧ SelsBd maxLen sub) := hbd
  have J0 : Hid (∀ W0, Below w.heap.size w W0 → ArRow 0 W0.heap.size W0 a l) := fun W0 hB => Row.up hr hB
  have HT : Hid (∀ x ∈ l, ArBd maxLen x) := ht
  have B0 : Hid (Below w.heap.size w (w.alloc (.cells #[.int .i64 h.k, .string h.al, .string h.nm, .slice a1 h.args.length c1, .slice a2 h.dirs.length c2, .slice a3 sub.len c3] 42))) := (Below.refl _ _).alloc (Nat.le_refl _) _
  clear hr ht r1 r2 r3 hbd
  obtain ⟨x, y, hy⟩ : ∃ x y, incl h (decide (sub.len = 0)) l = (x, y) := ⟨_, _, rfl⟩
  have HY : Hid (incl h (decide (sub.len = 0)) l = (x, y)) := hy
  clear hy
  go_enter Try.func5, Try.ntmps5
  go_wp2_with fail
  refine (sz_sel h sub (sz_sels sub) a1 a2 a3 c1 c2 c3 1048576 _ (K0.out _ B0.out).1 (K0.out _ B0.out).2.1 (K0.out _ B0.out).2.2 HD.out.1 HD.out.2.1 HD.out.2.2 (by omega) (by omega)).mono ?_
  rintro e w1 ⟨m, rfl, hm, hb1⟩
  have HM : Hid (Sz 1048576 m (HdBd 1048576 h ∧ sub.len ≤ 1048576 ∧ SelsBd 1048576 sub)) := hm
  have z1 : w.heap.size + 1 ≤ w1.heap.size := by have := hb1.size; simpa using this
  have q1 : Hid (Below w.heap.size w w1) := B0.out.trans (hb1.mono (by simp))
  have A1 : Hid (w1.heap[w.heap.size]? = some (.cells #[.int .i64 h.k, .string h.al, .string h.nm, .slice a1 h.args.length c1, .slice a2 h.dirs.length c2, .slice a3 sub.len c3] 42 (0, 0))) := (hb1.block w.heap.size (by simp)).trans (heap_alloc_new _ _)
  clear hm hb1
  by_cases hneg : m < 0
  · go_wp2_with fail
    go_ret
    exact ⟨rfl, q1.out⟩
  have HE : Hid (HdBd 1048576 h ∧ sub.len ≤ 1048576 ∧ SelsBd 1048576 sub) := HM.out.2.2 (by omega)
  have hmm := HM.out.1
  clear HM
  go_wp2_with fail
  refine (sz_binds a c l m _ (J0.out _ q1.out) hl HT.out (by omega) (by omega)).mono ?_
  rintro e w2 ⟨m2, rfl, hm, hb2⟩
  have HM : Hid (Sz m m2 (l.length ≤ 1048576 ∧ ∀ x ∈ l, ArBd 1048576 x)) := hm
  have z2 : w.heap.size + 1 ≤ w2.heap.size := by have := hb2.size; omega
  have q2 : Hid (Below w.heap.size w w2) := q1.out.trans (hb2.mono (by omega))
  have A2 : Hid (w2.heap[w.heap.size]? = some (.cells #[.int .i64 h.k, .string h.al, .string h.nm, .slice a1 h.args.length c1, .slice a2 h.dirs.length c2, .slice a3 sub.len c3] 42 (0, 0))) := (hb2.block w.heap.size (by omega)).trans A1.out
  clear hm hb2 A1
  by_cases hneg2 : m2 < 0
  · go_wp2_with fail
    go_ret
    exact ⟨rfl, q2.out⟩
  obtain ⟨hl2, ht2⟩ := HM.out.2.2 (by omega)
  have HF : Hid (∀ x ∈ l, ArBd 1048576 x) := ht2
  clear HM ht2
  have cc2 := fun o => row_cell A2.out o
  go_wp2_with fail
  refine (to_sel h sub (to_sels sub) a1 a2 a3 c1 c2 c3 _ (K0.out _ q2.out).1 (K0.out _ q2.out).2.1 (K0.out _ q2.out).2.2 HE.out.1 HE.out.2.1 HE.out.2.2).mono ?_
  rintro e w3 ⟨x31, d31, x32, d32, x33, d33, rfl, r31, r32, r33, hb3⟩
  have O3 : Hid (∀ W0, Below w3.heap.size w3 W0 → ArRow 0 W0.heap.size W0 x31 h.args ∧ DiRow 0 W0.heap.size W0 x32 h.dirs ∧ SelRow 0 W0.heap.size W0 x33 sub) := fun W0 hB => ⟨Row.up (Row.wide r31 (Nat.zero_le _) (Nat.le_refl _)) hB, Row.up (Row.wide r32 (Nat.zero_le _) (Nat.le_refl _)) hB, SelRow.up (SelRow.wide r33 (Nat.zero_le _) (Nat.le_refl _)) hB⟩
  have z3 : w.heap.size + 1 ≤ w3.heap.size := by have := hb3.size; omega
  have q3 : Hid (Below w.heap.size w w3) := q2.out.trans (hb3.mono (by omega))
  have A3 : Hid (w3.heap[w.heap.size]? = some (.cells #[.int .i64 h.k, .string h.al, .string h.nm, .slice a1 h.args.length c1, .slice a2 h.dirs.length c2, .slice a3 sub.len c3] 42 (0, 0))) := (hb3.block w.heap.size (by omega)).trans A2.out
  clear hb3 r31 r32 r33 cc2 A2
  go_wp2_with fail
  refine (to_binds a c l _ (J0.out _ q3.out) hl2).mono ?_
  rintro e w4 ⟨a4, d4, rfl, r4, hb4⟩
  have R4 : Hid (ArRow 0 w4.heap.size w4 a4 l) := Row.wide r4 (Nat.zero_le _) (Nat.le_refl _)
  have z4 : w.heap.size + 1 ≤ w4.heap.size := by have := hb4.size; omega
  have B4 : Hid (Below w3.heap.size w3 w4) := hb4
  have q4 : Hid (Below w.heap.size w w4) := q3.out.trans (hb4.mono (by omega))
  have A4 : Hid (w4.heap[w.heap.size]? = some (.cells #[.int .i64 h.k, .string h.al, .string h.nm, .slice a1 h.args.length c1, .slice a2 h.dirs.length c2, .slice a3 sub.len c3] 42 (0, 0))) := (hb4.block w.heap.size (by omega)).trans A3.out
  clear r4 hb4 A3
  go_wp2_with fail
  refine (spec_included h sub.len x31 x32 x33 d31 d32 d33 a4 d4 l x y _ (O3.out _ B4.out).1 (O3.out _ B4.out).2.1 HE.out.1 HE.out.2.1 R4.out hl2 HF.out HY.out).mono ?_
  rintro e w5 ⟨rfl, hb5⟩
  have z5 : w.heap.size + 1 ≤ w5.heap.size := by have := hb5.size; omega
  have q5 : Hid (Below w.heap.size w w5) := q4.out.trans (hb5.mono (by omega))
  have A5 : Hid (w5.heap[w.heap.size]? = some (.cells #[.int .i64 h.k, .string h.al, .string h.nm, .slice a1 h.args.length c1, .slice a2 h.dirs.length c2, .slice a3 sub.len c3] 42 (0, 0))) := (hb5.block w.heap.size (by omega)).trans A4.out
  have cc5 := fun o => row_cell A5.out o
  clear hb5 A4
  go_wp2_with fail
  refine (to_sel h sub (to_sels sub) a1 a2 a3 c1 c2 c3 _ (K0.out _ q5.out).1 (K0.out _ q5.out).2.1 (K0.out _ q5.out).2.2 HE.out.1 HE.out.2.1 HE.out.2.2).mono ?_
  rintro e w6 ⟨x61, d61, x62, d62, x63, d63, rfl, r61, r62, r63, hb6⟩
  have O6 : Hid (∀ W0, Below w6.heap.size w6 W0 → ArRow 0 W0.heap.size W0 x61 h.args ∧ DiRow 0 W0.heap.size W0 x62 h.dirs ∧ SelRow 0 W0.heap.size W0 x63 sub) := fun W0 hB => ⟨Row.up (Row.wide r61 (Nat.zero_le _) (Nat.le_refl _)) hB, Row.up (Row.wide r62 (Nat.zero_le _) (Nat.le_refl _)) hB, SelRow.up (SelRow.wide r63 (Nat.zero_le _) (Nat.le_refl _)) hB⟩
  have z6 : w.heap.size + 1 ≤ w6.heap.size := by have := hb6.size; omega
  have q6 : Hid (Below w.heap.size w w6) := q5.out.trans (hb6.mono (by omega))
  have A6 : Hid (w6.heap[w.heap.size]? = some (.cells #[.int .i64 h.k, .string h.al, .string h.nm, .slice a1 h.args.length c1, .slice a2 h.dirs.length c2, .slice a3 sub.len c3] 42 (0, 0))) := (hb6.block w.heap.size (by omega)).trans A5.out
  clear hb6 r61 r62 r63 cc5 A5
  go_wp2_with fail
  obtain ⟨V, hV⟩ : ∃ V, V = w6.alloc (.cells #[.int .i64 h.k, .string h.al, .string h.nm, .slice x61 h.args.length d61, .slice x62 h.dirs.length d62, .slice x63 sub.len d63] 50) := ⟨_, rfl⟩
  rw [← hV]
  have zV : V.heap.size = w6.heap.size + 1 := by rw [hV]; simp
  have BV : Hid (Below w6.heap.size w6 V) := by rw [hV]; exact (Below.refl _ _).alloc (Nat.le_refl _) _
  have qV : Hid (Below w.heap.size w V) := q6.out.trans (BV.out.mono (by omega))
  have XV : Hid (V.heap[w6.heap.size]? = some (.cells #[.int .i64 h.k, .string h.al, .string h.nm, .slice x61 h.args.length d61, .slice x62 h.dirs.length d62, .slice x63 sub.len d63] 50 (0, 0))) := by rw [Hid, hV]; exact heap_alloc_new _ _
  have AV : Hid (V.heap[w.heap.size]? = some (.cells #[.int .i64 h.k, .string h.al, .string h.nm, .slice a1 h.args.length c1, .slice a2 h.dirs.length c2, .slice a3 sub.len c3] 42 (0, 0))) := (BV.out.block w.heap.size (by omega)).trans A6.out
  clear hV A6
  refine (to_binds a c l _ (J0.out _ qV.out) hl2).mono ?_
  rintro e w7 ⟨a7, d7, rfl, r7, hb7⟩
  have R7 : Hid (∀ W0, Below w7.heap.size w7 W0 → ArRow 0 W0.heap.size W0 a7 l) := fun W0 hB => Row.up (Row.wide r7 (Nat.zero_le _) (Nat.le_refl _)) hB
  have z7 : w6.heap.size + 1 ≤ w7.heap.size := by have := hb7.size; omega
  have B7 : Hid (Below w6.heap.size w6 w7) := BV.out.trans (hb7.mono (by omega))
  have q7 : Hid (Below w.heap.size w w7) := qV.out.trans (hb7.mono (by omega))
  have X7 : Hid (w7.heap[w6.heap.size]? = some (.cells #[.int .i64 h.k, .string h.al, .string h.nm, .slice x61 h.args.length d61, .slice x62 h.dirs.length d62, .slice x63 sub.len d63] 50 (0, 0))) := (hb7.block _ (by omega)).trans XV.out
  have A7 : Hid (w7.heap[w.heap.size]? = some (.cells #[.int .i64 h.k, .string h.al, .string h.nm, .slice a1 h.args.length c1, .slice a2 h.dirs.length c2, .slice a3 sub.len c3] 42 (0, 0))) := (hb7.block w.heap.size (by omega)).trans AV.out
  have x7 := fun o => row_cell X7.out o
  clear r7 hb7 XV AV
  go_wp2_with fail
  refine (impl_included h sub.len x61 x62 x63 d61 d62 d63 a7 d7 l x y _ (O6.out _ B7.out).1 (O6.out _ B7.out).2.1 HE.out.1 HE.out.2.1 (R7.out _ (Below.refl _ _)) hl2 HF.out HY.out).mono ?_
  rintro e w8 ⟨rfl, hb8⟩
  have z8 : w7.heap.size ≤ w8.heap.size := hb8.size
  have p8 : Hid (Below w7.heap.size w7 w8) := hb8
  have B8 : Hid (Below w6.heap.size w6 w8) := B7.out.trans (hb8.mono (by omega))
  have q8 : Hid (Below w.heap.size w w8) := q7.out.trans (hb8.mono (by omega))
  have X8 : Hid (w8.heap[w6.heap.size]? = some (.cells #[.int .i64 h.k, .string h.al, .string h.nm, .slice x61 h.args.length d61, .slice x62 h.dirs.length d62, .slice x63 sub.len d63] 50 (0, 0))) := (hb8.block _ (by omega)).trans X7.out
  have A8 : Hid (w8.heap[w.heap.size]? = some (.cells #[.int .i64 h.k, .string h.al, .string h.nm, .slice a1 h.args.length c1, .slice a2 h.dirs.length c2, .slice a3 sub.len c3] 42 (0, 0))) := (hb8.block w.heap.size (by omega)).trans A7.out
  have x8 := fun o => row_cell X8.out o
  have cc8 := fun o => row_cell A8.out o
  clear hb8 x7 X7 A7
  go_wp2_with fail
  go_region_with (first
    | (go_at_call 19
       refine Calls.mono (to_sel h sub (to_sels sub) a1 a2 a3 c1 c2 c3 _ (K0.out _ (q8.out.drew)).1 (K0.out _ (q8.out.drew)).2.1 (K0.out _ (q8.out.drew)).2.2 HE.out.1 HE.out.2.1 HE.out.2.2) ?_
       rintro e w9 ⟨x91, d91, x92, d92, x93, d93, rfl, r91, r92, r93, hb9⟩
       have x9 := fun o => (hb9.cell (p := ⟨w6.heap.size, o, none⟩) (show w6.heap.size < w8.heap.size by omega)).trans (x8 o)
       have O9 : Hid (∀ W0, Below w9.heap.size w9 W0 → ArRow 0 W0.heap.size W0 x91 h.args ∧ DiRow 0 W0.heap.size W0 x92 h.dirs ∧ SelRow 0 W0.heap.size W0 x93 sub) := fun W0 hB => ⟨Row.up (Row.wide r91 (Nat.zero_le _) (Nat.le_refl _)) hB, Row.up (Row.wide r92 (Nat.zero_le _) (Nat.le_refl _)) hB, SelRow.up (SelRow.wide r93 (Nat.zero_le _) (Nat.le_refl _)) hB⟩
       have z9 : w8.heap.size ≤ w9.heap.size := hb9.size
       have p9 : Hid (Below w7.heap.size w7 w9) := p8.out.drew.trans (hb9.mono (show w7.heap.size ≤ w8.heap.size by omega))
       have B9 : Hid (Below w6.heap.size w6 w9) := B8.out.drew.trans (hb9.mono (show w6.heap.size ≤ w8.heap.size by omega))
       have q9 : Hid (Below w.heap.size w w9) := q8.out.drew.trans (hb9.mono (show w.heap.size ≤ w8.heap.size by omega))
       clear r91 r92 r93 hb9)
    | (go_at_call 21
       refine (eq_sel h sub (eq_sels sub) x61 x62 x63 _ _ _ d61 d62 d63 _ _ _ _ (O6.out _ B9.out).1 (O6.out _ B9.out).2.1 (O6.out _ B9.out).2.2 (O9.out _ (Below.refl _ _)).1 (O9.out _ (Below.refl _ _)).2.1 (O9.out _ (Below.refl _ _)).2.2 HE.out.1 HE.out.2.1 HE.out.2.2).mono ?_
       rintro e wa ⟨rfl, hba⟩
       have za : w9.heap.size ≤ wa.heap.size := hba.size
       have pa : Hid (Below w7.heap.size w7 wa) := p9.out.trans (hba.mono (by omega))
       have qa : Hid (Below w.heap.size w wa) := q9.out.trans (hba.mono (by omega))))
  all_goals
    go_wp2_with fail
    refine (to_binds a c l _ (J0.out _ qa.out) hl2).mono ?_
    rintro e wb ⟨ab, db, rfl, rb, hbb⟩
    have Rb : Hid (ArRow 0 wb.heap.size wb ab l) := Row.wide rb (Nat.zero_le _) (Nat.le_refl _)
    have zb := hbb.size
    have pb : Hid (Below w7.heap.size w7 wb) := pa.out.trans (hbb.mono (by omega))
    have qb : Hid (Below w.heap.size w wb) := qa.out.trans (hbb.mono (by omega))
    clear rb hbb
    go_wp2_with fail
    refine (eq_binds a7 ab d7 db l _ (R7.out _ pb.out) Rb.out hl2).mono ?_
    rintro e wc ⟨rfl, hbc⟩
    have qc : Hid (Below w.heap.size w wc) := qb.out.trans (hbc.mono (by omega))
    go_wp2_with fail
    go_ret
    exact ⟨rfl, qc.out⟩

set_option maxRecDepth 100000 in
theorem lifted (os : Os) (started : os.Started) (H : Type) (enc : TypeId × Value → H) :
    ReturnsInHanded {} Try.checked os 5 .any (Rows.fnExactIncludedSpec.pre6 enc Try.prog Try.f5 Rows.fnExactIncludedRow.domain false) (Rows.fnExactIncludedSpec.post enc Try.prog Try.f5 false true false false) := by
  refine returnsInHanded_of_change (C := Try.checked) own started (by kernel_rfl) Try.func5
    (ChangeSpec.witness6 (enc := enc) (C := Try.checked) false ⟨#[], #[.agg #[.int .i64 0, .string ByteArray.empty, .string ByteArray.empty, .slice none 0 0, .slice none 0 0, .slice none 0 0], .slice none 0 0], []⟩ 8 (by kernel_rfl) (by kernel_rfl) (by kernel_rfl) (by kernel_rfl)) ?_
  intro W base args ds gs before hval0 hW hcnd _
  have hval : ∀ (j : Nat) t v, Try.f5.params[j]? = some t → args[j]? = some v → Value.okWide Try.prog W .any base t v := hval0
  have hW' := hW
  obtain ⟨p, q, hA0, hV, rfl, hfz, hnd⟩ := hW
  have hA : DataW.TrodAll enc Try.prog W 0 (fun _ => true) true Try.f5.params.toList args.toList ds p := hA0
  rw [Try.params5] at hA hval
  obtain ⟨v0, vs0, d0, ds0, p0, q0, hargs, rfl, rfl, h0, r0⟩ := trodAll_cons hA
  obtain ⟨v1, vs1, d1, ds1, p1, q1, rfl, rfl, rfl, h1, r1⟩ := trodAll_cons r0
  obtain ⟨rfl, rfl, rfl⟩ := trodAll_nil r1
  obtain rfl : args = #[v0, v1] := by cases args; simp_all
  obtain ⟨rfl, rfl⟩ := trodVars_none hV
  have g0 := h0
  have lt0 : ∀ x ∈ p0, x.block < W.heap.size := by obtain ⟨m, hm⟩ := g0; exact DataW.trod_lt m _ _ _ hm
  obtain ⟨hd0, sub0, a01, c01, a02, c02, a03, c03, rfl, hb0, hl0, hs0, r01, r02, r03⟩ : ∃ (h : Hd) (sub : Sels) (a1 : Option Addr) (c1 : Nat) (a2 : Option Addr) (c2 : Nat) (a3 : Option Addr) (c3 : Nat), v0 = .agg #[.int .i64 h.k, .string h.al, .string h.nm, .slice a1 h.args.length c1, .slice a2 h.dirs.length c2, .slice a3 sub.len c3] ∧ HdBd maxLen h ∧ sub.len ≤ maxLen ∧ SelsBd maxLen sub ∧ ArRow 0 W.heap.size W a1 h.args ∧ DiRow 0 W.heap.size W a2 h.dirs ∧ SelRow 0 W.heap.size W a3 sub := by
    obtain ⟨cs, rfl, hsz⟩ := okWide_struct Try.underlying42 (hval 0 42 v0 rfl rfl)
    obtain ⟨fuel, hf⟩ := h0
    have cd : Try.prog.cellsOf 42 = 6 := by kernel_rfl
    have ci : Try.prog.cellsOf 3 = 1 := by kernel_rfl
    have cst : Try.prog.cellsOf 9 = 1 := by kernel_rfl
    have cs1 : Try.prog.cellsOf 38 = 1 := by kernel_rfl
    have cs2 : Try.prog.cellsOf 39 = 1 := by kernel_rfl
    have cs3 : Try.prog.cellsOf 40 = 1 := by kernel_rfl
    obtain ⟨u⟩ := cs
    have hu : u.length = 6 := by rw [cd] at hsz; simpa using hsz
    obtain ⟨u0, u1, u2, u3, u4, u5, rfl⟩ := list6 hu
    obtain ⟨xs, n', rfl, hx, _, hxl, hf⟩ := DataW.trod_struct Try.underlying42 hf
    obtain ⟨y0, y1, y2, y3, y4, y5, rfl⟩ := list6 hxl
    obtain ⟨k, e0, _, _⟩ := DataW.trod_int Try.underlying3 (hf 0 _ rfl)
    obtain ⟨al, e1, _, hal⟩ := DataW.trod_string Try.underlying9 (hf 1 _ rfl)
    obtain ⟨nm, e2, _, hnm⟩ := DataW.trod_string Try.underlying9 (hf 2 _ rfl)
    obtain ⟨a3, c3, args, e3, b3, d3, r3⟩ := args_open (hf 3 _ rfl)
    obtain ⟨a4, c4, dirs, e4, b4, d4, r4⟩ := dirs_open (hf 4 _ rfl)
    obtain ⟨a5, c5, sub, e5, b5, d5, r5⟩ := sels_open (hf 5 _ rfl)
    simp [Value.cells, ci, cst, cs1, cs2, cs3] at e0 e1 e2 e3 e4 e5
    subst e0 e1 e2 e3 e4 e5
    exact ⟨⟨k, al, nm, args, dirs⟩, sub, a3, c3, a4, c4, a5, c5, rfl, ⟨hal, hnm, b3, d3, b4, d4⟩, b5, d5, r3, r4, r5⟩
  have g1 := h1
  have lt1 : ∀ x ∈ p1, x.block < W.heap.size := by obtain ⟨m, hm⟩ := g1; exact DataW.trod_lt m _ _ _ hm
  obtain ⟨a1, c1, l1, rfl, hb1, ht1, hr1⟩ : ∃ a c, ∃ l : List Ar, v1 = .slice a l.length c ∧ l.length ≤ maxLen ∧ (∀ x ∈ l, ArBd maxLen x) ∧ ArRow 0 W.heap.size W a l := by
    obtain ⟨a, len, cap, rfl⟩ := okWide_slice Try.underlying22 (hval 1 22 v1 rfl rfl)
    obtain ⟨fuel, hf⟩ := h1
    obtain ⟨a', c', l, e, h1, h2, h3⟩ := binds_open (by simpa [Value.cells] using hf)
    simp only [List.cons.injEq, and_true] at e
    exact ⟨a', c', l, e, h1, h2, h3⟩
  clear hA0 hval0
  refine (walk hd0 sub0 a01 c01 a02 c02 a03 c03 a1 c1 l1 W r01 r02 r03 ⟨hb0, hl0, hs0⟩ hr1 hb1 ht1).mono fun e W' ⟨he, bel⟩ => ?_
  subst he
  exact ⟨_, rfl, _, _, _, [], _, [], hW', trodAll_mk1 (shut_bool Try.underlying4 _), (trodAll_cons_mk (Below.trod laidOut (by kernel_rfl) (of_decide_eq_true (by kernel_rfl)) g0 bel lt0) (trodAll_cons_mk (Below.trod laidOut (by kernel_rfl) (of_decide_eq_true (by kernel_rfl)) g1 bel lt1) trodAll_mk0)), rfl, bel.frame _, fun h => by cases h⟩

theorem over : Rows.fnExactIncludedRow.holds Try.pinned (OpenSpec.ofChange Rows.fnExactIncludedSpec) :=
  OpenClaim.holds_of_wide 5 Try.f5 rfl rfl rfl rfl rfl rfl rfl ⟨rfl, rfl, rfl, rfl, rfl⟩ rfl rfl rfl rfl rfl (by kernel_rfl) Try.func5 (by kernel_rfl)
    (of_decide_eq_true (by kernel_rfl)) (by unfold Func.isWrapper; first | (rw [if_pos (by decide +kernel)]; kernel_rfl) | (rw [if_neg (by decide +kernel)]; exact ⟨rfl, rfl⟩))
    (fun os started H enc _ => lifted os started H enc)
end Go.Proofs.Ytdhgojeanebhoaa.fnExactIncluded
namespace Go.Proofs.Ytdhgojeanebhoaa
theorem included_holds : Rows.FnExactIncludedSaid := fnExactIncluded.over
#print axioms included_holds
end Go.Proofs.Ytdhgojeanebhoaa
