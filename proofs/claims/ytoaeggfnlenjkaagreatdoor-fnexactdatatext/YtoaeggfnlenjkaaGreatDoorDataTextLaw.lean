/- Proved: at every value and list of texts the law FnExactDataText returns true, and its arguments read afterwards as they read before; the library's variables that the row lists are tied to the program's text by the card. -/
import Derived.Test.YtoaeggfnlenjkaaGreatDoorDtTab
import Derived.Test.YtoaeggfnlenjkaaGreatDoorDtSz
import Derived.Test.YtoaeggfnlenjkaaGreatDoorOuEq
import Derived.Test.YtoaeggfnlenjkaaGreatDoorOuSz
import Derived.Test.YtoaeggfnlenjkaaGreatDoorOuTo
import Derived.Test.YtoaeggfnlenjkaaGreatDoorTie
import Derived.Test.YtoaeggfnlenjkaaGreatDoorCards
import Derived.SevenTiedAt
import Derived.OpenVars
import Derived.ChangeOld
import Derived.Below
import Derived.Lib.SmallJoins
import Derived.Deep.CutRange
namespace Go.Proofs.YtoaeggfnlenjkaaGreatDoor.fnExactDataText
open Go.ChangeShapes Go.WideShapes Go.ChangeAt Go.RowKit
open Go.ChangeMaps (open_string shut_string)
open Go.Proofs.YtoaeggfnlenjkaaGreatDoor.G Go.Proofs.YtoaeggfnlenjkaaGreatDoor.Dt
set_option linter.unusedVariables false

set_option maxHeartbeats 8000000 in
set_option maxRecDepth 40000 in
theorem walk (h : Oh) (sub : Ous) (a1 a2 : Option Addr) (c1 c2 : Nat) (ps : List ByteArray) (a : Option Addr) (c : Nat) (w : World) (hr : KeRow 0 w.heap.size w a1 h.keys) (hq : OuRow 0 w.heap.size w a2 sub) (hb : OhBd maxLen h) (hl : sub.len ≤ maxLen) (hs : OusBd maxLen sub) (hr' : KeRow 0 w.heap.size w a ps) (hl' : ps.length ≤ maxLen) (ht' : ∀ x ∈ ps, x.size ≤ maxLen) (hv : Vars w) :
    Calls Tryz.prog 4 #[.agg #[.int .i64 h.k, .int .i64 h.n, .string h.t, .slice a1 h.keys.length c1, .slice a2 sub.len c2], .slice a ps.length c] w fun e w' => e = .returned (.bool true) ∧ Below w.heap.size w w' := by
  have B0 : Hid (Below w.heap.size w (w.alloc (.cells #[.int .i64 h.k, .int .i64 h.n, .string h.t, .slice a1 h.keys.length c1, .slice a2 sub.len c2] 41))) := (Below.refl _ _).alloc (Nat.le_refl _) _
  have K0 : Hid (∀ W0, Below w.heap.size w W0 → KeRow 0 W0.heap.size W0 a1 h.keys ∧ OuRow 0 W0.heap.size W0 a2 sub ∧ KeRow 0 W0.heap.size W0 a ps ∧ Vars W0) := fun W0 hB => ⟨KeRow.up hr hB, OuRow.up hq hB, KeRow.up hr' hB, hv.up hB⟩
  have HD : Hid (OhBd maxLen h) := hb
  have HD2 : Hid (OusBd maxLen sub) := hs
  have HT : Hid _ := ht'
  clear hr hq hb hs hr' ht' hv
  go_enter Tryz.func4, Tryz.ntmps4
  go_wp2_with fail
  refine (sz_out h sub (sz_ous sub) a1 a2 c1 c2 1048576 _ (K0.out _ B0.out).1 (K0.out _ B0.out).2.1 HD.out hl HD2.out (by omega) (by omega)).mono ?_
  rintro e w1 ⟨m, rfl, hm, hb1⟩
  have HM : Hid (Sz 1048576 m (OhBd 1048576 h ∧ sub.len ≤ 1048576 ∧ OusBd 1048576 sub)) := hm
  have hm1 := hm.1
  clear hm
  have A1 : Hid (w1.heap[w.heap.size]? = some (.cells #[.int .i64 h.k, .int .i64 h.n, .string h.t, .slice a1 h.keys.length c1, .slice a2 sub.len c2] 41 (0, 0))) := (hb1.block _ (by simp)).trans (heap_alloc_new _ _)
  have z1 : w.heap.size + 1 ≤ w1.heap.size := size_one hb1
  have q1 : Hid (Below w.heap.size w w1) := below_one hb1
  clear hb1
  by_cases hneg : m < 0
  · go_wp2_with fail
    go_ret
    exact ⟨rfl, q1.out⟩
  have HE : Hid (OhBd 1048576 h ∧ sub.len ≤ 1048576 ∧ OusBd 1048576 sub) := HM.out.2.2 (by omega)
  clear HM
  have x1 := fun o => row_cell A1.out o
  go_wp2_with fail
  refine (sz_texts a c ps m _ (K0.out _ q1.out).2.2.1 hl' HT.out (by omega) (by omega)).mono ?_
  rintro e w1' ⟨m', rfl, hm', rfl⟩
  have HM : Hid (Sz m m' (sumW ps ≤ 1048576)) := hm'
  clear hm'
  by_cases hneg' : m' < 0
  · go_wp2_with fail
    go_ret
    exact ⟨rfl, q1.out⟩
  have HZ : Hid (sumW ps ≤ 1048576) := HM.out.2.2 (by omega)
  have hpl : ps.length ≤ 1048576 := by have h1 := HZ.out; have h2 := len_sumW ps; omega
  clear HM
  have SQ : Hid (∀ (b2 d2 a' : Option Addr) (W : World), KeRow 0 W.heap.size W b2 h.keys → OuRow 0 W.heap.size W d2 sub → KeRow 0 W.heap.size W a' ps → Calls Tryz.prog 12 #[.agg #[.int .i64 h.k, .int .i64 h.n, .string h.t, .slice b2 h.keys.length h.keys.length, .slice d2 sub.len sub.len], .slice a' ps.length ps.length] W fun e w' => e = dataE h sub ps ∧ Below W.heap.size W w') := fun b2 d2 a' W g1 g2 g3 => spec_dataText h sub b2 d2 a' _ _ _ ps W g1 (Nat.le_refl _) g2 HE.out.1 HE.out.2.1 HE.out.2.2 g3 HZ.out
  have IQ : Hid (∀ (b2 d2 a' : Option Addr) (W : World), KeRow 0 W.heap.size W b2 h.keys → OuRow 0 W.heap.size W d2 sub → KeRow 0 W.heap.size W a' ps → Vars W → Calls Tryz.prog 11 #[.agg #[.int .i64 h.k, .int .i64 h.n, .string h.t, .slice b2 h.keys.length h.keys.length, .slice d2 sub.len sub.len], .slice a' ps.length ps.length] W fun e w' => e = dataE h sub ps ∧ Below W.heap.size W w') := fun b2 d2 a' W g1 g2 g3 g4 => impl_dataText h sub b2 d2 a' _ _ _ ps W g1 (Nat.le_refl _) g2 HE.out.1 HE.out.2.1 HE.out.2.2 g3 HZ.out g4
  obtain ⟨x, y, hE⟩ : ∃ (x : ByteArray) (y : Int), dataE h sub ps = .returned (.tuple #[.string x, .int .i64 y]) := by
    unfold dataE
    split
    · exact ⟨_, _, rfl⟩
    · split
      · exact ⟨_, _, rfl⟩
      · split <;> exact ⟨_, _, rfl⟩
  rw [hE] at SQ IQ
  clear hE
  go_wp2_with fail
  refine (to_out h sub (to_ous sub) a1 a2 c1 c2 _ (K0.out _ q1.out).1 (K0.out _ q1.out).2.1 HE.out.1 HE.out.2.1 HE.out.2.2).mono ?_
  rintro e w2 ⟨b2, d2, rfl, r2, s2, hb2⟩
  have R2 : Hid (∀ W0, Below w2.heap.size w2 W0 → KeRow 0 W0.heap.size W0 b2 h.keys ∧ OuRow 0 W0.heap.size W0 d2 sub) := fun W0 hB => ⟨KeRow.up (KeRow.wide r2 (Nat.zero_le _) (Nat.le_refl _)) hB, OuRow.up (OuRow.wide s2 (Nat.zero_le _) (Nat.le_refl _)) hB⟩
  have z2 : w.heap.size + 1 ≤ w2.heap.size := by have := hb2.size; omega
  have q2 : Hid (Below w.heap.size w w2) := q1.out.trans (hb2.mono (by omega))
  have A2 : Hid (w2.heap[w.heap.size]? = some (.cells #[.int .i64 h.k, .int .i64 h.n, .string h.t, .slice a1 h.keys.length c1, .slice a2 sub.len c2] 41 (0, 0))) := (hb2.block _ (by omega)).trans A1.out
  have x2 := fun o => row_cell A2.out o
  clear x1 A1
  clear r2 s2 hb2
  go_wp2_with fail
  refine (to_keys a c ps _ (K0.out _ q2.out).2.2.1 hpl).mono ?_
  rintro e w3 ⟨f3, rfl, r3, hb3⟩
  have R3 : Hid (KeRow 0 w3.heap.size w3 f3 ps ∧ KeRow 0 w3.heap.size w3 b2 h.keys ∧ OuRow 0 w3.heap.size w3 d2 sub) := ⟨KeRow.wide r3 (Nat.zero_le _) (Nat.le_refl _), (R2.out _ hb3).1, (R2.out _ hb3).2⟩
  have z3 : w.heap.size + 1 ≤ w3.heap.size := by have := hb3.size; omega
  have q3 : Hid (Below w.heap.size w w3) := q2.out.trans (hb3.mono (by omega))
  have A3 : Hid (w3.heap[w.heap.size]? = some (.cells #[.int .i64 h.k, .int .i64 h.n, .string h.t, .slice a1 h.keys.length c1, .slice a2 sub.len c2] 41 (0, 0))) := (hb3.block _ (by omega)).trans A2.out
  have x3 := fun o => row_cell A3.out o
  clear x2 A2
  clear r3 hb3 R2
  go_wp2_with fail
  refine Calls.mono (SQ.out _ _ _ _ R3.out.2.1 R3.out.2.2 R3.out.1) ?_
  rintro e w4 ⟨rfl, hb4⟩
  have z4 : w.heap.size + 1 ≤ w4.heap.size := by have := hb4.size; omega
  have q4 : Hid (Below w.heap.size w w4) := q3.out.trans (hb4.mono (by omega))
  have A4 : Hid (w4.heap[w.heap.size]? = some (.cells #[.int .i64 h.k, .int .i64 h.n, .string h.t, .slice a1 h.keys.length c1, .slice a2 sub.len c2] 41 (0, 0))) := (hb4.block _ (by omega)).trans A3.out
  have x4 := fun o => row_cell A4.out o
  clear x3 A3
  clear hb4 R3 SQ
  go_wp2_with fail
  refine (to_out h sub (to_ous sub) a1 a2 c1 c2 _ (K0.out _ q4.out).1 (K0.out _ q4.out).2.1 HE.out.1 HE.out.2.1 HE.out.2.2).mono ?_
  rintro e w5 ⟨b5, d5, rfl, r5, s5, hb5⟩
  have R5 : Hid (∀ W0, Below w5.heap.size w5 W0 → KeRow 0 W0.heap.size W0 b5 h.keys ∧ OuRow 0 W0.heap.size W0 d5 sub) := fun W0 hB => ⟨KeRow.up (KeRow.wide r5 (Nat.zero_le _) (Nat.le_refl _)) hB, OuRow.up (OuRow.wide s5 (Nat.zero_le _) (Nat.le_refl _)) hB⟩
  have z5 : w.heap.size + 1 ≤ w5.heap.size := by have := hb5.size; omega
  have q5 : Hid (Below w.heap.size w w5) := q4.out.trans (hb5.mono (by omega))
  have A5 : Hid (w5.heap[w.heap.size]? = some (.cells #[.int .i64 h.k, .int .i64 h.n, .string h.t, .slice a1 h.keys.length c1, .slice a2 sub.len c2] 41 (0, 0))) := (hb5.block _ (by omega)).trans A4.out
  have x5 := fun o => row_cell A5.out o
  clear x4 A4
  clear r5 s5 hb5
  have S5 : Hid (Below w5.heap.size w5 (w5.alloc (.cells #[.int .i64 h.k, .int .i64 h.n, .string h.t, .slice b5 h.keys.length h.keys.length, .slice d5 sub.len sub.len] 26))) := (Below.refl _ _).alloc (Nat.le_refl _) _
  have S5' : Hid (Below w.heap.size w (w5.alloc (.cells #[.int .i64 h.k, .int .i64 h.n, .string h.t, .slice b5 h.keys.length h.keys.length, .slice d5 sub.len sub.len] 26))) := q5.out.trans (S5.out.mono (by omega))
  go_wp2_with fail
  refine (to_keys a c ps _ (K0.out _ S5'.out).2.2.1 hpl).mono ?_
  rintro e w6 ⟨f6, rfl, r6, hb6⟩
  have X6 : Hid (w6.heap[w5.heap.size]? = some (.cells #[.int .i64 h.k, .int .i64 h.n, .string h.t, .slice b5 h.keys.length h.keys.length, .slice d5 sub.len sub.len] 26 (0, 0))) := (hb6.block _ (by simp)).trans (heap_alloc_new _ _)
  have z6 : w5.heap.size + 1 ≤ w6.heap.size := size_one hb6
  have p6 : Hid (Below w5.heap.size w5 w6) := below_one hb6
  have A6 : Hid (w6.heap[w.heap.size]? = some (.cells #[.int .i64 h.k, .int .i64 h.n, .string h.t, .slice a1 h.keys.length c1, .slice a2 sub.len c2] 41 (0, 0))) := (p6.out.block _ (by omega)).trans A5.out
  have q6 : Hid (Below w.heap.size w w6) := q5.out.trans (p6.out.mono (by omega))
  have R6 : Hid (∀ W0, Below w6.heap.size w6 W0 → KeRow 0 W0.heap.size W0 f6 ps) := fun W0 hB => KeRow.up (KeRow.wide r6 (Nat.zero_le _) (Nat.le_refl _)) hB
  have e6 := fun o => row_cell X6.out o
  clear r6 hb6 x5 A5 S5 S5'
  go_wp2_with fail
  refine Calls.mono (IQ.out _ _ _ _ (R5.out _ p6.out).1 (R5.out _ p6.out).2 (R6.out _ (Below.refl _ _)) (K0.out _ q6.out).2.2.2) ?_
  rintro e w7 ⟨rfl, hb7⟩
  have z7 : w6.heap.size ≤ w7.heap.size := hb7.size
  have T7 : Hid (Below w6.heap.size w6 w7) := hb7
  have p7 : Hid (Below w5.heap.size w5 w7) := p6.out.trans (hb7.mono p6.out.size)
  have q7 : Hid (Below w.heap.size w w7) := q6.out.trans (hb7.mono q6.out.size)
  have A7 : Hid (w7.heap[w.heap.size]? = some (.cells #[.int .i64 h.k, .int .i64 h.n, .string h.t, .slice a1 h.keys.length c1, .slice a2 sub.len c2] 41 (0, 0))) := (hb7.block _ (by omega)).trans A6.out
  have X7 : Hid (w7.heap[w5.heap.size]? = some (.cells #[.int .i64 h.k, .int .i64 h.n, .string h.t, .slice b5 h.keys.length h.keys.length, .slice d5 sub.len sub.len] 26 (0, 0))) := (hb7.block _ (by omega)).trans X6.out
  have x7 := fun o => row_cell A7.out o
  have e7 := fun o => row_cell X7.out o
  clear hb7 A6 X6 e6 IQ
  go_wp2_with fail
  go_cut [52] from 48 to 52 (fun u wx => u = .bool false ∧ w7.heap.size ≤ wx.heap.size ∧ Hid (Below w7.heap.size w7 wx))
  case first =>
   go_region_with (first
    | (go_at_call 20
       refine Calls.mono (to_out h sub (to_ous sub) a1 a2 c1 c2 _ (K0.out _ ?hb).1 (K0.out _ ?hb).2.1 HE.out.1 HE.out.2.1 HE.out.2.2) ?_
       case hb => exact q7.out.drew
       rintro e w8 ⟨b8, d8, rfl, r8, s8, hb8⟩
       have e8 := fun o => (hb8.cell (p := ⟨w5.heap.size, o, none⟩) (show w5.heap.size < w7.heap.size by omega)).trans (e7 o)
       have R8 : Hid (KeRow 0 w8.heap.size w8 b8 h.keys ∧ OuRow 0 w8.heap.size w8 d8 sub) := ⟨KeRow.wide r8 (Nat.zero_le _) (Nat.le_refl _), OuRow.wide s8 (Nat.zero_le _) (Nat.le_refl _)⟩
       have t8 : Hid (Below w7.heap.size w7 w8) := (Below.refl _ _).drew.trans hb8
       clear r8 s8 hb8)
    | (go_at_call 22
       refine Calls.mono (eq_out h sub (eq_ous sub) b5 d5 b8 d8 _ _ _ _ _ (R5.out _ (p7.out.trans (t8.out.mono p7.out.size))).1 (R5.out _ (p7.out.trans (t8.out.mono p7.out.size))).2 R8.out.1 R8.out.2 HE.out.1 HE.out.2.1 HE.out.2.2) ?_
       rintro e w9 ⟨rfl, hb9⟩
       have T9 : Hid (Below w7.heap.size w7 w9) := t8.out.trans (hb9.mono t8.out.size)
       clear hb9))
   all_goals
    clear x7 e7 e8 R8 t8
    try go_wp2_with fail
    go_meet
    exact ⟨rfl, T9.out.size, T9⟩
  obtain ⟨w9, rfl⟩ : ∃ x, x = wc := ⟨_, rfl⟩
  obtain ⟨rfl, z9, T9⟩ := hcut
  have q9 : Hid (Below w.heap.size w w9) := q7.out.trans (T9.out.mono q7.out.size)
  clear x7 e7 A7 X7
  go_wp2_with fail
  refine (to_keys a c ps _ (K0.out _ q9.out).2.2.1 hpl).mono ?_
  rintro e w10 ⟨f10, rfl, r10, hb10⟩
  have R10 : Hid (KeRow 0 w10.heap.size w10 f10 ps) := KeRow.wide r10 (Nat.zero_le _) (Nat.le_refl _)
  have q10 : Hid (Below w.heap.size w w10) := q9.out.trans (hb10.mono q9.out.size)
  have T10 : Hid (Below w6.heap.size w6 w10) := T7.out.trans ((T9.out.trans (hb10.mono z9)).mono z7)
  clear r10 hb10
  go_wp2_with fail
  refine (eq_keys f6 f10 _ _ ps _ (R6.out _ T10.out) R10.out hpl).mono ?_
  rintro e w11 ⟨rfl, hb11⟩
  have q11 : Hid (Below w.heap.size w w11) := q10.out.trans (hb11.mono q10.out.size)
  clear hb11
  go_wp2_with fail
  go_ret
  exact ⟨rfl, q11.out⟩

set_option maxRecDepth 100000 in
theorem lifted (os : Os) (started : os.Started) (H : Type) (enc : TypeId × Value → H) :
    ReturnsInHanded {} Tryz.checked os 4 .any (fun w args => (Rows.fnExactDataTextSpec.pre enc Tryz.prog Tryz.f4 [] false w args ∧ laidMetH Tryz.prog [("math/bits.deBruijn32tab", Rows.laid_math_bits_deBruijn32tab), ("math/bits.deBruijn64tab", Rows.laid_math_bits_deBruijn64tab), ("internal/strconv.uint64pow10", Rows.laid_internal_strconv_uint64pow10), ("strconv.ErrRange", Rows.laid_strconv_ErrRange), ("strconv.ErrSyntax", Rows.laid_strconv_ErrSyntax)] w) ∧ sizedMet enc Tryz.prog Tryz.f4 (OpenSpec.ofChange Rows.fnExactDataTextSpec) false w args)
      (Rows.fnExactDataTextSpec.post enc Tryz.prog Tryz.f4 false true false false) := by
  refine returnsInHanded_of_change_and (C := Tryz.checked) (X := fun w _ => laidMetH Tryz.prog [("math/bits.deBruijn32tab", Rows.laid_math_bits_deBruijn32tab), ("math/bits.deBruijn64tab", Rows.laid_math_bits_deBruijn64tab), ("internal/strconv.uint64pow10", Rows.laid_internal_strconv_uint64pow10), ("strconv.ErrRange", Rows.laid_strconv_ErrRange), ("strconv.ErrSyntax", Rows.laid_strconv_ErrSyntax)] w) (fun _ _ _ hh h => h.of_heap hh) own started (by kernel_rfl) Tryz.func4
    (ChangeSpec.witness_shaped (enc := enc) (C := Tryz.checked) (os := os) (X := fun w _ => laidMetH Tryz.prog [("math/bits.deBruijn32tab", Rows.laid_math_bits_deBruijn32tab), ("math/bits.deBruijn64tab", Rows.laid_math_bits_deBruijn64tab), ("internal/strconv.uint64pow10", Rows.laid_internal_strconv_uint64pow10), ("strconv.ErrRange", Rows.laid_strconv_ErrRange), ("strconv.ErrSyntax", Rows.laid_strconv_ErrSyntax)] w) false (World.doorLaid Tryz.prog 400 os) #[.agg #[.int .i64 0, .int .i64 0, .string ByteArray.empty, .slice none 0 0, .slice none 0 0], .slice none 0 0] 8 rfl (World.shaped_of_RefB (by kernel_rfl) (by kernel_rfl)) (by kernel_rfl) (by kernel_rfl) (by kernel_rfl) (door_met os _)) ?_
  intro W base args ds gs before hval0 hW _ hSz hL _
  have hval : ∀ (j : Nat) t v, Tryz.f4.params[j]? = some t → args[j]? = some v → Value.okWide Tryz.prog W .any base t v := hval0
  have hW' := hW
  obtain ⟨p, q, hA0, hV, rfl, hfz, hnd⟩ := hW
  have hA : DataW.TrodAll enc Tryz.prog W 0 (fun _ => true) true Tryz.f4.params.toList args.toList ds p := hA0
  rw [Tryz.params4] at hA hval
  obtain ⟨v0, vs0, d0, ds0, p0, q0, hargs, rfl, rfl, h0, r0⟩ := trodAll_cons hA
  obtain ⟨v1, vs1, d1, ds1, p1, q1, rfl, rfl, rfl, h1, r1⟩ := trodAll_cons r0
  obtain ⟨rfl, rfl, rfl⟩ := trodAll_nil r1
  obtain rfl : args = #[v0, v1] := by cases args; simp_all
  obtain ⟨rfl, rfl⟩ := trodVars_none hV
  have g0 := h0
  have lt0 : ∀ x ∈ p0, x.block < W.heap.size := by obtain ⟨m, hm⟩ := g0; exact DataW.trod_lt m _ _ _ hm
  obtain ⟨oh0, os0, oa0, ob0, oc0, od0, rfl, oe0, hb0, hl0, hs0, hr0, hq0⟩ : ∃ (h : Oh) (sub : Ous) (a1 a2 : Option Addr) (c1 c2 : Nat), v0 = .agg #[.int .i64 h.k, .int .i64 h.n, .string h.t, .slice a1 h.keys.length c1, .slice a2 sub.len c2] ∧ h.keys.length ≤ c1 ∧ OhBd maxLen h ∧ sub.len ≤ maxLen ∧ OusBd maxLen sub ∧ KeRow 0 W.heap.size W a1 h.keys ∧ OuRow 0 W.heap.size W a2 sub := by
    obtain ⟨cs, rfl, hsz⟩ := okWide_struct Tryz.underlying41 (hval 0 41 v0 rfl rfl)
    obtain ⟨fuel, hf⟩ := h0
    obtain ⟨u⟩ := cs
    obtain ⟨h, sub, a1, a2, c1, c2, e, h1, h2, h3, h4, h5, h6⟩ := out_open (by simpa [Value.cells] using hf)
    subst e
    exact ⟨h, sub, a1, a2, c1, c2, rfl, h1, h2, h3, h4, h5, h6⟩
  have g1 := h1
  have lt1 : ∀ x ∈ p1, x.block < W.heap.size := by obtain ⟨m, hm⟩ := g1; exact DataW.trod_lt m _ _ _ hm
  obtain ⟨ta, tc, tl, rfl, hlt, htt, hrt⟩ : ∃ a c, ∃ l : List ByteArray, v1 = .slice a l.length c ∧ l.length ≤ maxLen ∧ (∀ x ∈ l, x.size ≤ maxLen) ∧ KeRow 0 W.heap.size W a l := by
    obtain ⟨a, len, cap, rfl⟩ := okWide_slice Tryz.underlying23 (hval 1 23 v1 rfl rfl)
    obtain ⟨fuel, hf⟩ := h1
    obtain ⟨a', c', l, e, _, g1, g2, g3⟩ := keys_open (by simpa [Value.cells] using hf)
    simp only [List.cons.injEq, and_true] at e
    exact ⟨a', c', l, e, g1, g2, g3⟩
  clear hA0 hval0
  refine (walk oh0 os0 oa0 ob0 oc0 od0 tl ta tc W hr0 hq0 hb0 hl0 hs0 hrt hlt htt (vars_of_laid hL)).mono fun e W' ⟨he, bel⟩ => ?_
  subst he
  exact ⟨_, rfl, _, _, _, [], _, [], hW', trodAll_mk1 (shut_bool Tryz.underlying4 _), (trodAll_cons_mk (Below.trod laidOut (by kernel_rfl) (of_decide_eq_true (by kernel_rfl)) g0 bel lt0) (trodAll_cons_mk (Below.trod laidOut (by kernel_rfl) (of_decide_eq_true (by kernel_rfl)) g1 bel lt1) trodAll_mk0)), rfl, bel.frame _, fun h => by cases h⟩

theorem over : Rows.fnExactDataTextRow.holds Tryz.pinned (OpenSpec.ofChange Rows.fnExactDataTextSpec) :=
  OpenClaim.holds_of_wide 4 Tryz.f4 rfl rfl rfl rfl rfl rfl rfl ⟨rfl, rfl, rfl, rfl, rfl⟩ rfl rfl rfl rfl rfl (by kernel_rfl) Tryz.func4 (by kernel_rfl)
    (of_decide_eq_true (by kernel_rfl)) (by unfold Func.isWrapper; first | (rw [if_pos (by decide +kernel)]; kernel_rfl) | (rw [if_neg (by decide +kernel)]; exact ⟨rfl, rfl⟩))
    (fun os started H enc _ => lifted os started H enc)
end Go.Proofs.YtoaeggfnlenjkaaGreatDoor.fnExactDataText
namespace Go.Proofs.YtoaeggfnlenjkaaGreatDoor
open Go
theorem dataText_holds : Rows.FnExactDataTextCardSaid :=
  Claim7.holds_tied_plain_at .later [] [.data, .data, .data, .sentinel, .sentinel] true (true, "e72dc85f07de5001532711e1eceb8f7b46e978ba8a69828bd4fe40d218174da7") true
    fnExactDataText.over (fun _ h => by cases h) (by kernel_rfl) (fun _ h => by cases h) fnExactDataText_row_tie rfl ⟨rfl, rfl⟩ (by kernel_rfl) rfl
    (fun f fn hf hfn => by
      obtain rfl : f = 4 := Option.some.inj ((show Tryz.prog.funcNamed "loop.example/g00540/laws.FnExactDataText" = some 4 by kernel_rfl).symm.trans hf) |>.symm
      obtain rfl : fn = Tryz.f4 := (Option.some.inj (Tryz.func4.symm.trans hfn)).symm
      exact ⟨by kernel_rfl, fun j t ht => by
        rw [Tryz.params4] at ht
        have hm : t ∈ [41, 23] := by simpa using Array.mem_of_getElem? ht
        have hall : ([41, 23].all fun u => !Tryz.prog.wantsStandIn u) = true := by kernel_rfl
        exact (show Tryz.prog.wantsStandIn t = false by simpa using List.all_eq_true.1 hall t hm)⟩)
    (by kernel_rfl)
#print axioms dataText_holds
end Go.Proofs.YtoaeggfnlenjkaaGreatDoor
