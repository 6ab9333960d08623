/- Proved: at every value the law FnExactOutText returns true, and its argument reads afterwards as it read before; the library's tables that the row lists are tied to the program's text by the card. -/
import Derived.Test.YthlijnfknejlnaaDoorOuTab
import Derived.Test.YthlijnfknejlnaaDoorOuEq
import Derived.Test.YthlijnfknejlnaaDoorOuSz
import Derived.Test.YthlijnfknejlnaaDoorOuTo
import Derived.Test.YthlijnfknejlnaaDoorTie
import Derived.Test.YthlijnfknejlnaaDoorCards
import Derived.SevenTiedAt
import Derived.OpenVars
import Derived.ChangeOld
import Derived.Below
import Derived.Lib.SmallJoins
import Derived.Deep.CutRange
namespace Go.Proofs.YthlijnfknejlnaaDoor.fnExactOutText
open Go.ChangeShapes Go.WideShapes Go.ChangeAt Go.RowKit
open Go.ChangeMaps (open_string shut_string)
open Go.Proofs.YthlijnfknejlnaaDoor.G Go.Proofs.YthlijnfknejlnaaDoor.Ot
set_option linter.unusedVariables false

set_option maxHeartbeats 8000000 in
set_option maxRecDepth 40000 in
theorem walk (h : Oh) (sub : Ous) (a1 a2 : Option Addr) (c1 c2 : Nat) (w : World) (hr : KeRow 0 w.heap.size w a1 h.keys) (hq : OuRow 0 w.heap.size w a2 sub) (hb : OhBd maxLen h) (hl : sub.len ≤ maxLen) (hs : OusBd maxLen sub) (hp : Pow w) :
    Calls Tryd.prog 3 #[.agg #[.int .i64 h.k, .int .i64 h.n, .string h.t, .slice a1 h.keys.length c1, .slice a2 sub.len c2]] w fun e w' => e = .returned (.bool true) ∧ Below w.heap.size w w' := by
  have B0 : Hid (Below w.heap.size w (w.alloc (.cells #[.int .i64 h.k, .int .i64 h.n, .string h.t, .slice a1 h.keys.length c1, .slice a2 sub.len c2] 25))) := (Below.refl _ _).alloc (Nat.le_refl _) _
  have K0 : Hid (∀ W0, Below w.heap.size w W0 → KeRow 0 W0.heap.size W0 a1 h.keys ∧ OuRow 0 W0.heap.size W0 a2 sub) := fun W0 hB => ⟨KeRow.up hr hB, OuRow.up hq hB⟩
  have HPW : Hid (∀ W0, Below w.heap.size w W0 → Pow W0) := fun W0 hB => hp.up hB
  have HD : Hid (OhBd maxLen h) := hb
  have HD2 : Hid (OusBd maxLen sub) := hs
  skip
  clear hr hq hb hs hp
  go_enter Tryd.func3, Tryd.ntmps3
  go_wp2_with fail
  refine (sz_out h sub (sz_ous sub) a1 a2 c1 c2 1048576 _ (K0.out _ B0.out).1 (K0.out _ B0.out).2 HD.out hl HD2.out (by omega) (by omega)).mono ?_
  rintro e w1 ⟨m, rfl, hm, hb1⟩
  have HM : Hid (Sz 1048576 m (OhBd 1048576 h ∧ sub.len ≤ 1048576 ∧ OusBd 1048576 sub)) := hm
  clear hm
  have A1 : Hid (w1.heap[w.heap.size]? = some (.cells #[.int .i64 h.k, .int .i64 h.n, .string h.t, .slice a1 h.keys.length c1, .slice a2 sub.len c2] 25 (0, 0))) := (hb1.block _ (by simp)).trans (heap_alloc_new _ _)
  have z1 : w.heap.size + 1 ≤ w1.heap.size := size_one hb1
  have q1 : Hid (Below w.heap.size w w1) := below_one hb1
  clear hb1
  by_cases hneg : m < 0
  · go_wp2_with fail
    go_ret
    exact ⟨rfl, q1.out⟩
  have HE : Hid (OhBd 1048576 h ∧ sub.len ≤ 1048576 ∧ OusBd 1048576 sub) := HM.out.2.2 (by omega)
  clear HM
  have x1 := fun o => row_cell A1.out o
  go_wp2_with fail
  refine (to_out h sub (to_ous sub) a1 a2 c1 c2 _ (K0.out _ q1.out).1 (K0.out _ q1.out).2 HE.out.1 HE.out.2.1 HE.out.2.2).mono ?_
  rintro e w2 ⟨b2, d2, rfl, r2, s2, hb2⟩
  have RA : Hid (KeRow 0 w2.heap.size w2 b2 h.keys ∧ OuRow 0 w2.heap.size w2 d2 sub) := ⟨KeRow.wide r2 (Nat.zero_le _) (Nat.le_refl _), OuRow.wide s2 (Nat.zero_le _) (Nat.le_refl _)⟩
  have z2 : w.heap.size + 1 ≤ w2.heap.size := by have := hb2.size; omega
  have q2 : Hid (Below w.heap.size w w2) := q1.out.trans (hb2.mono (by omega))
  have A2 : Hid (w2.heap[w.heap.size]? = some (.cells #[.int .i64 h.k, .int .i64 h.n, .string h.t, .slice a1 h.keys.length c1, .slice a2 sub.len c2] 25 (0, 0))) := (hb2.block _ (by omega)).trans A1.out
  clear r2 s2 hb2 x1 A1
  have SQ : Hid (∀ W, KeRow 0 W.heap.size W b2 h.keys → OuRow 0 W.heap.size W d2 sub → Calls Tryd.prog 6 #[.agg #[.int .i64 h.k, .int .i64 h.n, .string h.t, .slice b2 h.keys.length h.keys.length, .slice d2 sub.len sub.len]] W fun e w' => e = outE h sub ∧ Below W.heap.size W w') := fun W g1 g2 => spec_outText h sub b2 d2 _ _ W g1 (Nat.le_refl _) g2 HE.out.1 HE.out.2.1 HE.out.2.2
  have IQ : Hid (∀ (b4 d4 : Option Addr) (W : World), KeRow 0 W.heap.size W b4 h.keys → OuRow 0 W.heap.size W d4 sub → Pow W → Calls Tryd.prog 8 #[.agg #[.int .i64 h.k, .int .i64 h.n, .string h.t, .slice b4 h.keys.length h.keys.length, .slice d4 sub.len sub.len]] W fun e w' => e = outE h sub ∧ Below W.heap.size W w') := fun b4 d4 W g1 g2 g3 => impl_outText h sub b4 d4 _ _ W g1 (Nat.le_refl _) g2 HE.out.1 HE.out.2.1 HE.out.2.2 g3
  obtain ⟨x, y, hE⟩ : ∃ (x : ByteArray) (y : Int), outE h sub = .returned (.tuple #[.string x, .int .i64 y]) := by
    unfold outE; split <;> exact ⟨_, _, rfl⟩
  rw [hE] at SQ IQ
  clear hE
  go_wp2_with fail
  refine Calls.mono (SQ.out _ RA.out.1 RA.out.2) ?_
  rintro e w3 ⟨rfl, hb3⟩
  have z3 : w.heap.size + 1 ≤ w3.heap.size := by have := hb3.size; omega
  have q3 : Hid (Below w.heap.size w w3) := q2.out.trans (hb3.mono (by omega))
  have A3 : Hid (w3.heap[w.heap.size]? = some (.cells #[.int .i64 h.k, .int .i64 h.n, .string h.t, .slice a1 h.keys.length c1, .slice a2 sub.len c2] 25 (0, 0))) := (hb3.block _ (by omega)).trans A2.out
  have x3 := fun o => row_cell A3.out o
  clear hb3 A2
  go_wp2_with fail
  refine (to_out h sub (to_ous sub) a1 a2 c1 c2 _ (K0.out _ q3.out).1 (K0.out _ q3.out).2 HE.out.1 HE.out.2.1 HE.out.2.2).mono ?_
  rintro e w4 ⟨b4, d4, rfl, r4, s4, hb4⟩
  have R4 : Hid (∀ W0, Below w4.heap.size w4 W0 → KeRow 0 W0.heap.size W0 b4 h.keys ∧ OuRow 0 W0.heap.size W0 d4 sub) := fun W0 hB => ⟨KeRow.up (KeRow.wide r4 (Nat.zero_le _) (Nat.le_refl _)) hB, OuRow.up (OuRow.wide s4 (Nat.zero_le _) (Nat.le_refl _)) hB⟩
  have z4 : w.heap.size + 1 ≤ w4.heap.size := by have := hb4.size; omega
  have q4 : Hid (Below w.heap.size w w4) := q3.out.trans (hb4.mono (by omega))
  have A4 : Hid (w4.heap[w.heap.size]? = some (.cells #[.int .i64 h.k, .int .i64 h.n, .string h.t, .slice a1 h.keys.length c1, .slice a2 sub.len c2] 25 (0, 0))) := (hb4.block _ (by omega)).trans A3.out
  clear r4 s4 hb4 x3 A3
  go_wp2_with fail
  have BA : Hid (Below w4.heap.size w4 (w4.alloc (.cells #[.int .i64 h.k, .int .i64 h.n, .string h.t, .slice b4 h.keys.length h.keys.length, .slice d4 sub.len sub.len] 31))) := (Below.refl _ _).alloc (Nat.le_refl _) _
  refine Calls.mono (IQ.out _ _ _ (R4.out _ BA.out).1 (R4.out _ BA.out).2 (HPW.out _ (q4.out.trans (BA.out.mono (by omega))))) ?_
  rintro e w5 ⟨rfl, hb5⟩
  have X5 : Hid (w5.heap[w4.heap.size]? = some (.cells #[.int .i64 h.k, .int .i64 h.n, .string h.t, .slice b4 h.keys.length h.keys.length, .slice d4 sub.len sub.len] 31 (0, 0))) := (hb5.block _ (by simp)).trans (heap_alloc_new _ _)
  have z5 : w4.heap.size + 1 ≤ w5.heap.size := size_one hb5
  have p5 : Hid (Below w4.heap.size w4 w5) := below_one hb5
  have A5 : Hid (w5.heap[w.heap.size]? = some (.cells #[.int .i64 h.k, .int .i64 h.n, .string h.t, .slice a1 h.keys.length c1, .slice a2 sub.len c2] 25 (0, 0))) := (p5.out.block _ (by omega)).trans A4.out
  have x5 := fun o => row_cell A5.out o
  have e5 := fun o => row_cell X5.out o
  clear hb5 A4 BA
  go_wp2_with fail
  go_region_with (first
    | (go_at_call 7
       refine Calls.mono (to_out h sub (to_ous sub) a1 a2 c1 c2 _ (K0.out _ ?hb).1 (K0.out _ ?hb).2 HE.out.1 HE.out.2.1 HE.out.2.2) ?_
       case hb => exact q4.out.trans ((p5.out.drew).mono (by omega))
       rintro e w6 ⟨b6, d6, rfl, r6, s6, hb6⟩
       have e6 := fun o => (hb6.cell (p := ⟨w4.heap.size, o, none⟩) (show w4.heap.size < w5.heap.size by omega)).trans (e5 o)
       have R6 : Hid (KeRow 0 w6.heap.size w6 b6 h.keys ∧ OuRow 0 w6.heap.size w6 d6 sub) := ⟨KeRow.wide r6 (Nat.zero_le _) (Nat.le_refl _), OuRow.wide s6 (Nat.zero_le _) (Nat.le_refl _)⟩
       have p6 : Hid (Below w4.heap.size w4 w6) := p5.out.drew.trans (hb6.mono (show w4.heap.size ≤ w5.heap.size by omega))
       clear r6 s6 hb6)
    | (go_at_call 9
       refine (eq_out h sub (eq_ous sub) b4 d4 b6 d6 _ _ _ _ _ (R4.out _ p6.out).1 (R4.out _ p6.out).2 R6.out.1 R6.out.2 HE.out.1 HE.out.2.1 HE.out.2.2).mono ?_
       rintro e w7 ⟨rfl, hb7⟩
       have Q7 : Hid (Below w.heap.size w w7) := q4.out.trans ((p6.out.trans (hb7.mono p6.out.size)).mono (by omega))
       clear hb7))
  all_goals (try go_wp2_with fail)
  all_goals go_ret
  all_goals exact ⟨rfl, Q7.out⟩

set_option maxRecDepth 100000 in
theorem lifted (os : Os) (started : os.Started) (H : Type) (enc : TypeId × Value → H) :
    ReturnsInHanded {} Tryd.checked os 3 .any (fun w args => (Rows.fnExactOutTextSpec.pre enc Tryd.prog Tryd.f3 [] false w args ∧ laidMetH Tryd.prog [("math/bits.deBruijn32tab", Rows.laid_math_bits_deBruijn32tab), ("math/bits.deBruijn64tab", Rows.laid_math_bits_deBruijn64tab), ("internal/strconv.uint64pow10", Rows.laid_internal_strconv_uint64pow10)] w) ∧ sizedMet enc Tryd.prog Tryd.f3 (OpenSpec.ofChange Rows.fnExactOutTextSpec) false w args)
      (Rows.fnExactOutTextSpec.post enc Tryd.prog Tryd.f3 false true false false) := by
  refine returnsInHanded_of_change_and (C := Tryd.checked) (X := fun w _ => laidMetH Tryd.prog [("math/bits.deBruijn32tab", Rows.laid_math_bits_deBruijn32tab), ("math/bits.deBruijn64tab", Rows.laid_math_bits_deBruijn64tab), ("internal/strconv.uint64pow10", Rows.laid_internal_strconv_uint64pow10)] w) (fun _ _ _ hh h => h.of_heap hh) own started (by kernel_rfl) Tryd.func3
    (ChangeSpec.witness_shaped (enc := enc) (C := Tryd.checked) (os := os) (X := fun w _ => laidMetH Tryd.prog [("math/bits.deBruijn32tab", Rows.laid_math_bits_deBruijn32tab), ("math/bits.deBruijn64tab", Rows.laid_math_bits_deBruijn64tab), ("internal/strconv.uint64pow10", Rows.laid_internal_strconv_uint64pow10)] w) false (World.doorLaid Tryd.prog 400 os) #[.agg #[.int .i64 0, .int .i64 0, .string ByteArray.empty, .slice none 0 0, .slice none 0 0]] 8 rfl (World.shaped_of_RefB (by kernel_rfl) (by kernel_rfl)) (by kernel_rfl) (by kernel_rfl) (by kernel_rfl) (door_met os _)) ?_
  intro W base args ds gs before hval0 hW _ hSz hL _
  have hval : ∀ (j : Nat) t v, Tryd.f3.params[j]? = some t → args[j]? = some v → Value.okWide Tryd.prog W .any base t v := hval0
  have hW' := hW
  obtain ⟨p, q, hA0, hV, rfl, hfz, hnd⟩ := hW
  have hA : DataW.TrodAll enc Tryd.prog W 0 (fun _ => true) true Tryd.f3.params.toList args.toList ds p := hA0
  rw [Tryd.params3] at hA hval
  obtain ⟨v0, vs0, d0, ds0, p0, q0, hargs, rfl, rfl, h0, r0⟩ := trodAll_cons hA
  obtain ⟨rfl, rfl, rfl⟩ := trodAll_nil r0
  obtain rfl : args = #[v0] := by cases args; simp_all
  obtain ⟨rfl, rfl⟩ := trodVars_none hV
  have g0 := h0
  have lt0 : ∀ x ∈ p0, x.block < W.heap.size := by obtain ⟨m, hm⟩ := g0; exact DataW.trod_lt m _ _ _ hm
  obtain ⟨oh0, os0, oa0, ob0, oc0, od0, rfl, oe0, hb0, hl0, hs0, hr0, hq0⟩ : ∃ (h : Oh) (sub : Ous) (a1 a2 : Option Addr) (c1 c2 : Nat), v0 = .agg #[.int .i64 h.k, .int .i64 h.n, .string h.t, .slice a1 h.keys.length c1, .slice a2 sub.len c2] ∧ h.keys.length ≤ c1 ∧ OhBd maxLen h ∧ sub.len ≤ maxLen ∧ OusBd maxLen sub ∧ KeRow 0 W.heap.size W a1 h.keys ∧ OuRow 0 W.heap.size W a2 sub := by
    obtain ⟨cs, rfl, hsz⟩ := okWide_struct Tryd.underlying25 (hval 0 25 v0 rfl rfl)
    obtain ⟨fuel, hf⟩ := h0
    obtain ⟨u⟩ := cs
    obtain ⟨h, sub, a1, a2, c1, c2, e, h1, h2, h3, h4, h5, h6⟩ := out_open (by simpa [Value.cells] using hf)
    subst e
    exact ⟨h, sub, a1, a2, c1, c2, rfl, h1, h2, h3, h4, h5, h6⟩
  clear hA0 hval0
  refine (walk oh0 os0 oa0 ob0 oc0 od0 W hr0 hq0 hb0 hl0 hs0 (pow_of_laid hL)).mono fun e W' ⟨he, bel⟩ => ?_
  subst he
  exact ⟨_, rfl, _, _, _, [], _, [], hW', trodAll_mk1 (shut_bool Tryd.underlying4 _), (trodAll_cons_mk (Below.trod laidOut (by kernel_rfl) (of_decide_eq_true (by kernel_rfl)) g0 bel lt0) trodAll_mk0), rfl, bel.frame _, fun h => by cases h⟩

theorem over : Rows.fnExactOutTextRow.holds Tryd.pinned (OpenSpec.ofChange Rows.fnExactOutTextSpec) :=
  OpenClaim.holds_of_wide 3 Tryd.f3 rfl rfl rfl rfl rfl rfl rfl ⟨rfl, rfl, rfl, rfl, rfl⟩ rfl rfl rfl rfl rfl (by kernel_rfl) Tryd.func3 (by kernel_rfl)
    (of_decide_eq_true (by kernel_rfl)) (by unfold Func.isWrapper; first | (rw [if_pos (by decide +kernel)]; kernel_rfl) | (rw [if_neg (by decide +kernel)]; exact ⟨rfl, rfl⟩))
    (fun os started H enc _ => lifted os started H enc)
end Go.Proofs.YthlijnfknejlnaaDoor.fnExactOutText
namespace Go.Proofs.YthlijnfknejlnaaDoor
open Go
theorem outText_holds : Rows.FnExactOutTextCardSaid :=
  Claim7.holds_tied_plain_at .later [] [.data, .data, .data] true (true, "2d7a9c72f918f4059af2d61b96982ad924eebc83e96c14ae3edc2f43a591fe12") true
    fnExactOutText.over (fun _ h => by cases h) (by kernel_rfl) (fun _ h => by cases h) fnExactOutText_row_tie rfl ⟨rfl, rfl⟩ (by kernel_rfl) rfl
    (fun f fn hf hfn => by
      obtain rfl : f = 3 := Option.some.inj ((show Tryd.prog.funcNamed "loop.example/g00540/laws.FnExactOutText" = some 3 by kernel_rfl).symm.trans hf) |>.symm
      obtain rfl : fn = Tryd.f3 := (Option.some.inj (Tryd.func3.symm.trans hfn)).symm
      exact ⟨by kernel_rfl, fun j t ht => by
        rw [Tryd.params3] at ht
        have hm : t ∈ [25] := by simpa using Array.mem_of_getElem? ht
        have hall : ([25].all fun u => !Tryd.prog.wantsStandIn u) = true := by kernel_rfl
        exact (show Tryd.prog.wantsStandIn t = false by simpa using List.all_eq_true.1 hall t hm)⟩)
    (by kernel_rfl)
#print axioms outText_holds
end Go.Proofs.YthlijnfknejlnaaDoor
