/- Proved: at every document the law FnExactPrintDoc returns true, and its argument reads afterwards as it read before; the library's tables that the row lists are tied to the program's text by the card. -/
import Derived.Test.YtjhjgkjddpipdaaDoorDocTab
import Derived.Test.YtjhjgkjddpipdaaDoorDocEq
import Derived.Test.YtjhjgkjddpipdaaDoorDocSzTwo
import Derived.Test.YtjhjgkjddpipdaaDoorDocToTwo
import Derived.Test.YtjhjgkjddpipdaaDoorTie
import Derived.Test.YtjhjgkjddpipdaaDoorCards
import Derived.SevenTiedAt
import Derived.OpenVars
import Derived.ChangeOld
import Derived.Below
import Derived.Lib.SmallJoins
namespace Go.Proofs.YtjhjgkjddpipdaaDoor.fnExactPrintDoc
open Go.ChangeShapes Go.WideShapes Go.ChangeAt Go.RowKit
open Go.ChangeMaps (open_string shut_string)
set_option linter.unusedVariables false

set_option maxHeartbeats 2000000 in
theorem walk (a : Option Addr) (c : Nat) (l : List De) (w : World) (hr : DeRow 0 w.heap.size w a l) (hb : DefsBd maxLen l) (hp : Pow w) :
    Calls Tryd.prog 3 #[.agg #[.slice a l.length c]] w fun e w' => e = .returned (.bool true) ∧ Below w.heap.size w w' := by
  have B0 : Hid (Below w.heap.size w (w.alloc (.cells #[.slice a l.length c] 24))) := (Below.refl _ _).alloc (Nat.le_refl _) _
  have K0 : Hid (∀ W0, Below w.heap.size w W0 → DeRow 0 W0.heap.size W0 a l) := fun W0 hB => DeRow.up hr hB
  have HD : Hid (DefsBd maxLen l) := hb
  have HPW : Hid (∀ W0, Below w.heap.size w W0 → Pow W0) := fun W0 hB => hp.up hB
  clear hr hb hp
  go_enter Tryd.func3, Tryd.ntmps3
  go_wp2_with fail
  refine (sz_doc a c l 1048576 _ (K0.out _ B0.out) HD.out (by omega) (by omega)).mono ?_
  rintro e w1 ⟨m, rfl, hm, hb1⟩
  have HM : Hid (Sz 1048576 m (DefsBd 1048576 l)) := hm
  clear hm
  have c1 := fun o => hb1.cell (p := ⟨w.heap.size, o, none⟩) (by simp)
  have z1 : w.heap.size + 1 ≤ w1.heap.size := size_one hb1
  have q1 : Hid (Below w.heap.size w w1) := below_one hb1
  clear hb1
  by_cases hneg : m < 0
  · go_wp2_with fail
    go_ret
    exact ⟨rfl, q1.out⟩
  have HE : Hid (DefsBd 1048576 l) := HM.out.2.2 (by omega)
  clear HM
  go_wp2_with fail
  refine (to_doc a c l _ (K0.out _ q1.out) HE.out).mono ?_
  rintro e w2 ⟨a2, d2, rfl, r2, hb2⟩
  have RA : Hid (DeRow 0 w2.heap.size w2 a2 l) := DeRow.wide r2 (Nat.zero_le _) (Nat.le_refl _)
  have c2 := fun o => (hb2.cell (p := ⟨w.heap.size, o, none⟩) (by first | omega | (simp <;> omega))).trans (c1 o)
  have z2 : w.heap.size + 1 ≤ w2.heap.size := by have := hb2.size; omega
  have q2 : Hid (Below w.heap.size w w2) := q1.out.trans (hb2.mono (by omega))
  clear r2 hb2 c1
  go_wp2_with fail
  refine (spec_printDoc a2 d2 l _ RA.out HE.out).mono ?_
  rintro e w3 ⟨rfl, hb3⟩
  have c3 := fun o => (hb3.cell (p := ⟨w.heap.size, o, none⟩) (by first | omega | (simp <;> omega))).trans (c2 o)
  have z3 : w.heap.size + 1 ≤ w3.heap.size := by have := hb3.size; omega
  have q3 : Hid (Below w.heap.size w w3) := q2.out.trans (hb3.mono (by omega))
  clear hb3 c2
  go_wp2_with fail
  refine (to_doc a c l _ (K0.out _ q3.out) HE.out).mono ?_
  rintro e w4 ⟨a4, d4, rfl, r4, hb4⟩
  have R4 : Hid (∀ W0, Below w4.heap.size w4 W0 → DeRow 0 W0.heap.size W0 a4 l) := fun W0 hB => DeRow.up (DeRow.wide r4 (Nat.zero_le _) (Nat.le_refl _)) hB
  have c4 := fun o => (hb4.cell (p := ⟨w.heap.size, o, none⟩) (by first | omega | (simp <;> omega))).trans (c3 o)
  have z4 : w.heap.size + 1 ≤ w4.heap.size := by have := hb4.size; omega
  have q4 : Hid (Below w.heap.size w w4) := q3.out.trans (hb4.mono (by omega))
  clear r4 hb4 c3
  go_wp2_with fail
  refine (impl_printDoc a4 d4 l _ (R4.out _ ((Below.refl _ _).alloc (Nat.le_refl _) _)) HE.out (HPW.out _ (q4.out.alloc q4.out.size _))).mono ?_
  rintro e w5 ⟨rfl, hb5⟩
  have e5 : w5.cell? ⟨w4.heap.size, 0, none⟩ = some (.slice a4 l.length d4) := (hb5.cell (p := ⟨w4.heap.size, 0, none⟩) (by simp)).trans (row_cell (heap_alloc_new _ _) 0)
  have z5 : w4.heap.size + 1 ≤ w5.heap.size := size_one hb5
  have p5 : Hid (Below w4.heap.size w4 w5) := below_one hb5
  have c5 : w5.cell? ⟨w.heap.size, 0, none⟩ = some (.slice a l.length c) := ((p5.out.cell (p := ⟨w.heap.size, 0, none⟩) (show w.heap.size < w4.heap.size by omega)).trans (c4 0)).trans (row_cell (heap_alloc_new _ _) 0)
  clear hb5 c4
  go_wp2_with fail
  go_region_with (first
    | (go_at_call 6
       refine Calls.mono (to_doc a c l _ (K0.out _ ?hb) HE.out) ?_
       case hb => exact q4.out.trans ((p5.out.drew).mono (by omega))
       rintro e w6 ⟨a6, d6, rfl, r6, hb6⟩
       have e6 : w6.cell? ⟨w4.heap.size, 0, none⟩ = some (.slice a4 l.length d4) := (hb6.cell (p := ⟨w4.heap.size, 0, none⟩) (by first | omega | (simp <;> omega))).trans e5
       have R6 : Hid (DeRow 0 w6.heap.size w6 a6 l) := DeRow.wide r6 (Nat.zero_le _) (Nat.le_refl _)
       have p6 : Hid (Below w4.heap.size w4 w6) := p5.out.drew.trans (hb6.mono (by first | omega | (simp <;> omega)))
       clear r6 hb6)
    | (go_at_call 8
       refine (eq_doc a4 _ d4 _ l _ (R4.out _ p6.out) R6.out HE.out).mono ?_
       rintro e w7 ⟨rfl, hb7⟩
       have p7 : Hid (Below w4.heap.size w4 w7) := p6.out.trans (hb7.mono (by have := p6.out.size; omega))))
  all_goals
    go_wp2_with fail
    go_ret
    exact ⟨rfl, q4.out.trans (p7.out.mono (by omega))⟩

set_option maxRecDepth 100000 in
theorem lifted (os : Os) (started : os.Started) (H : Type) (enc : TypeId × Value → H) :
    ReturnsInHanded {} Tryd.checked os 3 .any (fun w args => (Rows.fnExactPrintDocSpec.pre enc Tryd.prog Tryd.f3 [] false w args ∧ laidMetH Tryd.prog [("math/bits.deBruijn32tab", Rows.laid_math_bits_deBruijn32tab), ("math/bits.deBruijn64tab", Rows.laid_math_bits_deBruijn64tab), ("internal/strconv.uint64pow10", Rows.laid_internal_strconv_uint64pow10)] w) ∧ sizedMet enc Tryd.prog Tryd.f3 (OpenSpec.ofChange Rows.fnExactPrintDocSpec) false w args)
      (Rows.fnExactPrintDocSpec.post enc Tryd.prog Tryd.f3 false true false false) := by
  refine returnsInHanded_of_change_and (C := Tryd.checked) (X := fun w _ => laidMetH Tryd.prog [("math/bits.deBruijn32tab", Rows.laid_math_bits_deBruijn32tab), ("math/bits.deBruijn64tab", Rows.laid_math_bits_deBruijn64tab), ("internal/strconv.uint64pow10", Rows.laid_internal_strconv_uint64pow10)] w) (fun _ _ _ hh h => h.of_heap hh) own started (by kernel_rfl) Tryd.func3
    (ChangeSpec.witness_shaped (enc := enc) (C := Tryd.checked) (os := os) (X := fun w _ => laidMetH Tryd.prog [("math/bits.deBruijn32tab", Rows.laid_math_bits_deBruijn32tab), ("math/bits.deBruijn64tab", Rows.laid_math_bits_deBruijn64tab), ("internal/strconv.uint64pow10", Rows.laid_internal_strconv_uint64pow10)] w) false (World.doorLaid Tryd.prog 400 os) #[.agg #[.slice none 0 0]] 8 rfl (World.shaped_of_RefB (by kernel_rfl) (by kernel_rfl)) (by kernel_rfl) (by kernel_rfl) (by kernel_rfl) (door_met os _)) ?_
  intro W base args ds gs before hval0 hW _ hSz hL _
  have hval : ∀ (j : Nat) t v, Tryd.f3.params[j]? = some t → args[j]? = some v → Value.okWide Tryd.prog W .any base t v := hval0
  have hW' := hW
  obtain ⟨p, q, hA0, hV, rfl, hfz, hnd⟩ := hW
  have hA : DataW.TrodAll enc Tryd.prog W 0 (fun _ => true) true Tryd.f3.params.toList args.toList ds p := hA0
  rw [Tryd.params3] at hA hval
  obtain ⟨v0, vs0, d0, ds0, p0, q0, hargs, rfl, rfl, h0, r0⟩ := trodAll_cons hA
  obtain ⟨rfl, rfl, rfl⟩ := trodAll_nil r0
  obtain rfl : args = #[v0] := by cases args; simp_all
  obtain ⟨rfl, rfl⟩ := trodVars_none hV
  have g0 := h0
  have lt0 : ∀ x ∈ p0, x.block < W.heap.size := by obtain ⟨m, hm⟩ := g0; exact DataW.trod_lt m _ _ _ hm
  obtain ⟨a0, c0, l0, rfl, hb0, hr0⟩ : ∃ a c, ∃ l : List De, v0 = .agg #[.slice a l.length c] ∧ DefsBd maxLen l ∧ DeRow 0 W.heap.size W a l := by
    obtain ⟨cs, rfl, hsz⟩ := okWide_struct Tryd.underlying24 (hval 0 24 v0 rfl rfl)
    obtain ⟨fuel, hf⟩ := h0
    obtain ⟨y0, n, hx, hlen, h1⟩ := trod_struct1 Tryd.underlying24 hf
    have cd : Tryd.prog.cellsOf 24 = 1 := by kernel_rfl
    have c1 : Tryd.prog.cellsOf 22 = 1 := by kernel_rfl
    obtain ⟨u⟩ := cs
    have hu : u.length = 1 := by rw [cd] at hsz; simpa using hsz
    obtain ⟨q, rfl⟩ : ∃ q, u = [q] := List.length_eq_one_iff.1 hu
    obtain ⟨a, c, l, e, hb, hr⟩ := defs_open (by simpa [Value.cells, c1] using h1)
    simp only [List.cons.injEq, and_true] at e
    subst e
    exact ⟨a, c, l, rfl, hb, hr⟩
  clear hA0 hval0
  refine (walk a0 c0 l0 W hr0 hb0 (pow_of_laid hL)).mono fun e W' ⟨he, bel⟩ => ?_
  subst he
  exact ⟨_, rfl, _, _, _, [], _, [], hW', trodAll_mk1 (shut_bool Tryd.underlying4 _), (trodAll_cons_mk (Below.trod laidOut (by kernel_rfl) (of_decide_eq_true (by kernel_rfl)) g0 bel lt0) trodAll_mk0), rfl, bel.frame _, fun h => by cases h⟩

theorem over : Rows.fnExactPrintDocRow.holds Tryd.pinned (OpenSpec.ofChange Rows.fnExactPrintDocSpec) :=
  OpenClaim.holds_of_wide 3 Tryd.f3 rfl rfl rfl rfl rfl rfl rfl ⟨rfl, rfl, rfl, rfl, rfl⟩ rfl rfl rfl rfl rfl (by kernel_rfl) Tryd.func3 (by kernel_rfl)
    (of_decide_eq_true (by kernel_rfl)) (by unfold Func.isWrapper; first | (rw [if_pos (by decide +kernel)]; kernel_rfl) | (rw [if_neg (by decide +kernel)]; exact ⟨rfl, rfl⟩))
    (fun os started H enc _ => lifted os started H enc)
end Go.Proofs.YtjhjgkjddpipdaaDoor.fnExactPrintDoc
namespace Go.Proofs.YtjhjgkjddpipdaaDoor
open Go
theorem printDoc_holds : Rows.FnExactPrintDocCardSaid :=
  Claim7.holds_tied_plain_at .later [] [.data, .data, .data] true (true, "3b0a0d6118d175f7698513d55063e85063dc00c61e4b3036f1d4d30cf918f3c6") false
    fnExactPrintDoc.over (fun _ h => by cases h) (by kernel_rfl) (fun _ h => by cases h) fnExactPrintDoc_row_tie rfl ⟨rfl, rfl⟩ (by kernel_rfl) rfl
    (fun f fn hf hfn => by
      obtain rfl : f = 3 := Option.some.inj ((show Tryd.prog.funcNamed "loop.example/g00540/laws.FnExactPrintDoc" = some 3 by kernel_rfl).symm.trans hf) |>.symm
      obtain rfl : fn = Tryd.f3 := (Option.some.inj (Tryd.func3.symm.trans hfn)).symm
      exact ⟨by kernel_rfl, fun j t ht => by
        rw [Tryd.params3] at ht
        have hm : t ∈ [24] := by simpa using Array.mem_of_getElem? ht
        have hall : ([24].all fun u => !Tryd.prog.wantsStandIn u) = true := by kernel_rfl
        exact (show Tryd.prog.wantsStandIn t = false by simpa using List.all_eq_true.1 hall t hm)⟩)
    (by kernel_rfl)
#print axioms printDoc_holds
end Go.Proofs.YtjhjgkjddpipdaaDoor
