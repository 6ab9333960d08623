/- Proved: at every list of tokens the law FnExactJoinTokens returns true, and its argument reads afterwards as it read before; the library's tables that the row lists are tied to the program's text by the card. -/
import Derived.Test.YtjbogjoadcikhahDoorTab
import Derived.Test.YtjbogjoadcikhahDoorOpenToks
import Derived.Test.YtjbogjoadcikhahDoorTie
import Derived.Test.YtjbogjoadcikhahDoorCards
import Derived.SevenTiedAt
import Derived.OpenVars
import Derived.ChangeOld
import Derived.Below
namespace Go.Proofs.YtjbogjoadcikhahDoor.fnExactJoinTokens
open Go.ChangeShapes Go.WideShapes Go.ChangeAt Go.RowKit
open Go.ChangeMaps (open_string shut_string)
set_option linter.unusedVariables false

theorem row_up {B : Nat} {w w' : World} {a : Option Addr} {l : List Tk} (h : TokRow B w a l) (hb : Below w.heap.size w w') (hB : B ≤ w.heap.size) : TokRow w'.heap.size w' a l := by
  rcases h.below hb hB with h | ⟨b, o, rfl, h1, h2, h3⟩
  · exact .inl h
  · exact .inr ⟨b, o, rfl, by omega, Nat.le_refl _, h3⟩
set_option maxHeartbeats 1000000 in
theorem walk (a : Option Addr) (c : Nat) (l : List Tk) (w : World) (hp : Pow w) (hr : TokRow w.heap.size w a l) (hl : l.length ≤ maxLen) (ht : ∀ x ∈ l, x.t.size ≤ maxLen) :
    Calls Tryd.prog 4 #[.slice a l.length c] w fun e w' => e = .returned (.bool true) ∧ Below w.heap.size w w' := by
  by_cases hz : szS 1048576 l < 0
  · have HR : Hid (TokRow w.heap.size w a l) := hr
    have HT : Hid (∀ x ∈ l, x.t.size ≤ maxLen) := ht
    clear hr ht
    go_enter Tryd.func4, Tryd.ntmps4
    go_wp2_with fail
    refine (sz_toks a c l _ _ HR.out hl HT.out (by omega) (by omega)).mono ?_
    rintro e w1 ⟨rfl, hb1⟩
    go_wp2_with fail
    go_ret
    exact ⟨rfl, hb1⟩
  · obtain ⟨hln, htn⟩ := szS_le hz
    have hl2 : l.length ≤ 1048576 := by omega
    have HT2 : Hid (∀ x ∈ l, x.t.size ≤ 1048576) := fun x hx => by have := htn x hx; omega
    have HR : Hid (TokRow w.heap.size w a l) := hr
    have HT : Hid (∀ x ∈ l, x.t.size ≤ maxLen) := ht
    have HP : Hid (Pow w) := hp
    clear hr ht htn hln hp
    go_enter Tryd.func4, Tryd.ntmps4
    go_wp2_with fail
    refine (sz_toks a c l _ _ HR.out hl HT.out (by omega) (by omega)).mono ?_
    rintro e w1 ⟨rfl, hb1⟩
    have R1 : Hid (TokRow w1.heap.size w1 a l) := row_up HR.out hb1 (Nat.le_refl _)
    go_wp2_with fail
    refine (to_toks a c l _ R1.out hl2).mono ?_
    rintro e w2 ⟨a2, c2, rfl, r2, hb2⟩
    have R2 : Hid (TokRow w2.heap.size w2 a l) := row_up R1.out hb2 (Nat.le_refl _)
    have RA : Hid (TokRow w2.heap.size w2 a2 l) := r2
    clear r2
    have q2 := hb1.trans (hb2.mono hb1.size)
    go_wp2_with fail
    refine (spec_joinToks a2 c2 l _ RA.out hl2 HT2.out).mono ?_
    rintro e w3 ⟨rfl, hb3⟩
    have R3 : Hid (TokRow w3.heap.size w3 a l) := row_up R2.out hb3 (Nat.le_refl _)
    have q3 := q2.trans (hb3.mono q2.size)
    go_wp2_with fail
    refine (to_toks a c l _ R3.out hl2).mono ?_
    rintro e w4 ⟨a4, c4, rfl, r4, hb4⟩
    have R4 : Hid (TokRow w4.heap.size w4 a l) := row_up R3.out hb4 (Nat.le_refl _)
    have RB : Hid (TokRow w4.heap.size w4 a4 l) := r4
    clear r4
    have q4 := q3.trans (hb4.mono q3.size)
    have HP4 : Hid (Pow w4) := HP.out.below q4 HP.out.pos
    go_wp2_with fail
    refine (impl_joinToks a4 c4 l _ HP4.out RB.out hl2 HT2.out).mono ?_
    rintro e w5 ⟨rfl, hb5⟩
    have R5 : Hid (TokRow w5.heap.size w5 a l) := row_up R4.out hb5 (Nat.le_refl _)
    have RC : Hid (TokRow w5.heap.size w5 a4 l) := row_up RB.out hb5 (Nat.le_refl _)
    have q5 := q4.trans (hb5.mono q4.size)
    go_wp2_with fail
    refine (to_toks a c l _ R5.out hl2).mono ?_
    rintro e w6 ⟨a6, c6, rfl, r6, hb6⟩
    have RD : Hid (TokRow w6.heap.size w6 a4 l) := row_up RC.out hb6 (Nat.le_refl _)
    have RE : Hid (TokRow w6.heap.size w6 a6 l) := r6
    clear r6
    have q6 := q5.trans (hb6.mono q5.size)
    go_wp2_with fail
    refine (eq_toks a4 a6 c4 c6 l _ RD.out RE.out hl2).mono ?_
    rintro e w7 ⟨rfl, hb7⟩
    go_wp2_with fail
    go_ret
    exact ⟨rfl, q6.trans (hb7.mono q6.size)⟩

set_option maxRecDepth 100000 in
theorem lifted (os : Os) (started : os.Started) (H : Type) (enc : TypeId × Value → H) :
    ReturnsInHanded {} Tryd.checked os 4 .any (fun w args => (Rows.fnExactJoinTokensSpec.pre enc Tryd.prog Tryd.f4 [] false w args ∧ laidMetH Tryd.prog [("math/bits.deBruijn32tab", Rows.laid_math_bits_deBruijn32tab), ("math/bits.deBruijn64tab", Rows.laid_math_bits_deBruijn64tab), ("internal/strconv.uint64pow10", Rows.laid_internal_strconv_uint64pow10)] w) ∧ sizedMet enc Tryd.prog Tryd.f4 (OpenSpec.ofChange Rows.fnExactJoinTokensSpec) false w args)
      (Rows.fnExactJoinTokensSpec.post enc Tryd.prog Tryd.f4 false true false false) := by
  refine returnsInHanded_of_change_and (C := Tryd.checked) (X := fun w _ => laidMetH Tryd.prog [("math/bits.deBruijn32tab", Rows.laid_math_bits_deBruijn32tab), ("math/bits.deBruijn64tab", Rows.laid_math_bits_deBruijn64tab), ("internal/strconv.uint64pow10", Rows.laid_internal_strconv_uint64pow10)] w) (fun _ _ _ hh h => h.of_heap hh) own started (by kernel_rfl) Tryd.func4
    (ChangeSpec.witness_shaped (enc := enc) (C := Tryd.checked) (os := os) (X := fun w _ => laidMetH Tryd.prog [("math/bits.deBruijn32tab", Rows.laid_math_bits_deBruijn32tab), ("math/bits.deBruijn64tab", Rows.laid_math_bits_deBruijn64tab), ("internal/strconv.uint64pow10", Rows.laid_internal_strconv_uint64pow10)] w) false (World.doorLaid Tryd.prog 400 os) #[.slice none 0 0] 8 rfl (World.shaped_of_RefB (by kernel_rfl) (by kernel_rfl)) (by kernel_rfl) (by kernel_rfl) (by kernel_rfl) (door_met os _)) ?_
  intro W base args ds gs before hval0 hW _ hSz hL _
  have hval : ∀ (j : Nat) t v, Tryd.f4.params[j]? = some t → args[j]? = some v → Value.okWide Tryd.prog W .any base t v := hval0
  have hW' := hW
  obtain ⟨p, q, hA0, hV, rfl, hfz, hnd⟩ := hW
  have hA : DataW.TrodAll enc Tryd.prog W 0 (fun _ => true) true Tryd.f4.params.toList args.toList ds p := hA0
  rw [Tryd.params4] at hA hval
  obtain ⟨v0, vs0, d0, ds0, p0, q0, hargs, rfl, rfl, h0, r0⟩ := trodAll_cons hA
  obtain ⟨rfl, rfl, rfl⟩ := trodAll_nil r0
  obtain rfl : args = #[v0] := by cases args; simp_all
  obtain ⟨rfl, rfl⟩ := trodVars_none hV
  have g0 := h0
  have lt0 : ∀ x ∈ p0, x.block < W.heap.size := by obtain ⟨m, hm⟩ := g0; exact DataW.trod_lt m _ _ _ hm
  obtain ⟨a0, len0, cap0, rfl⟩ := okWide_slice Tryd.underlying30 (hval 0 30 v0 rfl rfl)
  obtain ⟨l0, hl0, hm0, hr0, ht0⟩ : ∃ l : List Tk, l.length = len0 ∧ len0 ≤ maxLen ∧ TokRow W.heap.size W a0 l ∧ ∀ x ∈ l, x.t.size ≤ maxLen := by
    obtain ⟨fuel, hf⟩ := h0
    exact toks_open hf
  subst hl0
  clear hA0 hval0
  refine (walk a0 cap0 l0 W (pow_of_laid hL) hr0 hm0 ht0).mono fun e W' ⟨he, bel⟩ => ?_
  subst he
  exact ⟨_, rfl, _, _, _, [], _, [], hW', trodAll_mk1 (shut_bool Tryd.underlying4 _), (trodAll_cons_mk (Below.trod laidOut (by kernel_rfl) (of_decide_eq_true (by kernel_rfl)) g0 bel lt0) trodAll_mk0), rfl, bel.frame _, fun h => by cases h⟩

theorem over : Rows.fnExactJoinTokensRow.holds Tryd.pinned (OpenSpec.ofChange Rows.fnExactJoinTokensSpec) :=
  OpenClaim.holds_of_wide 4 Tryd.f4 rfl rfl rfl rfl rfl rfl rfl ⟨rfl, rfl, rfl, rfl, rfl⟩ rfl rfl rfl rfl rfl (by kernel_rfl) Tryd.func4 (by kernel_rfl)
    (of_decide_eq_true (by kernel_rfl)) (by unfold Func.isWrapper; first | (rw [if_pos (by decide +kernel)]; kernel_rfl) | (rw [if_neg (by decide +kernel)]; exact ⟨rfl, rfl⟩))
    (fun os started H enc _ => lifted os started H enc)
end Go.Proofs.YtjbogjoadcikhahDoor.fnExactJoinTokens
namespace Go.Proofs.YtjbogjoadcikhahDoor
open Go
theorem joinTokens_holds : Rows.FnExactJoinTokensCardSaid :=
  Claim7.holds_tied_plain_at .later [] [.data, .data, .data] true (true, "937c831b09596a08649b1e2c8f3e1a8f5dd406eef8ae05443f875ae9d94f588a") false
    fnExactJoinTokens.over (fun _ h => by cases h) (by kernel_rfl) (fun _ h => by cases h) fnExactJoinTokens_row_tie rfl ⟨rfl, rfl⟩ (by kernel_rfl) rfl
    (fun f fn hf hfn => by
      obtain rfl : f = 4 := Option.some.inj ((show Tryd.prog.funcNamed "loop.example/g00540/laws.FnExactJoinTokens" = some 4 by kernel_rfl).symm.trans hf) |>.symm
      obtain rfl : fn = Tryd.f4 := (Option.some.inj (Tryd.func4.symm.trans hfn)).symm
      exact ⟨by kernel_rfl, fun j t ht => by
        rw [Tryd.params4] at ht
        have hm : t ∈ [30] := by simpa using Array.mem_of_getElem? ht
        have hall : ([30].all fun u => !Tryd.prog.wantsStandIn u) = true := by kernel_rfl
        exact (show Tryd.prog.wantsStandIn t = false by simpa using List.all_eq_true.1 hall t hm)⟩)
    (by kernel_rfl)
#print axioms joinTokens_holds
end Go.Proofs.YtjbogjoadcikhahDoor
