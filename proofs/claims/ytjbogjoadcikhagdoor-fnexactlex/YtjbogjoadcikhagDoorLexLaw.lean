/- Proved: at every text the law FnExactLex returns true, and its argument reads afterwards as it read before; the library's variables that the row lists are tied to the program's text by the card. -/
import Derived.Test.YtjbogjoadcikhagDoorLexTab
import Derived.Test.YtjbogjoadcikhagDoorMarksOwn
import Derived.Test.YtjbogjoadcikhagDoorTie
import Derived.Test.YtjbogjoadcikhagDoorCards
import Derived.SevenTiedAt
import Derived.OpenVars
import Derived.ChangeOld
import Derived.Below
namespace Go.Proofs.YtjbogjoadcikhagDoor.fnExactLex
open Go.ChangeShapes Go.WideShapes Go.ChangeAt Go.RowKit
open Go.ChangeMaps (open_string shut_string)
set_option linter.unusedVariables false

set_option maxHeartbeats 1000000 in
theorem walk (s : ByteArray) (w : World) (hs : s.size ≤ maxLen) (hv : Vars w) :
    Calls Tryd.prog 5 #[.string s] w fun e w' => e = .returned (.bool true) ∧ Below w.heap.size w w' := by
  unfold maxLen at hs
  by_cases h : 1048576 < s.size
  · go_enter Tryd.func5, Tryd.ntmps5
    go_wp2_with fail
    go_ret
    exact ⟨rfl, Below.refl _ _⟩
  · obtain ⟨l, cd, hl⟩ : ∃ l cd, lexB s = (l, cd) := ⟨_, _, rfl⟩
    have hn : l.length ≤ 4000 := by have := lexB_len s; rw [hl] at this; exact this
    have HS : Hid (∀ W : World, Calls Tryd.prog 10 #[.string s] W (LexIs (l, cd) W)) := fun W => by rw [← hl]; exact spec_Lex s W hs
    have HI : Hid (∀ W : World, Vars W → Calls Tryd.prog 11 #[.string s] W (LexIs (l, cd) W)) := fun W hW => by rw [← hl]; exact impl_Lex s W hs hW
    have h3 := hv.lt
    have HV : Hid (Vars w) := hv
    clear hl hv
    go_enter Tryd.func5, Tryd.ntmps5
    go_wp2_with fail
    refine (HS.out _).mono ?_
    rintro e w1 ⟨a1, c1, rfl, o1, hb1⟩
    have R1 : Hid (TokRow w1.heap.size w1 a1 l) := own_row o1
    have HV1 : Hid (Vars w1) := HV.out.below hb1 h3
    clear o1
    have z1 := hb1.size
    go_wp2_with fail
    refine (HI.out _ HV1.out).mono ?_
    rintro e w2 ⟨a2, c2, rfl, o2, hb2⟩
    have z2 := hb2.size
    have R2 : Hid (TokRow w1.heap.size w2 a1 l) := R1.out.below hb2 (Nat.le_refl _)
    have R2' : Hid (TokRow w2.heap.size w2 a1 l) := R2.out.up z2 (Nat.le_refl _)
    have G2 : Hid (TokRow w2.heap.size w2 a2 l) := own_row o2
    have O2 : Hid (w2.ownsRow w1.heap.size 39 3 (.slice a2 l.length c2) l.length (tvs l)) := o2
    have q2 := hb1.trans (hb2.mono z1)
    clear o2 R1
    go_wp2_with fail
    refine (eq_toks a2 a1 c2 c1 l _ G2.out R2'.out (by omega)).mono ?_
    rintro e w3 ⟨rfl, hb3⟩
    have z3 := hb3.size
    have O3 : Hid (w3.ownsRow w1.heap.size 39 3 (.slice a2 l.length c2) l.length (tvs l)) := own_below O2.out hb3
    have R3 : Hid (TokRow w1.heap.size w3 a1 l) := R2.out.below hb3 z2
    have q3 := q2.trans (hb3.mono q2.size)
    clear R2 R2' G2 O2
    go_wp2_with fail
    refine (mark_own a2 l.length c2 _ _ _ O3.out (by omega) hn).mono ?_
    rintro e w4 ⟨rfl, m4, hb4⟩
    have z4 := hb4.size
    have M4 : Hid (HeldRow w4 a2 l.length) := m4
    have R4 : Hid (TokRow w1.heap.size w4 a1 l) := R3.out.below hb4 (Nat.le_refl _)
    have q4 := q3.trans (hb4.mono z1)
    clear m4 R3 O3
    go_wp2_with fail
    refine (held_own a2 l.length c2 _ M4.out hn).mono ?_
    rintro e w5 ⟨rfl, hb5⟩
    have z5 := hb5.size
    have M5 : Hid (HeldRow w5 a2 l.length) := M4.out.below hb5
    have R5 : Hid (TokRow w1.heap.size w5 a1 l) := R4.out.below hb5 (by omega)
    have q5 := q4.trans (hb5.mono q4.size)
    have HV5 : Hid (Vars w5) := HV.out.below q5 h3
    clear M4 R4
    go_wp2_with fail
    refine (HI.out _ HV5.out).mono ?_
    rintro e w6 ⟨a6, c6, rfl, o6, hb6⟩
    have z6 := hb6.size
    have M6 : Hid (HeldRow w6 a2 l.length) := M5.out.below hb6
    have R6 : Hid (TokRow w6.heap.size w6 a1 l) := (R5.out.below hb6 (by omega)).up (by omega) (Nat.le_refl _)
    have G6 : Hid (TokRow w6.heap.size w6 a6 l) := own_row o6
    have q6 := q5.trans (hb6.mono q5.size)
    clear o6 M5 R5
    go_wp2_with fail
    refine (eq_toks a6 a1 c6 c1 l _ G6.out R6.out (by omega)).mono ?_
    rintro e w7 ⟨rfl, hb7⟩
    have M7 : Hid (HeldRow w7 a2 l.length) := M6.out.below hb7
    have q7 := q6.trans (hb7.mono q6.size)
    clear M6 R6 G6
    go_wp2_with fail
    refine (held_own a2 l.length c2 _ M7.out hn).mono ?_
    rintro e w8 ⟨rfl, hb8⟩
    have q8 := q7.trans (hb8.mono q7.size)
    go_wp2_with fail
    go_ret
    exact ⟨rfl, q8⟩

set_option maxRecDepth 100000 in
theorem lifted (os : Os) (started : os.Started) (H : Type) (enc : TypeId × Value → H) :
    ReturnsInHanded {} Tryd.checked os 5 .any (fun w args => (Rows.fnExactLexSpec.pre enc Tryd.prog Tryd.f5 [] false w args ∧ laidMetH Tryd.prog [("math/bits.deBruijn32tab", Rows.laid_math_bits_deBruijn32tab), ("math/bits.deBruijn64tab", Rows.laid_math_bits_deBruijn64tab), ("internal/strconv.uint64pow10", Rows.laid_internal_strconv_uint64pow10), ("strconv.ErrRange", Rows.laid_strconv_ErrRange), ("strconv.ErrSyntax", Rows.laid_strconv_ErrSyntax)] w) ∧ sizedMet enc Tryd.prog Tryd.f5 (OpenSpec.ofChange Rows.fnExactLexSpec) false w args)
      (Rows.fnExactLexSpec.post enc Tryd.prog Tryd.f5 false true false false) := by
  refine returnsInHanded_of_change_and (C := Tryd.checked) (X := fun w _ => laidMetH Tryd.prog [("math/bits.deBruijn32tab", Rows.laid_math_bits_deBruijn32tab), ("math/bits.deBruijn64tab", Rows.laid_math_bits_deBruijn64tab), ("internal/strconv.uint64pow10", Rows.laid_internal_strconv_uint64pow10), ("strconv.ErrRange", Rows.laid_strconv_ErrRange), ("strconv.ErrSyntax", Rows.laid_strconv_ErrSyntax)] w) (fun _ _ _ hh h => h.of_heap hh) lexOwn started (by kernel_rfl) Tryd.func5
    (ChangeSpec.witness_shaped (enc := enc) (C := Tryd.checked) (os := os) (X := fun w _ => laidMetH Tryd.prog [("math/bits.deBruijn32tab", Rows.laid_math_bits_deBruijn32tab), ("math/bits.deBruijn64tab", Rows.laid_math_bits_deBruijn64tab), ("internal/strconv.uint64pow10", Rows.laid_internal_strconv_uint64pow10), ("strconv.ErrRange", Rows.laid_strconv_ErrRange), ("strconv.ErrSyntax", Rows.laid_strconv_ErrSyntax)] w) false (World.doorLaid Tryd.prog 400 os) #[.string ByteArray.empty] 8 rfl (World.shaped_of_RefB (by kernel_rfl) (by kernel_rfl)) (by kernel_rfl) (by kernel_rfl) (by kernel_rfl) (lexDoor_met os _)) ?_
  intro W base args ds gs before hval0 hW _ hSz hL _
  have hval : ∀ (j : Nat) t v, Tryd.f5.params[j]? = some t → args[j]? = some v → Value.okWide Tryd.prog W .any base t v := hval0
  have hW' := hW
  obtain ⟨p, q, hA0, hV, rfl, hfz, hnd⟩ := hW
  have hA : DataW.TrodAll enc Tryd.prog W 0 (fun _ => true) true Tryd.f5.params.toList args.toList ds p := hA0
  rw [Tryd.params5] at hA hval
  obtain ⟨v0, vs0, d0, ds0, p0, q0, hargs, rfl, rfl, h0, r0⟩ := trodAll_cons hA
  obtain ⟨rfl, rfl, rfl⟩ := trodAll_nil r0
  obtain rfl : args = #[v0] := by cases args; simp_all
  obtain ⟨rfl, rfl⟩ := trodVars_none hV
  have g0 := h0
  have lt0 : ∀ x ∈ p0, x.block < W.heap.size := by obtain ⟨m, hm⟩ := g0; exact DataW.trod_lt m _ _ _ hm
  obtain ⟨a0, rfl, _, _, w0⟩ := open_string Tryd.underlying9 (hval 0 9 v0 rfl rfl) h0
  clear hA0 hval0
  refine (walk a0 W w0 (vars_of_laid hL)).mono fun e W' ⟨he, bel⟩ => ?_
  subst he
  exact ⟨_, rfl, _, _, _, [], _, [], hW', trodAll_mk1 (shut_bool Tryd.underlying4 _), (trodAll_cons_mk (Below.trod lexLaidOut (by kernel_rfl) (of_decide_eq_true (by kernel_rfl)) g0 bel lt0) trodAll_mk0), rfl, bel.frame _, fun h => by cases h⟩

theorem over : Rows.fnExactLexRow.holds Tryd.pinned (OpenSpec.ofChange Rows.fnExactLexSpec) :=
  OpenClaim.holds_of_wide 5 Tryd.f5 rfl rfl rfl rfl rfl rfl rfl ⟨rfl, rfl, rfl, rfl, rfl⟩ rfl rfl rfl rfl rfl (by kernel_rfl) Tryd.func5 (by kernel_rfl)
    (of_decide_eq_true (by kernel_rfl)) (by unfold Func.isWrapper; first | (rw [if_pos (by decide +kernel)]; kernel_rfl) | (rw [if_neg (by decide +kernel)]; exact ⟨rfl, rfl⟩))
    (fun os started H enc _ => lifted os started H enc)
end Go.Proofs.YtjbogjoadcikhagDoor.fnExactLex
namespace Go.Proofs.YtjbogjoadcikhagDoor
open Go
theorem lex_holds : Rows.FnExactLexCardSaid :=
  Claim7.holds_tied_plain_at .later [] [.data, .data, .data, .sentinel, .sentinel] true (true, "e716b531a3f1c7af1c86f8051e630127b9ab39f18cae2e181246ac0b7639d28e") true
    fnExactLex.over (fun _ h => by cases h) (by kernel_rfl) (fun _ h => by cases h) fnExactLex_row_tie rfl ⟨rfl, rfl⟩ (by kernel_rfl) rfl
    (fun f fn hf hfn => by
      obtain rfl : f = 5 := Option.some.inj ((show Tryd.prog.funcNamed "loop.example/g00540/laws.FnExactLex" = some 5 by kernel_rfl).symm.trans hf) |>.symm
      obtain rfl : fn = Tryd.f5 := (Option.some.inj (Tryd.func5.symm.trans hfn)).symm
      exact ⟨by kernel_rfl, fun j t ht => by
        rw [Tryd.params5] at ht
        have hm : t ∈ [9] := by simpa using Array.mem_of_getElem? ht
        have hall : ([9].all fun u => !Tryd.prog.wantsStandIn u) = true := by kernel_rfl
        exact (show Tryd.prog.wantsStandIn t = false by simpa using List.all_eq_true.1 hall t hm)⟩)
    (by kernel_rfl)
#print axioms lex_holds
end Go.Proofs.YtjbogjoadcikhagDoor
