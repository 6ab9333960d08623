/- Proved: at every token the law FnExactTokenText returns true, and its argument reads afterwards as it read before; the library's tables that the row lists are tied to the program's text by the card. -/
import Derived.Test.YtjbogjoadcikhahDoorTab
import Derived.Test.YtjbogjoadcikhahDoorTie
import Derived.Test.YtjbogjoadcikhahDoorCards
import Derived.SevenTiedAt
import Derived.OpenVars
import Derived.ChangeOld
import Derived.Below
import Derived.Lib.SmallJoins
namespace Go.Proofs.YtjbogjoadcikhahDoor.fnExactTokenText
open Go.ChangeShapes Go.WideShapes Go.ChangeAt Go.RowKit
open Go.ChangeMaps (open_string shut_string)
set_option linter.unusedVariables false

theorem szT_le {n k : Int} (h : ¬ szT n k < 0) : k ≤ n := by
  unfold szT at h
  by_cases h2 : n - k < 0
  · rw [if_pos h2] at h; omega
  · omega
def tkS (a b : Int) (s : ByteArray) : ByteArray := if tokB a b s = true then textS a b s else ⟨#[]⟩
def tkC (a b : Int) (s : ByteArray) : Int := if tokB a b s = true then 0 else 1
theorem spec_any (a b : Int) (s : ByteArray) (w : World) (hs : s.size ≤ 1048576) :
    Calls Tryd.prog 6 #[.agg #[.int .i64 a, .int .i64 b, .string s]] w fun e w' => e = .returned (.tuple #[.string (tkS a b s), .int .i64 (tkC a b s)]) ∧ Below w.heap.size w w' := by
  unfold tkS tkC
  by_cases hk : tokB a b s = true
  · rw [if_pos hk, if_pos hk]; exact spec_tokText_yes a b s w hs hk
  · rw [if_neg hk, if_neg hk]; exact spec_tokText_no a b s w hs (by simpa using hk)
theorem impl_any (a b : Int) (s : ByteArray) (w : World) (hs : s.size ≤ 1048576) (hp : Pow w) :
    Calls Tryd.prog 8 #[.agg #[.int .i64 a, .int .i64 b, .string s]] w fun e w' => e = .returned (.tuple #[.string (tkS a b s), .int .i64 (tkC a b s)]) ∧ Below w.heap.size w w' := by
  unfold tkS tkC
  by_cases hk : tokB a b s = true
  · rw [if_pos hk, if_pos hk]; exact impl_tokText_yes a b s w hs hp hk
  · rw [if_neg hk, if_neg hk]; exact impl_tokText_no a b s w hs (by simpa using hk)
set_option maxHeartbeats 1000000 in
theorem walk (a b : Int) (s : ByteArray) (w : World) (hs : s.size ≤ maxLen) (hp : Pow w) :
    Calls Tryd.prog 3 #[.agg #[.int .i64 a, .int .i64 b, .string s]] w fun e w' => e = .returned (.bool true) ∧ Below w.heap.size w w' := by
  by_cases hz : szT 1048576 s.size < 0
  · go_enter Tryd.func3, Tryd.ntmps3
    go_wp2_with fail
    refine (sz_tok a b s _ _ hs (by omega) (by omega)).mono ?_
    rintro e w1 ⟨rfl, hb1⟩
    go_wp2_with fail
    go_ret
    exact ⟨rfl, (((Below.refl _ _).alloc (Nat.le_refl _) _).trans (hb1.mono (by simp)))⟩
  · have hle : s.size ≤ 1048576 := by have := szT_le hz; omega
    go_enter Tryd.func3, Tryd.ntmps3
    go_wp2_with fail
    refine (sz_tok a b s _ _ hs (by omega) (by omega)).mono ?_
    rintro e w1 ⟨rfl, hb1⟩
    obtain ⟨hc1, hf1⟩ := bcell hb1
    have hz1 : w.heap.size + 1 ≤ w1.heap.size := by have := hb1.size; simpa using this
    have hy1 : w.heap.size < w1.heap.size := by omega
    go_wp2_with fail
    refine (to_tok a b s _).mono ?_
    rintro e w2 ⟨rfl, hb2⟩
    obtain ⟨hc2, hf2⟩ := bcell hb2
    have hz2 := hb2.size
    have hy2 : w.heap.size < w2.heap.size := by omega
    go_wp2_with fail
    refine (spec_any a b s _ hle).mono ?_
    rintro e w3 ⟨rfl, hb3⟩
    obtain ⟨hc3, hf3⟩ := bcell hb3
    have hz3 := hb3.size
    have hy3 : w.heap.size < w3.heap.size := by omega
    go_wp2_with fail
    refine (to_tok a b s _).mono ?_
    rintro e w4 ⟨rfl, hb4⟩
    have hz4 := hb4.size
    have q1 : Below w.heap.size w w1 := ((Below.refl _ _).alloc (Nat.le_refl _) _).trans (hb1.mono (by simp))
    have q4 : Below w.heap.size w w4 := ((q1.trans (hb2.mono (by omega))).trans (hb3.mono (by omega))).trans (hb4.mono (by omega))
    have HP : Pow w4 := hp.below q4 hp.pos
    go_wp2_with fail
    refine (impl_any a b s _ hle HP).mono ?_
    rintro e w5 ⟨rfl, hb5⟩
    go_wp2_with fail
    go_ret
    exact ⟨rfl, q4.trans (hb5.mono (by omega))⟩

set_option maxRecDepth 100000 in
theorem lifted (os : Os) (started : os.Started) (H : Type) (enc : TypeId × Value → H) :
    ReturnsInHanded {} Tryd.checked os 3 .any (fun w args => (Rows.fnExactTokenTextSpec.pre enc Tryd.prog Tryd.f3 [] false w args ∧ laidMetH Tryd.prog [("math/bits.deBruijn32tab", Rows.laid_math_bits_deBruijn32tab), ("math/bits.deBruijn64tab", Rows.laid_math_bits_deBruijn64tab), ("internal/strconv.uint64pow10", Rows.laid_internal_strconv_uint64pow10)] w) ∧ sizedMet enc Tryd.prog Tryd.f3 (OpenSpec.ofChange Rows.fnExactTokenTextSpec) false w args)
      (Rows.fnExactTokenTextSpec.post enc Tryd.prog Tryd.f3 false true false false) := by
  refine returnsInHanded_of_change_and (C := Tryd.checked) (X := fun w _ => laidMetH Tryd.prog [("math/bits.deBruijn32tab", Rows.laid_math_bits_deBruijn32tab), ("math/bits.deBruijn64tab", Rows.laid_math_bits_deBruijn64tab), ("internal/strconv.uint64pow10", Rows.laid_internal_strconv_uint64pow10)] w) (fun _ _ _ hh h => h.of_heap hh) own started (by kernel_rfl) Tryd.func3
    (ChangeSpec.witness_shaped (enc := enc) (C := Tryd.checked) (os := os) (X := fun w _ => laidMetH Tryd.prog [("math/bits.deBruijn32tab", Rows.laid_math_bits_deBruijn32tab), ("math/bits.deBruijn64tab", Rows.laid_math_bits_deBruijn64tab), ("internal/strconv.uint64pow10", Rows.laid_internal_strconv_uint64pow10)] w) false (World.doorLaid Tryd.prog 400 os) #[.agg #[.int .i64 0, .int .i64 0, .string ByteArray.empty]] 8 rfl (World.shaped_of_RefB (by kernel_rfl) (by kernel_rfl)) (by kernel_rfl) (by kernel_rfl) (by kernel_rfl) (door_met os _)) ?_
  intro W base args ds gs before hval0 hW _ hSz hL _
  have hval : ∀ (j : Nat) t v, Tryd.f3.params[j]? = some t → args[j]? = some v → Value.okWide Tryd.prog W .any base t v := hval0
  have hW' := hW
  obtain ⟨p, q, hA0, hV, rfl, hfz, hnd⟩ := hW
  have hA : DataW.TrodAll enc Tryd.prog W 0 (fun _ => true) true Tryd.f3.params.toList args.toList ds p := hA0
  rw [Tryd.params3] at hA hval
  obtain ⟨v0, vs0, d0, ds0, p0, q0, hargs, rfl, rfl, h0, r0⟩ := trodAll_cons hA
  obtain ⟨rfl, rfl, rfl⟩ := trodAll_nil r0
  obtain rfl : args = #[v0] := by cases args; simp_all
  obtain ⟨rfl, rfl⟩ := trodVars_none hV
  have g0 := h0
  have lt0 : ∀ x ∈ p0, x.block < W.heap.size := by obtain ⟨m, hm⟩ := g0; exact DataW.trod_lt m _ _ _ hm
  obtain ⟨c0, c1, c2, y0, y1, y2, m, rfl, _, _, hy0, hy1, hy2⟩ := Go.Joins.open_agg3 Tryd.underlying23 (by kernel_rfl) (by kernel_rfl) (hval 0 23 v0 rfl rfl) h0
  obtain ⟨k00, e0, _, z00⟩ := DataW.trod_int Tryd.underlying3 hy0
  obtain ⟨k01, e1, _, z01⟩ := DataW.trod_int Tryd.underlying3 hy1
  obtain ⟨k02, e2, _, w0⟩ := DataW.trod_string Tryd.underlying9 hy2
  simp only [List.cons.injEq, and_true] at e0 e1 e2
  subst e0 e1 e2
  clear hA0 hval0
  refine (walk k00 k01 k02 W w0 (pow_of_laid hL)).mono fun e W' ⟨he, bel⟩ => ?_
  subst he
  exact ⟨_, rfl, _, _, _, [], _, [], hW', trodAll_mk1 (shut_bool Tryd.underlying4 _), (trodAll_cons_mk (Below.trod laidOut (by kernel_rfl) (of_decide_eq_true (by kernel_rfl)) g0 bel lt0) trodAll_mk0), rfl, bel.frame _, fun h => by cases h⟩

theorem over : Rows.fnExactTokenTextRow.holds Tryd.pinned (OpenSpec.ofChange Rows.fnExactTokenTextSpec) :=
  OpenClaim.holds_of_wide 3 Tryd.f3 rfl rfl rfl rfl rfl rfl rfl ⟨rfl, rfl, rfl, rfl, rfl⟩ rfl rfl rfl rfl rfl (by kernel_rfl) Tryd.func3 (by kernel_rfl)
    (of_decide_eq_true (by kernel_rfl)) (by unfold Func.isWrapper; first | (rw [if_pos (by decide +kernel)]; kernel_rfl) | (rw [if_neg (by decide +kernel)]; exact ⟨rfl, rfl⟩))
    (fun os started H enc _ => lifted os started H enc)
end Go.Proofs.YtjbogjoadcikhahDoor.fnExactTokenText
namespace Go.Proofs.YtjbogjoadcikhahDoor
open Go
theorem tokenText_holds : Rows.FnExactTokenTextCardSaid :=
  Claim7.holds_tied_plain_at .later [] [.data, .data, .data] true (true, "937c831b09596a08649b1e2c8f3e1a8f5dd406eef8ae05443f875ae9d94f588a") false
    fnExactTokenText.over (fun _ h => by cases h) (by kernel_rfl) (fun _ h => by cases h) fnExactTokenText_row_tie rfl ⟨rfl, rfl⟩ (by kernel_rfl) rfl
    (fun f fn hf hfn => by
      obtain rfl : f = 3 := Option.some.inj ((show Tryd.prog.funcNamed "loop.example/g00540/laws.FnExactTokenText" = some 3 by kernel_rfl).symm.trans hf) |>.symm
      obtain rfl : fn = Tryd.f3 := (Option.some.inj (Tryd.func3.symm.trans hfn)).symm
      exact ⟨by kernel_rfl, fun j t ht => by
        rw [Tryd.params3] at ht
        have hm : t ∈ [23] := by simpa using Array.mem_of_getElem? ht
        have hall : ([23].all fun u => !Tryd.prog.wantsStandIn u) = true := by kernel_rfl
        exact (show Tryd.prog.wantsStandIn t = false by simpa using List.all_eq_true.1 hall t hm)⟩)
    (by kernel_rfl)
#print axioms tokenText_holds
end Go.Proofs.YtjbogjoadcikhahDoor
