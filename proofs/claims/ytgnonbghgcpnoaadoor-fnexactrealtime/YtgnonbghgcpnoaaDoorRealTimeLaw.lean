/- Proved: at every list of those that are done the law FnExactRealTime returns true, and its argument and the table of words read afterwards as they read before; the table is tied to the program's text by the card. -/
import Derived.Test.YtgnonbghgcpnoaaDoorHiTab
import Derived.Test.YtgnonbghgcpnoaaDoorDnSz
import Derived.Test.YtgnonbghgcpnoaaDoorDnTo
import Derived.Test.YtgnonbghgcpnoaaDoorDnEq
import Derived.Test.YtgnonbghgcpnoaaDoorDnMark
import Derived.Test.YtgnonbghgcpnoaaDoorWiSpec
import Derived.Test.YtgnonbghgcpnoaaDoorWiImplTwo
import Derived.Test.YtgnonbghgcpnoaaDoorTie
import Derived.Test.YtgnonbghgcpnoaaDoorCards
import Derived.SevenTiedAt
import Derived.OpenVars
import Derived.ChangeOld
import Derived.Below
namespace Go.Proofs.YtgnonbghgcpnoaaDoor.fnExactRealTime
open Go.ChangeShapes Go.WideShapes Go.ChangeAt Go.RowKit
open Go.ChangeMaps (open_string shut_string)
open Go.Proofs.YtgnonbghgcpnoaaDoor.Er
set_option linter.unusedVariables false

set_option maxHeartbeats 16000000 in
set_option maxRecDepth 40000 in
theorem walk (a : Option Addr) (c : Nat) (l : List Dn) (w : World) (hr : DnRow 0 w.heap.size w a l) (hl : l.length ≤ maxLen) (ht : ∀ x ∈ l, DnB0 x) (hT : Er.TabH w) :
    Calls Tryd.prog 5 #[.slice a l.length c] w fun e w' => e = .returned (.bool true) ∧ Below w.heap.size w w' := by
  have K0 : Hid (∀ W0, Below w.heap.size w W0 → DnRow 0 W0.heap.size W0 a l ∧ Er.TabH W0) := fun W0 hB => ⟨DnRow.up hr hB, Er.TabH.keep hT hB⟩
  have HL : Hid (l.length ≤ maxLen) := hl
  have HT : Hid (∀ x ∈ l, DnB0 x) := ht
  clear hr hl ht hT
  go_enter Tryd.func5, Tryd.ntmps5
  go_wp2_with fail
  refine (sz_dones a c l 1048576 _ (K0.out _ (Below.refl _ _)).1 HL.out HT.out (by omega) (by omega)).mono ?_
  rintro e w1 ⟨mz, rfl, hm, hb1⟩
  have HM : Hid (Sz 1048576 mz (DnsBd l)) := hm
  have q1 : Hid (Below w.heap.size w w1) := hb1
  have z1 := hb1.size
  clear hm hb1
  by_cases hneg : mz < 0
  · go_wp2_with fail
    go_ret
    exact ⟨rfl, q1.out⟩
  have HE : Hid (DnsBd l) := HM.out.2.2 (by omega)
  clear HM
  have hln : l.length ≤ 1048576 := HE.out.1
  obtain ⟨x, hx⟩ : ∃ x, x = reaB l := ⟨_, rfl⟩
  obtain ⟨cd, hcd⟩ : ∃ x, x = hisC l := ⟨_, rfl⟩
  have HXX : Hid (x = reaB l) := hx
  have HCD : Hid (cd = hisC l) := hcd
  clear hx hcd
  go_wp2_with fail
  refine (to_dones a c l _ (K0.out _ q1.out).1 HE.out).mono ?_
  rintro e w2 ⟨a2, b2, rfl, r2, hb2⟩
  have RA : Hid (DnRow 0 w2.heap.size w2 a2 l) := DnRow.wide r2.row (Nat.zero_le _) (Nat.le_refl _)
  have q2 : Hid (Below w.heap.size w w2) := q1.out.trans (hb2.mono (by omega))
  have z2 := hb2.size
  clear r2 hb2
  go_wp2_with fail
  refine (spec_real a2 _ l _ RA.out hln).mono ?_
  rintro e w3 ⟨rfl, hb3⟩
  rw [← HXX.out, ← HCD.out]
  have z3 := hb3.size
  have q3 : Hid (Below w.heap.size w w3) := q2.out.trans (hb3.mono (by omega))
  clear hb3 RA
  go_wp2_with fail
  refine (to_dones a c l _ (K0.out _ q3.out).1 HE.out).mono ?_
  rintro e w4 ⟨aX, bX, rfl, r4, hb4⟩
  have KX : Hid (∀ W, Below w4.heap.size w4 W → DnRow 0 W.heap.size W aX l) := fun W h => DnRow.up (DnRow.wide r4.row (Nat.zero_le _) (Nat.le_refl _)) h
  have q4 : Hid (Below w.heap.size w w4) := q3.out.trans (hb4.mono (by omega))
  have z4 := hb4.size
  clear r4 hb4
  go_wp2_with fail
  refine (impl_real aX _ l _ (KX.out _ (Below.refl _ _)) hln (K0.out _ q4.out).2).mono ?_
  rintro e w5 ⟨rfl, hb5⟩
  rw [← HXX.out, ← HCD.out]
  have z5 := hb5.size
  have q5 : Hid (Below w4.heap.size w4 w5) := hb5
  have p5 : Hid (Below w.heap.size w w5) := q4.out.trans (hb5.mono (by omega))
  clear hb5
  go_wp2_with fail
  refine (to_dones a c l _ (K0.out _ p5.out).1 HE.out).mono ?_
  rintro e w7 ⟨a7, b7, rfl, r7, hb7⟩
  have R7 : Hid (DnRow 0 w7.heap.size w7 a7 l) := DnRow.wide r7.row (Nat.zero_le _) (Nat.le_refl _)
  have q7 : Hid (Below w4.heap.size w4 w7) := q5.out.trans (hb7.mono (by omega))
  have p7 : Hid (Below w.heap.size w w7) := p5.out.trans (hb7.mono (by omega))
  have z7 := hb7.size
  clear r7 hb7 q5
  go_wp2_with fail
  refine (eq_dones aX a7 _ _ l _ (KX.out _ q7.out) R7.out HE.out).mono ?_
  rintro e w8 ⟨rfl, hb8⟩
  have p8 : Hid (Below w.heap.size w w8) := p7.out.trans (hb8.mono (by omega))
  clear hb8
  go_wp2_with fail
  go_ret
  exact ⟨rfl, p8.out⟩

set_option maxRecDepth 100000 in
theorem lifted (os : Os) (started : os.Started) (H : Type) (enc : TypeId × Value → H) :
    ReturnsInHanded {} Tryd.checked os 5 .any (fun w args => (Rows.fnExactRealTimeSpec.pre enc Tryd.prog Tryd.f5 [] false w args ∧ laidMetH Tryd.prog [("loop.example/g00540/impl.codeWords", Rows.laid_loop_example_g00540_impl_codeWords)] w) ∧ sizedMet enc Tryd.prog Tryd.f5 (OpenSpec.ofChange Rows.fnExactRealTimeSpec) false w args)
      (Rows.fnExactRealTimeSpec.post enc Tryd.prog Tryd.f5 false true false false) := by
  refine returnsInHanded_of_change_and (C := Tryd.checked) (X := fun w _ => laidMetH Tryd.prog [("loop.example/g00540/impl.codeWords", Rows.laid_loop_example_g00540_impl_codeWords)] w) (fun _ _ _ hh h => h.of_heap hh) own started (by kernel_rfl) Tryd.func5
    (ChangeSpec.witness_shaped (enc := enc) (C := Tryd.checked) (os := os) (X := fun w _ => laidMetH Tryd.prog [("loop.example/g00540/impl.codeWords", Rows.laid_loop_example_g00540_impl_codeWords)] w) false (World.doorLaid Tryd.prog 400 os) #[.slice none 0 0] 8 rfl (World.shaped_of_RefB (by kernel_rfl) (by kernel_rfl)) (by kernel_rfl) (by kernel_rfl) (by kernel_rfl) (door_met os _)) ?_
  intro W base args ds gs before hval0 hW _ hSz hL _
  have hval : ∀ (j : Nat) t v, Tryd.f5.params[j]? = some t → args[j]? = some v → Value.okWide Tryd.prog W .any base t v := hval0
  have hW' := hW
  obtain ⟨p, q, hA0, hV, rfl, hfz, hnd⟩ := hW
  have hA : DataW.TrodAll enc Tryd.prog W 0 (fun _ => true) true Tryd.f5.params.toList args.toList ds p := hA0
  rw [Tryd.params5] at hA hval
  obtain ⟨v0, vs0, d0, ds0, p0, q0, hargs, rfl, rfl, h0, r0⟩ := trodAll_cons hA
  obtain ⟨rfl, rfl, rfl⟩ := trodAll_nil r0
  obtain rfl : args = #[v0] := by cases args; simp_all
  obtain ⟨_, _, _, _, dv, _, hgs, _⟩ := trodVars_one hV
  subst hgs
  have g0 := h0
  have lt0 : ∀ x ∈ p0, x.block < W.heap.size := by obtain ⟨m, hm⟩ := g0; exact DataW.trod_lt m _ _ _ hm
  obtain ⟨a0, c0, l0, rfl, hl0, ht0, hr0⟩ : ∃ a c, ∃ l : List Dn, v0 = .slice a l.length c ∧ l.length ≤ maxLen ∧ (∀ x ∈ l, DnB0 x) ∧ DnRow 0 W.heap.size W a l := by
    obtain ⟨a, n, c, rfl⟩ := okWide_slice Tryd.underlying22 (hval 0 22 v0 rfl rfl)
    obtain ⟨fuel, hf⟩ := h0
    obtain ⟨a', c', l, e, h1, h2, h3⟩ := dones_open (by simpa [Value.cells] using hf)
    simp only [List.cons.injEq, and_true] at e
    exact ⟨a', c', l, e, h1, h2, h3⟩
  clear hA0 hval0
  refine (walk a0 c0 l0 W hr0 hl0 ht0 (tab_of_laid hL)).mono fun e W' ⟨he, bel⟩ => ?_
  subst he
  exact ⟨_, rfl, _, _, _, [], _, _, hW', trodAll_mk1 (shut_bool Tryd.underlying4 _), (trodAll_cons_mk (Below.trod laidOut (by kernel_rfl) (of_decide_eq_true (by kernel_rfl)) g0 bel lt0) trodAll_mk0), (Below.trodVars laidOut bel (by kernel_rfl) hV), bel.frame _, fun h => by cases h⟩

theorem over : Rows.fnExactRealTimeRow.holds Tryd.pinned (OpenSpec.ofChange Rows.fnExactRealTimeSpec) :=
  OpenClaim.holds_of_wide 5 Tryd.f5 rfl rfl rfl rfl rfl rfl rfl ⟨rfl, rfl, rfl, rfl, rfl⟩ rfl rfl rfl rfl rfl (by kernel_rfl) Tryd.func5 (by kernel_rfl)
    (of_decide_eq_true (by kernel_rfl)) (by unfold Func.isWrapper; first | (rw [if_pos (by decide +kernel)]; kernel_rfl) | (rw [if_neg (by decide +kernel)]; exact ⟨rfl, rfl⟩))
    (fun os started H enc _ => lifted os started H enc)
end Go.Proofs.YtgnonbghgcpnoaaDoor.fnExactRealTime
namespace Go.Proofs.YtgnonbghgcpnoaaDoor
open Go
theorem realTime_holds : Rows.FnExactRealTimeCardSaid :=
  Claim7.holds_tied_plain_at .later [] [.data] true (true, "975907a7192785783465cc6ae4623ee3a8a558d8cd03f242c1f0ab853130161a") false
    fnExactRealTime.over (fun _ h => by cases h) (by kernel_rfl) (fun _ h => by cases h) fnExactRealTime_row_tie rfl ⟨rfl, rfl⟩ (by kernel_rfl) rfl
    (fun f fn hf hfn => by
      obtain rfl : f = 5 := Option.some.inj ((show Tryd.prog.funcNamed "loop.example/g00540/laws.FnExactRealTime" = some 5 by kernel_rfl).symm.trans hf) |>.symm
      obtain rfl : fn = Tryd.f5 := (Option.some.inj (Tryd.func5.symm.trans hfn)).symm
      exact ⟨by kernel_rfl, fun j t ht => by
        rw [Tryd.params5] at ht
        have hm : t ∈ [22] := by simpa using Array.mem_of_getElem? ht
        have hall : ([22].all fun u => !Tryd.prog.wantsStandIn u) = true := by kernel_rfl
        exact (show Tryd.prog.wantsStandIn t = false by simpa using List.all_eq_true.1 hall t hm)⟩)
    (by kernel_rfl)
#print axioms realTime_holds
end Go.Proofs.YtgnonbghgcpnoaaDoor
