/- Proved: at every list of those that are done the law FnExactWitness returns true, and its argument and the table of words read afterwards as they read before; the table is tied to the program's text by the card. -/
import Derived.Test.YtgnonbghgcpnoaaDoorHiTab
import Derived.Test.YtgnonbghgcpnoaaDoorDnSz
import Derived.Test.YtgnonbghgcpnoaaDoorDnTo
import Derived.Test.YtgnonbghgcpnoaaDoorDnEq
import Derived.Test.YtgnonbghgcpnoaaDoorDnMark
import Derived.Test.YtgnonbghgcpnoaaDoorWiSpec
import Derived.Test.YtgnonbghgcpnoaaDoorWiImplTwo
import Derived.Test.YtgnonbghgcpnoaaDoorTie
import Derived.Test.YtgnonbghgcpnoaaDoorCards
import Derived.SevenTiedAt
import Derived.OpenVars
import Derived.ChangeOld
import Derived.Below
namespace Go.Proofs.YtgnonbghgcpnoaaDoor.fnExactWitness
open Go.ChangeShapes Go.WideShapes Go.ChangeAt Go.RowKit
open Go.ChangeMaps (open_string shut_string)
open Go.Proofs.YtgnonbghgcpnoaaDoor.Er
set_option linter.unusedVariables false

set_option maxHeartbeats 16000000 in
set_option maxRecDepth 40000 in
theorem walk (a : Option Addr) (c : Nat) (l : List Dn) (w : World) (hr : DnRow 0 w.heap.size w a l) (hl : l.length ≤ maxLen) (ht : ∀ x ∈ l, DnB0 x) (hT : Er.TabH w) :
    Calls Tryd.prog 4 #[.slice a l.length c] w fun e w' => e = .returned (.bool true) ∧ Below w.heap.size w w' := by
  have K0 : Hid (∀ W0, Below w.heap.size w W0 → DnRow 0 W0.heap.size W0 a l ∧ Er.TabH W0) := fun W0 hB => ⟨DnRow.up hr hB, Er.TabH.keep hT hB⟩
  have HL : Hid (l.length ≤ maxLen) := hl
  have HT : Hid (∀ x ∈ l, DnB0 x) := ht
  clear hr hl ht hT
  go_enter Tryd.func4, Tryd.ntmps4
  go_wp2_with fail
  refine (sz_dones a c l 1048576 _ (K0.out _ (Below.refl _ _)).1 HL.out HT.out (by omega) (by omega)).mono ?_
  rintro e w1 ⟨mz, rfl, hm, hb1⟩
  have HM : Hid (Sz 1048576 mz (DnsBd l)) := hm
  have q1 : Hid (Below w.heap.size w w1) := hb1
  have z1 := hb1.size
  clear hm hb1
  by_cases hneg : mz < 0
  · go_wp2_with fail
    go_ret
    exact ⟨rfl, q1.out⟩
  have HE : Hid (DnsBd l) := HM.out.2.2 (by omega)
  clear HM
  have hln : l.length ≤ 1048576 := HE.out.1
  obtain ⟨x, hx⟩ : ∃ x, x = witR l := ⟨_, rfl⟩
  obtain ⟨cd, hcd⟩ : ∃ x, x = hisC l := ⟨_, rfl⟩
  have HXX : Hid (x = witR l) := hx
  have HCD : Hid (cd = hisC l) := hcd
  have hxl : x.length ≤ 60 := by rw [hx]; exact witR_len l
  clear hx hcd
  go_wp2_with fail
  refine (to_dones a c l _ (K0.out _ q1.out).1 HE.out).mono ?_
  rintro e w2 ⟨a2, b2, rfl, r2, hb2⟩
  have RA : Hid (DnRow 0 w2.heap.size w2 a2 l) := DnRow.wide r2.row (Nat.zero_le _) (Nat.le_refl _)
  have q2 : Hid (Below w.heap.size w w2) := q1.out.trans (hb2.mono (by omega))
  have z2 := hb2.size
  clear r2 hb2
  go_wp2_with fail
  refine (spec_wit a2 _ l _ RA.out hln).mono ?_
  rintro e w3 ⟨aS, cS, rfl, r3, hb3⟩
  rw [← HXX.out] at r3
  rw [← HXX.out, ← HCD.out]
  have z3 := hb3.size
  have KA : Hid (∀ W, Below w3.heap.size w3 W → NuRow 0 W.heap.size W aS x ∧ Below w.heap.size w W) := fun W h =>
    ⟨Row.up (Row.wide r3 (Nat.zero_le _) (Nat.le_refl _)) h, (q2.out.trans (hb3.mono (by omega))).trans (h.mono (by omega))⟩
  clear hb3 r3 RA
  go_wp2_with fail
  refine (to_dones a c l _ (K0.out _ (KA.out _ (Below.refl _ _)).2).1 HE.out).mono ?_
  rintro e w4 ⟨aX, bX, rfl, r4, hb4⟩
  have O4 : Hid (DnOwn w3.heap.size w4.heap.size w4 aX l) := r4
  have q4 : Hid (Below w3.heap.size w3 w4) := hb4
  have z4 := hb4.size
  clear r4 hb4
  go_wp2_with fail
  refine (impl_wit aX _ l _ (DnRow.wide O4.out.row (Nat.zero_le _) (Nat.le_refl _)) hln (K0.out _ (KA.out _ q4.out).2).2).mono ?_
  rintro e w5 ⟨aG, cG, rfl, r5, hb5⟩
  rw [← HXX.out] at r5
  rw [← HXX.out, ← HCD.out]
  have z5 := hb5.size
  have KC : Hid (∀ W, Below w5.heap.size w5 W → DnOwn w3.heap.size w4.heap.size W aX l ∧ NuOwn w4.heap.size w5.heap.size W aG x ∧ Below w3.heap.size w3 W) := fun W h =>
    ⟨DnOwn.keep (DnOwn.keep O4.out (Below.agree hb5 (Nat.le_refl _))) (Below.agree h (by omega)), NuOwn.keep r5 (Below.agree h (Nat.le_refl _)), (q4.out.trans (hb5.mono (by omega))).trans (h.mono (by omega))⟩
  clear r5 hb5 O4 q4
  go_wp2_with fail
  have D0 := KC.out _ (Below.refl _ _)
  refine (eq_nums aG aS cG cS x _ (Row.wide D0.2.1.row (Nat.zero_le _) (by omega)) (KA.out _ D0.2.2).1 (by omega)).mono ?_
  clear D0
  rintro e w6 ⟨rfl, hb6⟩
  have q6 : Hid (Below w5.heap.size w5 w6) := hb6
  have z6 := hb6.size
  clear hb6
  go_wp2_with fail
  refine (to_dones a c l _ (K0.out _ (KA.out _ (KC.out _ q6.out).2.2).2).1 HE.out).mono ?_
  rintro e w7 ⟨a7, b7, rfl, r7, hb7⟩
  have R7 : Hid (DnRow 0 w7.heap.size w7 a7 l) := DnRow.wide r7.row (Nat.zero_le _) (Nat.le_refl _)
  have q7 : Hid (Below w5.heap.size w5 w7) := q6.out.trans (hb7.mono (by omega))
  have z7 := hb7.size
  clear r7 hb7 q6
  go_wp2_with fail
  refine (eq_dones aX a7 _ _ l _ (DnRow.wide (KC.out _ q7.out).1.row (Nat.zero_le _) (by omega)) R7.out HE.out).mono ?_
  rintro e w8 ⟨rfl, hb8⟩
  have q8 : Hid (Below w5.heap.size w5 w8) := q7.out.trans (hb8.mono (by omega))
  have z8 := hb8.size
  clear hb8 q7 R7
  go_wp2_with fail
  refine (mark_dones aX _ l w3.heap.size w4.heap.size _ (KC.out _ q8.out).1 (by omega) HE.out).mono ?_
  rintro e w9 ⟨r9, rfl, hr9, k9⟩
  have hr0 : ¬ r9 < 0 := by omega
  have z9 := k9.size
  have U9 : Hid (Below w3.heap.size w3 w9) := (KC.out _ q8.out).2.2.trans (k9.below (by omega) (Nat.le_refl _))
  have O9 : Hid (NuOwn w4.heap.size w5.heap.size w9 aG x) := NuOwn.keep (KC.out _ q8.out).2.1 (fun g h1 h2 => k9.block g (by omega) (.inr h1))
  clear hr9 k9 KC q8
  have KD : Hid (∀ W, Below w9.heap.size w9 W → NuOwn w4.heap.size w5.heap.size W aG x ∧ Below w3.heap.size w3 W) := fun W h =>
    ⟨NuOwn.keep O9.out (Below.agree h (by omega)), U9.out.trans (h.mono (by omega))⟩
  clear O9 U9
  go_wp2_with fail
  have T9 := KD.out _ (Below.refl _ _)
  refine (eq_nums aG aS cG cS x _ (Row.wide T9.1.row (Nat.zero_le _) (by omega)) (KA.out _ T9.2).1 (by omega)).mono ?_
  clear T9
  rintro e wQ ⟨rfl, hbQ⟩
  have QQ : Hid (Below w9.heap.size w9 wQ) := hbQ
  have zQ := hbQ.size
  clear hbQ
  go_wp2_with fail
  refine (mark_nums aG _ x w4.heap.size w5.heap.size 1 _ (KD.out _ QQ.out).1 (by omega) (by omega) (by omega)).mono ?_
  rintro e wA ⟨rA, rfl, hrA, mA, kA⟩
  have zA := kA.size
  have MA : Hid (NuMk w4.heap.size w5.heap.size wA aG x.length 1) := mA
  have UA : Hid (Below w3.heap.size w3 wA) := (KD.out _ QQ.out).2.trans (kA.below (by omega) (by omega))
  have HRA : Hid (rA = 1 + x.length) := hrA
  clear mA kA KD hrA QQ
  have KE : Hid (∀ W, Below wA.heap.size wA W → NuMk w4.heap.size w5.heap.size W aG x.length 1 ∧ Below w3.heap.size w3 W) := fun W h =>
    ⟨NuMk.keep MA.out (Below.agree h (by omega)), UA.out.trans (h.mono (by omega))⟩
  clear MA UA
  go_wp2_with fail
  refine (held_nums aG _ x.length w4.heap.size w5.heap.size 1 _ (KE.out _ (Below.refl _ _)).1 (by omega) (by omega) (by omega)).mono ?_
  rintro e wB ⟨rB, rfl, hrB, rfl⟩
  obtain rfl : rA = rB := by rw [hrB]; exact HRA.out
  have hrp : ¬ rA < 0 := by have := HRA.out; omega
  clear hrB
  go_wp2_with fail
  refine (to_dones a c l _ (K0.out _ (KA.out _ (KE.out _ (Below.refl _ _)).2).2).1 HE.out).mono ?_
  rintro e wC ⟨aC, bC, rfl, rC, hbC⟩
  have RC : Hid (DnRow 0 wC.heap.size wC aC l) := DnRow.wide rC.row (Nat.zero_le _) (Nat.le_refl _)
  have QC : Hid (Below wB.heap.size wB wC) := hbC
  have zC := hbC.size
  clear rC hbC
  go_wp2_with fail
  refine (impl_wit aC _ l _ RC.out hln (K0.out _ (KA.out _ (KE.out _ QC.out).2).2).2).mono ?_
  rintro e wD ⟨aH, cH, rfl, rD, hbD⟩
  rw [← HXX.out] at rD
  rw [← HXX.out, ← HCD.out]
  have RD : Hid (NuRow 0 wD.heap.size wD aH x) := Row.wide rD.row (Nat.zero_le _) (Nat.le_refl _)
  have QD : Hid (Below wB.heap.size wB wD) := QC.out.trans (hbD.mono (by omega))
  have zD := hbD.size
  clear rD hbD QC RC
  go_wp2_with fail
  refine (eq_nums aH aS cH cS x _ RD.out (KA.out _ (KE.out _ QD.out).2).1 (by omega)).mono ?_
  rintro e wE ⟨rfl, hbE⟩
  have QE : Hid (Below wB.heap.size wB wE) := QD.out.trans (hbE.mono (by omega))
  have zE := hbE.size
  clear hbE QD RD
  go_wp2_with fail
  refine (held_nums aG _ x.length w4.heap.size w5.heap.size 1 _ (KE.out _ QE.out).1 (by omega) (by omega) (by omega)).mono ?_
  rintro e wF ⟨rF, rfl, hrF, rfl⟩
  obtain rfl : rA = rF := by rw [hrF]; exact HRA.out
  have QF : Hid (Below w.heap.size w wF) := (KA.out _ (KE.out _ QE.out).2).2
  clear hrF
  go_wp2_with fail
  go_ret
  exact ⟨rfl, QF.out⟩

set_option maxRecDepth 100000 in
theorem lifted (os : Os) (started : os.Started) (H : Type) (enc : TypeId × Value → H) :
    ReturnsInHanded {} Tryd.checked os 4 .any (fun w args => (Rows.fnExactWitnessSpec.pre enc Tryd.prog Tryd.f4 [] false w args ∧ laidMetH Tryd.prog [("loop.example/g00540/impl.codeWords", Rows.laid_loop_example_g00540_impl_codeWords)] w) ∧ sizedMet enc Tryd.prog Tryd.f4 (OpenSpec.ofChange Rows.fnExactWitnessSpec) false w args)
      (Rows.fnExactWitnessSpec.post enc Tryd.prog Tryd.f4 false true false false) := by
  refine returnsInHanded_of_change_and (C := Tryd.checked) (X := fun w _ => laidMetH Tryd.prog [("loop.example/g00540/impl.codeWords", Rows.laid_loop_example_g00540_impl_codeWords)] w) (fun _ _ _ hh h => h.of_heap hh) own started (by kernel_rfl) Tryd.func4
    (ChangeSpec.witness_shaped (enc := enc) (C := Tryd.checked) (os := os) (X := fun w _ => laidMetH Tryd.prog [("loop.example/g00540/impl.codeWords", Rows.laid_loop_example_g00540_impl_codeWords)] w) false (World.doorLaid Tryd.prog 400 os) #[.slice none 0 0] 8 rfl (World.shaped_of_RefB (by kernel_rfl) (by kernel_rfl)) (by kernel_rfl) (by kernel_rfl) (by kernel_rfl) (door_met os _)) ?_
  intro W base args ds gs before hval0 hW _ hSz hL _
  have hval : ∀ (j : Nat) t v, Tryd.f4.params[j]? = some t → args[j]? = some v → Value.okWide Tryd.prog W .any base t v := hval0
  have hW' := hW
  obtain ⟨p, q, hA0, hV, rfl, hfz, hnd⟩ := hW
  have hA : DataW.TrodAll enc Tryd.prog W 0 (fun _ => true) true Tryd.f4.params.toList args.toList ds p := hA0
  rw [Tryd.params4] at hA hval
  obtain ⟨v0, vs0, d0, ds0, p0, q0, hargs, rfl, rfl, h0, r0⟩ := trodAll_cons hA
  obtain ⟨rfl, rfl, rfl⟩ := trodAll_nil r0
  obtain rfl : args = #[v0] := by cases args; simp_all
  obtain ⟨_, _, _, _, dv, _, hgs, _⟩ := trodVars_one hV
  subst hgs
  have g0 := h0
  have lt0 : ∀ x ∈ p0, x.block < W.heap.size := by obtain ⟨m, hm⟩ := g0; exact DataW.trod_lt m _ _ _ hm
  obtain ⟨a0, c0, l0, rfl, hl0, ht0, hr0⟩ : ∃ a c, ∃ l : List Dn, v0 = .slice a l.length c ∧ l.length ≤ maxLen ∧ (∀ x ∈ l, DnB0 x) ∧ DnRow 0 W.heap.size W a l := by
    obtain ⟨a, n, c, rfl⟩ := okWide_slice Tryd.underlying22 (hval 0 22 v0 rfl rfl)
    obtain ⟨fuel, hf⟩ := h0
    obtain ⟨a', c', l, e, h1, h2, h3⟩ := dones_open (by simpa [Value.cells] using hf)
    simp only [List.cons.injEq, and_true] at e
    exact ⟨a', c', l, e, h1, h2, h3⟩
  clear hA0 hval0
  refine (walk a0 c0 l0 W hr0 hl0 ht0 (tab_of_laid hL)).mono fun e W' ⟨he, bel⟩ => ?_
  subst he
  exact ⟨_, rfl, _, _, _, [], _, _, hW', trodAll_mk1 (shut_bool Tryd.underlying4 _), (trodAll_cons_mk (Below.trod laidOut (by kernel_rfl) (of_decide_eq_true (by kernel_rfl)) g0 bel lt0) trodAll_mk0), (Below.trodVars laidOut bel (by kernel_rfl) hV), bel.frame _, fun h => by cases h⟩

theorem over : Rows.fnExactWitnessRow.holds Tryd.pinned (OpenSpec.ofChange Rows.fnExactWitnessSpec) :=
  OpenClaim.holds_of_wide 4 Tryd.f4 rfl rfl rfl rfl rfl rfl rfl ⟨rfl, rfl, rfl, rfl, rfl⟩ rfl rfl rfl rfl rfl (by kernel_rfl) Tryd.func4 (by kernel_rfl)
    (of_decide_eq_true (by kernel_rfl)) (by unfold Func.isWrapper; first | (rw [if_pos (by decide +kernel)]; kernel_rfl) | (rw [if_neg (by decide +kernel)]; exact ⟨rfl, rfl⟩))
    (fun os started H enc _ => lifted os started H enc)
end Go.Proofs.YtgnonbghgcpnoaaDoor.fnExactWitness
namespace Go.Proofs.YtgnonbghgcpnoaaDoor
open Go
theorem witness_holds : Rows.FnExactWitnessCardSaid :=
  Claim7.holds_tied_plain_at .later [] [.data] true (true, "975907a7192785783465cc6ae4623ee3a8a558d8cd03f242c1f0ab853130161a") false
    fnExactWitness.over (fun _ h => by cases h) (by kernel_rfl) (fun _ h => by cases h) fnExactWitness_row_tie rfl ⟨rfl, rfl⟩ (by kernel_rfl) rfl
    (fun f fn hf hfn => by
      obtain rfl : f = 4 := Option.some.inj ((show Tryd.prog.funcNamed "loop.example/g00540/laws.FnExactWitness" = some 4 by kernel_rfl).symm.trans hf) |>.symm
      obtain rfl : fn = Tryd.f4 := (Option.some.inj (Tryd.func4.symm.trans hfn)).symm
      exact ⟨by kernel_rfl, fun j t ht => by
        rw [Tryd.params4] at ht
        have hm : t ∈ [22] := by simpa using Array.mem_of_getElem? ht
        have hall : ([22].all fun u => !Tryd.prog.wantsStandIn u) = true := by kernel_rfl
        exact (show Tryd.prog.wantsStandIn t = false by simpa using List.all_eq_true.1 hall t hm)⟩)
    (by kernel_rfl)
#print axioms witness_holds
end Go.Proofs.YtgnonbghgcpnoaaDoor
