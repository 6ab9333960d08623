/- Proved: at every store and number the law FnExactKeysSince returns true, and its arguments read afterwards as they read before. No conditions beyond the row's own. -/
import Derived.Test.YtddjcemkopidbabStKeysTwo
import Derived.Test.YtddjcemkopidbabStSz
import Derived.Test.YtddjcemkopidbabStTo
import Derived.Test.YtddjcemkopidbabStEq
import Derived.WalkKit
import Derived.ProofKit
import Derived.OpenShut
import Derived.ShutString
import Derived.ChangeOld
import Derived.Below
import Derived.Lib.SmallJoins
import Derived.Deep.CutRange
namespace Go.Proofs.Ytddjcemkopidbab.fnExactKeysSince
open Go.ChangeShapes Go.WideShapes Go.ChangeAt Go.RowKit
open Go.ChangeMaps (open_string shut_string)
open Go.Proofs.Ytddjcemkopidbab.G
set_option linter.unusedVariables false

theorem own : ownKnob Try.prog.godebug = none := by kernel_rfl
theorem laidOut : laidOutB Try.prog = true := by kernel_rfl

set_option maxHeartbeats 16000000 in
set_option maxRecDepth 40000 in
theorem walk (a : Option Addr) (c : Nat) (l : Chs) (now ts : Int) (w : World) (hr : ChRow 0 w.heap.size w a l) (hb : ChsBd maxLen l) :
    Calls Try.prog 3 #[.agg #[.slice a l.length c, .int .i64 now], .int .i64 ts] w fun e w' => e = .returned (.bool true) ∧ Below w.heap.size w w' := by
  have B0 : Hid (Below w.heap.size w (w.alloc (.cells #[.slice a l.length c, .int .i64 now] 24))) := (Below.refl _ _).alloc (Nat.le_refl _) _
  have K0 : Hid (∀ W0, Below w.heap.size w W0 → ChRow 0 W0.heap.size W0 a l) := fun W0 hB => ChRow.up hr hB
  have HD : Hid (ChsBd maxLen l) := hb
  clear hr hb
  go_enter Try.func3, Try.ntmps3
  go_wp2_with fail
  refine (sz_store a c l now 1048576 _ (K0.out _ B0.out) HD.out (by omega) (by omega)).mono ?_
  rintro e w1 ⟨mz, rfl, hm, hb1⟩
  have HM : Hid (Sz 1048576 mz (ChsBd 1048576 l)) := hm
  clear hm
  have A1 : Hid (w1.heap[w.heap.size]? = some (.cells #[.slice a l.length c, .int .i64 now] 24 (0, 0))) := (hb1.block _ (by simp)).trans (heap_alloc_new _ _)
  have z1 : w.heap.size + 1 ≤ w1.heap.size := size_one hb1
  have q1 : Hid (Below w.heap.size w w1) := below_one hb1
  clear hb1
  by_cases hneg : mz < 0
  · go_wp2_with fail
    go_ret
    exact ⟨rfl, q1.out⟩
  have HE : Hid (ChsBd 1048576 l) := HM.out.2.2 (by omega)
  clear HM
  have HSZ : Hid (sizeN l ≤ 1099511627776) := by have := sizeN_le HE.out.2; have := HE.out.1; unfold Hid; exact Nat.le_trans ‹_› (Nat.mul_le_mul_right 1048576 this)
  obtain ⟨x, hx⟩ : ∃ x, x = keysR l now ts := ⟨_, rfl⟩
  obtain ⟨cd, hcd⟩ : ∃ x, x = hourN l now ts := ⟨_, rfl⟩
  have HXX : Hid (x = keysR l now ts) := hx
  have HCD : Hid (cd = hourN l now ts) := hcd
  have hxl : x.length ≤ 16 := by rw [hx]; exact keysR_len l now ts
  clear hx hcd
  have c1 := fun o => row_cell A1.out o
  go_wp2_with fail
  refine (to_store a c l now _ (K0.out _ q1.out) HE.out).mono ?_
  rintro e w2 ⟨a2, b2, rfl, r2, hb2⟩
  have RA : Hid (ChRow 0 w2.heap.size w2 a2 l) := ChRow.wide r2.row (Nat.zero_le _) (Nat.le_refl _)
  have z2 : w.heap.size + 1 ≤ w2.heap.size := by have := hb2.size; omega
  have q2 : Hid (Below w.heap.size w w2) := q1.out.trans (hb2.mono (by omega))
  have A2 : Hid (w2.heap[w.heap.size]? = some (.cells #[.slice a l.length c, .int .i64 now] 24 (0, 0))) := (hb2.block _ (by omega)).trans A1.out
  clear r2 hb2 c1 A1
  go_wp2_with fail
  refine (spec_keys a2 _ l now ts _ RA.out HE.out).mono ?_
  rintro e w3 ⟨aS, cS, rfl, r3, hb3⟩
  rw [← HXX.out] at r3
  rw [← HXX.out, ← HCD.out]
  have z3 : w.heap.size + 1 ≤ w3.heap.size := by have := hb3.size; omega
  have KA : Hid (∀ W, Below w3.heap.size w3 W → NuRow 0 W.heap.size W aS x ∧ W.heap[w.heap.size]? = some (.cells #[.slice a l.length c, .int .i64 now] 24 (0, 0)) ∧ Below w.heap.size w W) := fun W h =>
    ⟨NuRow.up (NuRow.wide r3 (Nat.zero_le _) (Nat.le_refl _)) h, (h.block _ (by omega)).trans ((hb3.block _ (by omega)).trans A2.out), (q2.out.trans (hb3.mono (by omega))).trans (h.mono (by omega))⟩
  have A3 := (KA.out _ (Below.refl _ _)).2.1
  have c3 := fun o => row_cell A3 o
  clear hb3 A2 r3 RA A3
  go_wp2_with fail
  clear c3
  refine (to_store a c l now _ (K0.out _ (KA.out _ (Below.refl _ _)).2.2) HE.out).mono ?_
  rintro e w4 ⟨aX, bX, rfl, r4, hb4⟩
  have O4 : Hid (StOwn w3.heap.size w4.heap.size w4 aX l bX) := r4
  have q4 : Hid (Below w3.heap.size w3 w4) := hb4
  have z4 := hb4.size
  clear r4 hb4
  go_wp2_with fail
  obtain ⟨vb, hvb⟩ : ∃ W, W = w4.alloc (.cells #[.slice aX l.length l.length, .int .i64 now] 31) := ⟨_, rfl⟩
  rw [← hvb]
  have zvb : vb.heap.size = w4.heap.size + 1 := by rw [hvb]; simp
  have bvb : Below w4.heap.size w4 vb := by rw [hvb]; exact (Below.refl _ _).alloc (Nat.le_refl _) _
  have cvb : vb.heap[w4.heap.size]? = some (.cells #[.slice aX l.length l.length, .int .i64 now] 31 (0, 0)) := by rw [hvb]; exact heap_alloc_new _ _
  have KB : Hid (∀ W, Below vb.heap.size vb W → StOwn w3.heap.size w4.heap.size W aX l bX ∧ W.heap[w4.heap.size]? = some (.cells #[.slice aX l.length l.length, .int .i64 now] 31 (0, 0)) ∧ Below w3.heap.size w3 W) := fun W h =>
    ⟨StOwn.keep (StOwn.keep O4.out (agree bvb (Nat.le_refl _))) (agree h (by omega)), (h.block _ (by omega)).trans cvb, (q4.out.trans (bvb.mono (by omega))).trans (h.mono (by omega))⟩
  clear hvb cvb bvb O4 q4
  refine (impl_keys aX _ l now ts _ (ChRow.wide (KB.out _ (Below.refl _ _)).1.row (Nat.zero_le _) (by omega)) HE.out).mono ?_
  rintro e w5 ⟨aG, cG, rfl, r5, hb5⟩
  rw [← HXX.out] at r5
  rw [← HXX.out, ← HCD.out]
  have z5 := hb5.size
  have KC : Hid (∀ W, Below w5.heap.size w5 W → NuOwn vb.heap.size w5.heap.size W aG x ∧ Below vb.heap.size vb W) := fun W h => ⟨NuOwn.keep r5 (agree h (Nat.le_refl _)), hb5.trans (h.mono (by omega))⟩
  clear r5 hb5
  go_wp2_with fail
  have D0 := KC.out _ (Below.refl _ _)
  refine (eq_nums aG aS cG cS x _ (NuRow.wide D0.1.row (Nat.zero_le _) (by omega)) (KA.out _ (KB.out _ D0.2).2.2).1 (by omega)).mono ?_
  clear D0
  rintro e w6 ⟨rfl, hb6⟩
  have q6 : Hid (Below w5.heap.size w5 w6) := hb6
  have z6 := hb6.size
  have T6 := KC.out _ hb6
  have x6 := fun o => row_cell (KB.out _ T6.2).2.1 o
  have c6 := fun o => row_cell (KA.out _ (KB.out _ T6.2).2.2).2.1 o
  clear hb6 T6
  go_wp2_with fail
  go_cut [49] from 45 to 49 (fun u wx => u = .bool false ∧ Below w6.heap.size w6 wx)
  case first =>
    go_region_with (first
      | (go_at_call 7
         refine Calls.mono (to_store a c l now _ (K0.out _ ?hb) HE.out) ?_
         case hb => exact (KA.out _ (KB.out _ (KC.out _ q6.out.drew).2).2.2).2.2
         rintro e v6 ⟨a6, b6, rfl, r6, hb6⟩
         have e6 := fun o => (hb6.cell (p := ⟨w4.heap.size, o, none⟩) (show w4.heap.size < w6.heap.size by omega)).trans (x6 o)
         have R6 : Hid (ChRow 0 v6.heap.size v6 a6 l) := ChRow.wide r6.row (Nat.zero_le _) (Nat.le_refl _)
         have p6 : Hid (Below w6.heap.size w6 v6) := (Below.refl _ _).drew.trans (hb6.mono (Nat.le_refl _))
         clear r6 hb6)
      | (go_at_call 10
         refine (eq_store aX _ _ _ l now _ (ChRow.wide (KB.out _ (KC.out _ (q6.out.trans (p6.out.mono (by omega)))).2).1.row (Nat.zero_le _) (by have := p6.out.size; omega)) R6.out HE.out).mono ?_
         rintro e v7 ⟨rfl, hb7⟩
         have p7 : Hid (Below w6.heap.size w6 v7) := p6.out.trans (hb7.mono (by have := p6.out.size; omega))))
    all_goals (try go_wp2_with fail)
    all_goals go_meet
    all_goals exact ⟨rfl, p7.out⟩
  obtain ⟨rfl, hb7⟩ := hcut
  have z7 : w6.heap.size ≤ wc.heap.size := hb7.size
  have Q7 : Hid (Below w5.heap.size w5 wc) := q6.out.trans (hb7.mono (by omega))
  clear hb7 x6 c6 q6
  have T7 := KC.out _ Q7.out
  have x7 := fun o => row_cell (KB.out _ T7.2).2.1 o
  clear T7
  go_wp2_with fail
  have T7 := KC.out _ Q7.out
  refine (mark_store aX _ l now w3.heap.size w4.heap.size bX 1 _ (KB.out _ T7.2).1 HE.out HSZ.out (by omega) (by omega) (by omega)).mono ?_
  clear T7
  rintro e w8 ⟨r8, rfl, hr8, _, k8⟩
  have hr0 : ¬ r8 < 0 := by omega
  have z8 := k8.size
  have T7 := KC.out _ Q7.out
  have U8 : Hid (Below w3.heap.size w3 w8) := (KB.out _ T7.2).2.2.trans (k8.below (by omega) (Nat.le_refl _))
  have O8 : Hid (NuOwn vb.heap.size w5.heap.size w8 aG x) := NuOwn.keep T7.1 (k8.agree (by omega) (.inr (by omega)))
  clear T7 hr8 k8 x7
  have KD : Hid (∀ W, Below w8.heap.size w8 W → NuOwn vb.heap.size w5.heap.size W aG x ∧ Below w3.heap.size w3 W) := fun W h =>
    ⟨NuOwn.keep O8.out (agree h (by omega)), U8.out.trans (h.mono (by omega))⟩
  clear O8 U8 KC KB Q7
  go_wp2_with fail
  have T8 := KD.out _ (Below.refl _ _)
  refine (eq_nums aG aS cG cS x _ (NuRow.wide T8.1.row (Nat.zero_le _) (by omega)) (KA.out _ T8.2).1 (by omega)).mono ?_
  clear T8
  rintro e w9 ⟨rfl, hb9⟩
  have Q9 : Hid (Below w8.heap.size w8 w9) := hb9
  have z9 := hb9.size
  clear hb9
  go_wp2_with fail
  refine (mark_nums aG _ x vb.heap.size w5.heap.size 1 _ (KD.out _ Q9.out).1 (by omega) (by omega) (by omega)).mono ?_
  rintro e wA ⟨rA, rfl, hrA, mA, kA⟩
  have zA := kA.size
  have MA : Hid (NuMk vb.heap.size w5.heap.size wA aG x.length 1) := mA
  have UA : Hid (Below w3.heap.size w3 wA) := (KD.out _ Q9.out).2.trans (kA.below (by omega) (by omega))
  have HRA : Hid (rA = 1 + x.length) := hrA
  clear mA kA KD hrA
  have KE : Hid (∀ W, Below wA.heap.size wA W → NuMk vb.heap.size w5.heap.size W aG x.length 1 ∧ Below w3.heap.size w3 W) := fun W h =>
    ⟨NuMk.keep MA.out (agree h (by omega)), UA.out.trans (h.mono (by omega))⟩
  clear MA UA
  go_wp2_with fail
  refine (held_nums aG _ x.length vb.heap.size w5.heap.size 1 _ (KE.out _ (Below.refl _ _)).1 (by omega) (by omega) (by omega)).mono ?_
  rintro e wB ⟨rB, rfl, hrB, rfl⟩
  obtain rfl : rA = rB := by rw [hrB]; exact HRA.out
  have hrp : ¬ rA < 0 := by have := HRA.out; omega
  have cB := fun o => row_cell (KA.out _ (KE.out _ (Below.refl _ _)).2).2.1 o
  clear hrB
  go_wp2_with fail
  clear cB
  refine (to_store a c l now _ (K0.out _ (KA.out _ (KE.out _ (Below.refl _ _)).2).2.2) HE.out).mono ?_
  rintro e wC ⟨aC, bC, rfl, rC, hbC⟩
  have RC : Hid (ChRow 0 wC.heap.size wC aC l) := ChRow.wide rC.row (Nat.zero_le _) (Nat.le_refl _)
  have QC : Hid (Below wB.heap.size wB wC) := hbC
  have zC := hbC.size
  clear rC hbC
  go_wp2_with fail
  refine (impl_keys aC _ l now ts _ RC.out HE.out).mono ?_
  rintro e wD ⟨aH, cH, rfl, rD, hbD⟩
  rw [← HXX.out] at rD
  rw [← HXX.out, ← HCD.out]
  have RD : Hid (NuRow 0 wD.heap.size wD aH x) := NuRow.wide rD.row (Nat.zero_le _) (Nat.le_refl _)
  have QD : Hid (Below wB.heap.size wB wD) := QC.out.trans (hbD.mono (by omega))
  have zD := hbD.size
  clear rD hbD QC RC
  go_wp2_with fail
  refine (eq_nums aH aS cH cS x _ RD.out (KA.out _ (KE.out _ QD.out).2).1 (by omega)).mono ?_
  rintro e wE ⟨rfl, hbE⟩
  have QE : Hid (Below wB.heap.size wB wE) := QD.out.trans (hbE.mono (by omega))
  have zE := hbE.size
  clear hbE QD RD
  go_wp2_with fail
  refine (held_nums aG _ x.length vb.heap.size w5.heap.size 1 _ (KE.out _ QE.out).1 (by omega) (by omega) (by omega)).mono ?_
  rintro e wF ⟨rF, rfl, hrF, rfl⟩
  obtain rfl : rA = rF := by rw [hrF]; exact HRA.out
  have QF : Hid (Below w.heap.size w wF) := (KA.out _ (KE.out _ QE.out).2).2.2
  clear hrF
  go_wp2_with fail
  go_ret
  exact ⟨rfl, QF.out⟩

set_option maxRecDepth 100000 in
theorem lifted (os : Os) (started : os.Started) (H : Type) (enc : TypeId × Value → H) :
    ReturnsInHanded {} Try.checked os 3 .any (Rows.fnExactKeysSinceSpec.pre6 enc Try.prog Try.f3 Rows.fnExactKeysSinceRow.domain false) (Rows.fnExactKeysSinceSpec.post enc Try.prog Try.f3 false true false false) := by
  refine returnsInHanded_of_change (C := Try.checked) own started (by kernel_rfl) Try.func3
    (ChangeSpec.witness6 (enc := enc) (C := Try.checked) false ⟨#[], #[.agg #[.slice none 0 0, .int .i64 0], .int .i64 0], []⟩ 8 (by kernel_rfl) (by kernel_rfl) (by kernel_rfl) (by kernel_rfl)) ?_
  intro W base args ds gs before hval0 hW hcnd _
  have hval : ∀ (j : Nat) t v, Try.f3.params[j]? = some t → args[j]? = some v → Value.okWide Try.prog W .any base t v := hval0
  have hW' := hW
  obtain ⟨p, q, hA0, hV, rfl, hfz, hnd⟩ := hW
  have hA : DataW.TrodAll enc Try.prog W 0 (fun _ => true) true Try.f3.params.toList args.toList ds p := hA0
  rw [Try.params3] at hA hval
  obtain ⟨v0, vs0, d0, ds0, p0, q0, hargs, rfl, rfl, h0, r0⟩ := trodAll_cons hA
  obtain ⟨v1, vs1, d1, ds1, p1, q1, rfl, rfl, rfl, h1, r1⟩ := trodAll_cons r0
  obtain ⟨rfl, rfl, rfl⟩ := trodAll_nil r1
  obtain rfl : args = #[v0, v1] := by cases args; simp_all
  obtain ⟨rfl, rfl⟩ := trodVars_none hV
  have g0 := h0
  have lt0 : ∀ x ∈ p0, x.block < W.heap.size := by obtain ⟨m, hm⟩ := g0; exact DataW.trod_lt m _ _ _ hm
  obtain ⟨a0, c0, l0, n0, rfl, hb0, hr0⟩ : ∃ a c, ∃ l : Chs, ∃ n : Int, v0 = .agg #[.slice a l.length c, .int .i64 n] ∧ ChsBd maxLen l ∧ ChRow 0 W.heap.size W a l := by
    obtain ⟨cs, rfl, hsz⟩ := okWide_struct Try.underlying24 (hval 0 24 v0 rfl rfl)
    obtain ⟨fuel, hf⟩ := h0
    obtain ⟨y0, y1, n, hx, hlen, h1, h2⟩ := trod_struct2 Try.underlying24 hf
    have cd : Try.prog.cellsOf 24 = 2 := by kernel_rfl
    have c1 : Try.prog.cellsOf 22 = 1 := by kernel_rfl
    have ci : Try.prog.cellsOf 3 = 1 := by kernel_rfl
    obtain ⟨u⟩ := cs
    have hu : u.length = 2 := by rw [cd] at hsz; simpa using hsz
    obtain ⟨q0, q1, rfl⟩ := listTwo hu
    obtain ⟨a, c, l, e, hb, hr⟩ := Chs_open (by simpa [Value.cells, c1] using h1)
    obtain ⟨z, e2, _, _⟩ := DataW.trod_int Try.underlying3 h2
    simp [Value.cells, ci] at e e2
    subst e e2
    exact ⟨a, c, l, z, rfl, hb, hr⟩
  have g1 := h1
  have lt1 : ∀ x ∈ p1, x.block < W.heap.size := by obtain ⟨m, hm⟩ := g1; exact DataW.trod_lt m _ _ _ hm
  obtain ⟨x1, rfl, _, _, w1⟩ := open_int Try.underlying3 (hval 1 3 v1 rfl rfl) h1
  clear hA0 hval0
  refine (walk a0 c0 l0 n0 x1 W hr0 hb0).mono fun e W' ⟨he, bel⟩ => ?_
  subst he
  exact ⟨_, rfl, _, _, _, [], _, [], hW', trodAll_mk1 (shut_bool Try.underlying4 _), (trodAll_cons_mk (Below.trod laidOut (by kernel_rfl) (of_decide_eq_true (by kernel_rfl)) g0 bel lt0) (trodAll_cons_mk (Below.trod laidOut (by kernel_rfl) (of_decide_eq_true (by kernel_rfl)) g1 bel lt1) trodAll_mk0)), rfl, bel.frame _, fun h => by cases h⟩

theorem over : Rows.fnExactKeysSinceRow.holds Try.pinned (OpenSpec.ofChange Rows.fnExactKeysSinceSpec) :=
  OpenClaim.holds_of_wide 3 Try.f3 rfl rfl rfl rfl rfl rfl rfl ⟨rfl, rfl, rfl, rfl, rfl⟩ rfl rfl rfl rfl rfl (by kernel_rfl) Try.func3 (by kernel_rfl)
    (of_decide_eq_true (by kernel_rfl)) (by unfold Func.isWrapper; first | (rw [if_pos (by decide +kernel)]; kernel_rfl) | (rw [if_neg (by decide +kernel)]; exact ⟨rfl, rfl⟩))
    (fun os started H enc _ => lifted os started H enc)
end Go.Proofs.Ytddjcemkopidbab.fnExactKeysSince
namespace Go.Proofs.Ytddjcemkopidbab
theorem keysSince_holds : Rows.FnExactKeysSinceSaid := fnExactKeysSince.over
#print axioms keysSince_holds
end Go.Proofs.Ytddjcemkopidbab
