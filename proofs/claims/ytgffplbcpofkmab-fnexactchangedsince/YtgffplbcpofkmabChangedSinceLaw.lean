/- Proved: at every store and two numbers the law FnExactChangedSince returns true, and its arguments read afterwards as they read before. No conditions beyond the row's own. -/
import Derived.Test.YtgffplbcpofkmabStReadSpec
import Derived.Test.YtgffplbcpofkmabStSz
import Derived.Test.YtgffplbcpofkmabStTo
import Derived.Test.YtgffplbcpofkmabStEq
import Derived.WalkKit
import Derived.ProofKit
import Derived.OpenShut
import Derived.ShutString
import Derived.ChangeOld
import Derived.Below
import Derived.Lib.SmallJoins
namespace Go.Proofs.Ytgffplbcpofkmab.fnExactChangedSince
open Go.ChangeShapes Go.WideShapes Go.ChangeAt Go.RowKit
open Go.ChangeMaps (open_string shut_string)
open Go.Proofs.Ytgffplbcpofkmab.G
set_option linter.unusedVariables false

theorem own : ownKnob Try.prog.godebug = none := by kernel_rfl
theorem laidOut : laidOutB Try.prog = true := by kernel_rfl

set_option maxHeartbeats 8000000 in
set_option maxRecDepth 40000 in
theorem walk (a : Option Addr) (c : Nat) (l : Chs) (now : Int) (key : Int) (ts : Int) (w : World) (hr : ChRow 0 w.heap.size w a l) (hb : ChsBd maxLen l) :
    Calls Try.prog 4 #[.agg #[.slice a l.length c, .int .i64 now], .int .i64 key, .int .i64 ts] w fun e w' => e = .returned (.bool true) ∧ Below w.heap.size w w' := by
  have B0 : Hid (Below w.heap.size w (w.alloc (.cells #[.slice a l.length c, .int .i64 now] 24))) := (Below.refl _ _).alloc (Nat.le_refl _) _
  have K0 : Hid (∀ W0, Below w.heap.size w W0 → ChRow 0 W0.heap.size W0 a l) := fun W0 hB => ChRow.up hr hB
  have HD : Hid (ChsBd maxLen l) := hb
  clear hr hb
  go_enter Try.func4, Try.ntmps4
  go_wp2_with fail
  refine (sz_store a c l now 1048576 _ (K0.out _ B0.out) HD.out (by omega) (by omega)).mono ?_
  rintro e w1 ⟨m, rfl, hm, hb1⟩
  have HM : Hid (Sz 1048576 m (ChsBd 1048576 l)) := hm
  clear hm
  have A1 : Hid (w1.heap[w.heap.size]? = some (.cells #[.slice a l.length c, .int .i64 now] 24 (0, 0))) := (hb1.block _ (by simp)).trans (heap_alloc_new _ _)
  have z1 : w.heap.size + 1 ≤ w1.heap.size := size_one hb1
  have q1 : Hid (Below w.heap.size w w1) := below_one hb1
  clear hb1
  by_cases hneg : m < 0
  · go_wp2_with fail
    go_ret
    exact ⟨rfl, q1.out⟩
  have HE : Hid (ChsBd 1048576 l) := HM.out.2.2 (by omega)
  clear HM
  have c1 := fun o => row_cell A1.out o
  go_wp2_with fail
  refine (to_store a c l now _ (K0.out _ q1.out) HE.out).mono ?_
  rintro e w2 ⟨a2, b2, rfl, r2, hb2⟩
  have RA : Hid (ChRow 0 w2.heap.size w2 a2 l) := ChRow.wide r2.row (Nat.zero_le _) (Nat.le_refl _)
  have z2 : w.heap.size + 1 ≤ w2.heap.size := by have := hb2.size; omega
  have q2 : Hid (Below w.heap.size w w2) := q1.out.trans (hb2.mono (by omega))
  have A2 : Hid (w2.heap[w.heap.size]? = some (.cells #[.slice a l.length c, .int .i64 now] 24 (0, 0))) := (hb2.block _ (by omega)).trans A1.out
  clear r2 hb2 c1 A1
  go_wp2_with fail
  refine (spec_changedSince a2 _ l now key ts _ RA.out HE.out).mono ?_
  rintro e w3 ⟨rfl, hb3⟩
  have z3 : w.heap.size + 1 ≤ w3.heap.size := by have := hb3.size; omega
  have q3 : Hid (Below w.heap.size w w3) := q2.out.trans (hb3.mono (by omega))
  have A3 : Hid (w3.heap[w.heap.size]? = some (.cells #[.slice a l.length c, .int .i64 now] 24 (0, 0))) := (hb3.block _ (by omega)).trans A2.out
  have c3 := fun o => row_cell A3.out o
  clear hb3 A2
  go_wp2_with fail
  refine (to_store a c l now _ (K0.out _ q3.out) HE.out).mono ?_
  rintro e w4 ⟨a4, b4, rfl, r4, hb4⟩
  have R4 : Hid (∀ W0, Below w4.heap.size w4 W0 → ChRow 0 W0.heap.size W0 a4 l) := fun W0 hB => ChRow.up (ChRow.wide r4.row (Nat.zero_le _) (Nat.le_refl _)) hB
  have z4 : w.heap.size + 1 ≤ w4.heap.size := by have := hb4.size; omega
  have q4 : Hid (Below w.heap.size w w4) := q3.out.trans (hb4.mono (by omega))
  have A4 : Hid (w4.heap[w.heap.size]? = some (.cells #[.slice a l.length c, .int .i64 now] 24 (0, 0))) := (hb4.block _ (by omega)).trans A3.out
  clear r4 hb4 c3 A3
  go_wp2_with fail
  refine (impl_changedSince a4 _ l now key ts _ (R4.out _ ((Below.refl _ _).alloc (Nat.le_refl _) _)) HE.out).mono ?_
  rintro e w5 ⟨rfl, hb5⟩
  have X5 : Hid (w5.heap[w4.heap.size]? = some (.cells #[.slice a4 l.length l.length, .int .i64 now] 30 (0, 0))) := (hb5.block _ (by simp)).trans (heap_alloc_new _ _)
  have z5 : w4.heap.size + 1 ≤ w5.heap.size := size_one hb5
  have p5 : Hid (Below w4.heap.size w4 w5) := below_one hb5
  have A5 : Hid (w5.heap[w.heap.size]? = some (.cells #[.slice a l.length c, .int .i64 now] 24 (0, 0))) := (p5.out.block _ (by omega)).trans A4.out
  have c5 := fun o => row_cell A5.out o
  have e5 := fun o => row_cell X5.out o
  clear hb5 A4
  go_wp2_with fail
  go_region_with (first
    | (go_at_call 7
       refine Calls.mono (to_store a c l now _ (K0.out _ ?hb) HE.out) ?_
       case hb => exact q4.out.trans ((p5.out.drew).mono (by omega))
       rintro e w6 ⟨a6, b6, rfl, r6, hb6⟩
       have e6 := fun o => (hb6.cell (p := ⟨w4.heap.size, o, none⟩) (show w4.heap.size < w5.heap.size by omega)).trans (e5 o)
       have R6 : Hid (ChRow 0 w6.heap.size w6 a6 l) := ChRow.wide r6.row (Nat.zero_le _) (Nat.le_refl _)
       have p6 : Hid (Below w4.heap.size w4 w6) := p5.out.drew.trans (hb6.mono (show w4.heap.size ≤ w5.heap.size by omega))
       clear r6 hb6)
    | (go_at_call 9
       refine (eq_store a4 _ _ _ l now _ (R4.out _ p6.out) R6.out HE.out).mono ?_
       rintro e w7 ⟨rfl, hb7⟩
       have p7 : Hid (Below w4.heap.size w4 w7) := p6.out.trans (hb7.mono (by have := p6.out.size; omega))))
  all_goals
    go_wp2_with fail
    go_ret
    exact ⟨rfl, q4.out.trans (p7.out.mono (by omega))⟩

set_option maxRecDepth 100000 in
theorem lifted (os : Os) (started : os.Started) (H : Type) (enc : TypeId × Value → H) :
    ReturnsInHanded {} Try.checked os 4 .any (Rows.fnExactChangedSinceSpec.pre6 enc Try.prog Try.f4 Rows.fnExactChangedSinceRow.domain false) (Rows.fnExactChangedSinceSpec.post enc Try.prog Try.f4 false true false false) := by
  refine returnsInHanded_of_change (C := Try.checked) own started (by kernel_rfl) Try.func4
    (ChangeSpec.witness6 (enc := enc) (C := Try.checked) false ⟨#[], #[.agg #[.slice none 0 0, .int .i64 0], .int .i64 0, .int .i64 0], []⟩ 8 (by kernel_rfl) (by kernel_rfl) (by kernel_rfl) (by kernel_rfl)) ?_
  intro W base args ds gs before hval0 hW hcnd _
  have hval : ∀ (j : Nat) t v, Try.f4.params[j]? = some t → args[j]? = some v → Value.okWide Try.prog W .any base t v := hval0
  have hW' := hW
  obtain ⟨p, q, hA0, hV, rfl, hfz, hnd⟩ := hW
  have hA : DataW.TrodAll enc Try.prog W 0 (fun _ => true) true Try.f4.params.toList args.toList ds p := hA0
  rw [Try.params4] at hA hval
  obtain ⟨v0, vs0, d0, ds0, p0, q0, hargs, rfl, rfl, h0, r0⟩ := trodAll_cons hA
  obtain ⟨v1, vs1, d1, ds1, p1, q1, rfl, rfl, rfl, h1, r1⟩ := trodAll_cons r0
  obtain ⟨v2, vs2, d2, ds2, p2, q2, rfl, rfl, rfl, h2, r2⟩ := trodAll_cons r1
  obtain ⟨rfl, rfl, rfl⟩ := trodAll_nil r2
  obtain rfl : args = #[v0, v1, v2] := by cases args; simp_all
  obtain ⟨rfl, rfl⟩ := trodVars_none hV
  have g0 := h0
  have lt0 : ∀ x ∈ p0, x.block < W.heap.size := by obtain ⟨m, hm⟩ := g0; exact DataW.trod_lt m _ _ _ hm
  obtain ⟨a0, c0, l0, n0, rfl, hb0, hr0⟩ : ∃ a c, ∃ l : Chs, ∃ n : Int, v0 = .agg #[.slice a l.length c, .int .i64 n] ∧ ChsBd maxLen l ∧ ChRow 0 W.heap.size W a l := by
    obtain ⟨cs, rfl, hsz⟩ := okWide_struct Try.underlying24 (hval 0 24 v0 rfl rfl)
    obtain ⟨fuel, hf⟩ := h0
    obtain ⟨y0, y1, n, hx, hlen, h1, h2⟩ := trod_struct2 Try.underlying24 hf
    have cd : Try.prog.cellsOf 24 = 2 := by kernel_rfl
    have c1 : Try.prog.cellsOf 22 = 1 := by kernel_rfl
    have ci : Try.prog.cellsOf 3 = 1 := by kernel_rfl
    obtain ⟨u⟩ := cs
    have hu : u.length = 2 := by rw [cd] at hsz; simpa using hsz
    obtain ⟨q0, q1, rfl⟩ := listTwo hu
    obtain ⟨a, c, l, e, hb, hr⟩ := Chs_open (by simpa [Value.cells, c1] using h1)
    obtain ⟨z, e2, _, _⟩ := DataW.trod_int Try.underlying3 h2
    simp [Value.cells, ci] at e e2
    subst e e2
    exact ⟨a, c, l, z, rfl, hb, hr⟩
  have g1 := h1
  have lt1 : ∀ x ∈ p1, x.block < W.heap.size := by obtain ⟨m, hm⟩ := g1; exact DataW.trod_lt m _ _ _ hm
  obtain ⟨x1, rfl, _, _, w1⟩ := open_int Try.underlying3 (hval 1 3 v1 rfl rfl) h1
  have g2 := h2
  have lt2 : ∀ x ∈ p2, x.block < W.heap.size := by obtain ⟨m, hm⟩ := g2; exact DataW.trod_lt m _ _ _ hm
  obtain ⟨x2, rfl, _, _, w2⟩ := open_int Try.underlying3 (hval 2 3 v2 rfl rfl) h2
  clear hA0 hval0
  refine (walk a0 c0 l0 n0 x1 x2 W hr0 hb0).mono fun e W' ⟨he, bel⟩ => ?_
  subst he
  exact ⟨_, rfl, _, _, _, [], _, [], hW', trodAll_mk1 (shut_bool Try.underlying4 _), (trodAll_cons_mk (Below.trod laidOut (by kernel_rfl) (of_decide_eq_true (by kernel_rfl)) g0 bel lt0) (trodAll_cons_mk (Below.trod laidOut (by kernel_rfl) (of_decide_eq_true (by kernel_rfl)) g1 bel lt1) (trodAll_cons_mk (Below.trod laidOut (by kernel_rfl) (of_decide_eq_true (by kernel_rfl)) g2 bel lt2) trodAll_mk0))), rfl, bel.frame _, fun h => by cases h⟩

theorem over : Rows.fnExactChangedSinceRow.holds Try.pinned (OpenSpec.ofChange Rows.fnExactChangedSinceSpec) :=
  OpenClaim.holds_of_wide 4 Try.f4 rfl rfl rfl rfl rfl rfl rfl ⟨rfl, rfl, rfl, rfl, rfl⟩ rfl rfl rfl rfl rfl (by kernel_rfl) Try.func4 (by kernel_rfl)
    (of_decide_eq_true (by kernel_rfl)) (by unfold Func.isWrapper; first | (rw [if_pos (by decide +kernel)]; kernel_rfl) | (rw [if_neg (by decide +kernel)]; exact ⟨rfl, rfl⟩))
    (fun os started H enc _ => lifted os started H enc)
end Go.Proofs.Ytgffplbcpofkmab.fnExactChangedSince
namespace Go.Proofs.Ytgffplbcpofkmab
theorem changedSince_holds : Rows.FnExactChangedSinceSaid := fnExactChangedSince.over
#print axioms changedSince_holds
end Go.Proofs.Ytgffplbcpofkmab
