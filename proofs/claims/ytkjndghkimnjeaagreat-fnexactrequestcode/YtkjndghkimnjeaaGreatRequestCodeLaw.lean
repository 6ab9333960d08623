/- Proved: at every request the law FnExactRequestCode returns true, and its argument reads afterwards as it read before. No conditions beyond the row's own. -/
import Derived.Test.YtkjndghkimnjeaaGreatRqCode
import Derived.WalkKit
import Derived.ProofKit
import Derived.OpenShut
import Derived.ShutString
import Derived.ChangeOld
import Derived.Below
import Derived.Lib.SmallJoins
namespace Go.Proofs.YtkjndghkimnjeaaGreat.fnExactRequestCode
open Go.ChangeShapes Go.WideShapes Go.ChangeAt Go.RowKit
open Go.ChangeMaps (open_string shut_string)
set_option linter.unusedVariables false

theorem own : ownKnob Tryz.prog.godebug = none := by kernel_rfl
theorem laidOut : laidOutB Tryz.prog = true := by kernel_rfl

set_option maxHeartbeats 4000000 in
theorem walk (a : Option Addr) (c : Nat) (l : List De) (b : Option Addr) (d : Nat) (v : List Ar) (w : World) (hr : DeRow 0 w.heap.size w a l) (hv : ArRow 0 w.heap.size w b v) (hb : DefsBd maxLen l) (hl : v.length ≤ maxLen) (ht : ∀ x ∈ v, ArBd maxLen x) :
    Calls Tryz.prog 3 #[.agg #[.slice a l.length c, .slice b v.length d]] w fun e w' => e = .returned (.bool true) ∧ Below w.heap.size w w' := by
  have B0 : Hid (Below w.heap.size w (w.alloc (.cells #[.slice a l.length c, .slice b v.length d] 27))) := (Below.refl _ _).alloc (Nat.le_refl _) _
  have K0 : Hid (∀ W0, Below w.heap.size w W0 → DeRow 0 W0.heap.size W0 a l) := fun W0 hB => DeRow.up hr hB
  have J0 : Hid (∀ W0, Below w.heap.size w W0 → ArRow 0 W0.heap.size W0 b v) := fun W0 hB => Row.up hv hB
  have HD : Hid (DefsBd maxLen l) := hb
  have HT : Hid (∀ x ∈ v, ArBd maxLen x) := ht
  have HLN : Hid (v.length ≤ maxLen) := hl
  clear hr hb hv ht hl
  go_enter Tryz.func3, Tryz.ntmps3
  go_wp2_with fail
  refine (sz_req a b c d l v 1048576 _ (K0.out _ B0.out) (J0.out _ B0.out) HD.out HLN.out HT.out (by omega) (by omega)).mono ?_
  rintro e w1 ⟨m, rfl, hm, hb1⟩
  have HM : Hid (Sz 1048576 m (RqBd 1048576 l v)) := hm
  clear hm
  have c1 := fun o => (hb1.cell (p := ⟨w.heap.size, o, none⟩) (by simp)).trans (row_cell (heap_alloc_new _ _) o)
  have z1 : w.heap.size + 1 ≤ w1.heap.size := size_one hb1
  have q1 : Hid (Below w.heap.size w w1) := below_one hb1
  clear hb1
  by_cases hneg : m < 0
  · go_wp2_with fail
    go_ret
    exact ⟨rfl, q1.out⟩
  have HE : Hid (RqBd 1048576 l v) := HM.out.2.2 (by omega)
  clear HM
  go_wp2_with fail
  refine (to_req a b c d l v _ (K0.out _ q1.out) (J0.out _ q1.out) HE.out).mono ?_
  rintro e w2 ⟨a2, c2, b2, d2, rfl, r2, s2, hb2⟩
  have RA : Hid (DeRow 0 w2.heap.size w2 a2 l ∧ ArRow 0 w2.heap.size w2 b2 v) := ⟨DeRow.wide r2 (Nat.zero_le _) (Nat.le_refl _), Row.wide s2 (Nat.zero_le _) (Nat.le_refl _)⟩
  have cc2 := fun o => (hb2.cell (p := ⟨w.heap.size, o, none⟩) (by first | omega | (simp <;> omega))).trans (c1 o)
  have z2 : w.heap.size + 1 ≤ w2.heap.size := by have := hb2.size; omega
  have q2 : Hid (Below w.heap.size w w2) := q1.out.trans (hb2.mono (by omega))
  clear r2 s2 hb2 c1
  go_wp2_with fail
  refine (spec_requestCode a2 b2 c2 d2 l v _ RA.out.1 RA.out.2 HE.out).mono ?_
  rintro e w3 ⟨he3, hb3⟩
  obtain ⟨x3, y3, rfl⟩ := he3.form
  have HE3 : Hid (RqE l v (.returned (.tuple #[.int .i64 x3, .int .i64 y3]))) := he3
  clear he3
  have c3 := fun o => (hb3.cell (p := ⟨w.heap.size, o, none⟩) (by first | omega | (simp <;> omega))).trans (cc2 o)
  have z3 : w.heap.size + 1 ≤ w3.heap.size := by have := hb3.size; omega
  have q3 : Hid (Below w.heap.size w w3) := q2.out.trans (hb3.mono (by omega))
  clear hb3 cc2
  go_wp2_with fail
  refine (to_req a b c d l v _ (K0.out _ q3.out) (J0.out _ q3.out) HE.out).mono ?_
  rintro e w4 ⟨a4, d4, b4, e4x, rfl, r4, s4, hb4⟩
  have R4 : Hid (∀ W0, Below w4.heap.size w4 W0 → DeRow 0 W0.heap.size W0 a4 l ∧ ArRow 0 W0.heap.size W0 b4 v) := fun W0 hB => ⟨DeRow.up (DeRow.wide r4 (Nat.zero_le _) (Nat.le_refl _)) hB, Row.up (Row.wide s4 (Nat.zero_le _) (Nat.le_refl _)) hB⟩
  have c4 := fun o => (hb4.cell (p := ⟨w.heap.size, o, none⟩) (by first | omega | (simp <;> omega))).trans (c3 o)
  have z4 : w.heap.size + 1 ≤ w4.heap.size := by have := hb4.size; omega
  have q4 : Hid (Below w.heap.size w w4) := q3.out.trans (hb4.mono (by omega))
  clear r4 s4 hb4 c3
  go_wp2_with fail
  have S4 : Hid (Below w4.heap.size w4 (w4.alloc (.cells #[.slice a4 l.length d4, .slice b4 v.length e4x] 36))) := (Below.refl _ _).alloc (Nat.le_refl _) _
  refine (impl_requestCode a4 b4 d4 e4x l v _ (R4.out _ S4.out).1 (R4.out _ S4.out).2 HE.out).mono ?_
  rintro e w5 ⟨he5, hb5⟩
  obtain rfl := HE3.out.two he5
  clear he5
  have e5 := fun o => (hb5.cell (p := ⟨w4.heap.size, o, none⟩) (by simp)).trans (row_cell (heap_alloc_new _ _) o)
  have z5 : w4.heap.size + 1 ≤ w5.heap.size := size_one hb5
  have p5 : Hid (Below w4.heap.size w4 w5) := below_one hb5
  have c5 := fun o => (p5.out.cell (p := ⟨w.heap.size, o, none⟩) (show w.heap.size < w4.heap.size by omega)).trans (c4 o)
  clear hb5 c4
  go_wp2_with fail
  go_region_with (first
    | (go_at_call 6
       refine Calls.mono (to_req a b c d l v _ (K0.out _ ?hb) (J0.out _ ?hb) HE.out) ?_
       case hb => exact q4.out.trans ((p5.out.drew).mono (by omega))
       rintro e w6 ⟨a6, d6, b6, e6x, rfl, r6, s6, hb6⟩
       have e6 := fun o => (hb6.cell (p := ⟨w4.heap.size, o, none⟩) (by first | omega | (simp <;> omega))).trans (e5 o)
       have R6 : Hid (DeRow 0 w6.heap.size w6 a6 l ∧ ArRow 0 w6.heap.size w6 b6 v) := ⟨DeRow.wide r6 (Nat.zero_le _) (Nat.le_refl _), Row.wide s6 (Nat.zero_le _) (Nat.le_refl _)⟩
       have p6 : Hid (Below w4.heap.size w4 w6) := p5.out.drew.trans (hb6.mono (by first | omega | (simp <;> omega)))
       clear r6 s6 hb6)
    | (go_at_call 8
       refine (eq_req a4 _ b4 _ d4 _ e4x _ l v _ (R4.out _ p6.out).1 R6.out.1 (R4.out _ p6.out).2 R6.out.2 HE.out).mono ?_
       rintro e w7 ⟨rfl, hb7⟩
       have p7 : Hid (Below w4.heap.size w4 w7) := p6.out.trans (hb7.mono (by have := p6.out.size; omega))))
  all_goals
    go_wp2_with fail
    go_ret
    exact ⟨rfl, q4.out.trans (p7.out.mono (by omega))⟩

set_option maxRecDepth 100000 in
theorem lifted (os : Os) (started : os.Started) (H : Type) (enc : TypeId × Value → H) :
    ReturnsInHanded {} Tryz.checked os 3 .any (Rows.fnExactRequestCodeSpec.pre6 enc Tryz.prog Tryz.f3 Rows.fnExactRequestCodeRow.domain false) (Rows.fnExactRequestCodeSpec.post enc Tryz.prog Tryz.f3 false true false false) := by
  refine returnsInHanded_of_change (C := Tryz.checked) own started (by kernel_rfl) Tryz.func3
    (ChangeSpec.witness6 (enc := enc) (C := Tryz.checked) false ⟨#[], #[.agg #[.slice none 0 0, .slice none 0 0]], []⟩ 8 (by kernel_rfl) (by kernel_rfl) (by kernel_rfl) (by kernel_rfl)) ?_
  intro W base args ds gs before hval0 hW hcnd _
  have hval : ∀ (j : Nat) t v, Tryz.f3.params[j]? = some t → args[j]? = some v → Value.okWide Tryz.prog W .any base t v := hval0
  have hW' := hW
  obtain ⟨p, q, hA0, hV, rfl, hfz, hnd⟩ := hW
  have hA : DataW.TrodAll enc Tryz.prog W 0 (fun _ => true) true Tryz.f3.params.toList args.toList ds p := hA0
  rw [Tryz.params3] at hA hval
  obtain ⟨v0, vs0, d0, ds0, p0, q0, hargs, rfl, rfl, h0, r0⟩ := trodAll_cons hA
  obtain ⟨rfl, rfl, rfl⟩ := trodAll_nil r0
  obtain rfl : args = #[v0] := by cases args; simp_all
  obtain ⟨rfl, rfl⟩ := trodVars_none hV
  have g0 := h0
  have lt0 : ∀ x ∈ p0, x.block < W.heap.size := by obtain ⟨m, hm⟩ := g0; exact DataW.trod_lt m _ _ _ hm
  obtain ⟨a0, c0, l0, b0, e0, u0, rfl, hb0, hr0, hv0, hl0, ht0⟩ : ∃ (a : Option Addr) (c : Nat) (l : List De) (b : Option Addr) (d : Nat) (u : List Ar), v0 = .agg #[.slice a l.length c, .slice b u.length d] ∧ DefsBd maxLen l ∧ DeRow 0 W.heap.size W a l ∧ ArRow 0 W.heap.size W b u ∧ u.length ≤ maxLen ∧ (∀ x ∈ u, ArBd maxLen x) := by
    obtain ⟨cs, rfl, hsz⟩ := okWide_struct Tryz.underlying27 (hval 0 27 v0 rfl rfl)
    obtain ⟨fuel, hf⟩ := h0
    obtain ⟨y0, y1, n, hx, hlen, h1, h2⟩ := trod_struct2 Tryz.underlying27 hf
    have cd : Tryz.prog.cellsOf 27 = 2 := by kernel_rfl
    have c1 : Tryz.prog.cellsOf 24 = 1 := by kernel_rfl
    have c2 : Tryz.prog.cellsOf 22 = 1 := by kernel_rfl
    have c3 : Tryz.prog.cellsOf 25 = 1 := by kernel_rfl
    obtain ⟨u⟩ := cs
    have hu : u.length = 2 := by rw [cd] at hsz; simpa using hsz
    obtain ⟨q0, q1, rfl⟩ : ∃ a b, u = [a, b] := by
      rcases u with _ | ⟨a, _ | ⟨b, _ | ⟨_, _⟩⟩⟩ <;> simp at hu
      exact ⟨a, b, rfl⟩
    obtain ⟨y2, n2, hx2, hlen2, h3⟩ := trod_struct1 Tryz.underlying24 (show DataW.trod enc Tryz.prog W 0 (fun _ => true) true n 24 [q0] = _ by simpa [Value.cells, c1] using h1)
    obtain ⟨a, c, l, e, hb, hr⟩ := defs_open (by simpa [Value.cells, c2] using h3)
    obtain ⟨b, d, bs, e2, h4, h5, h6⟩ := binds_open (by simpa [Value.cells, c1, c3] using h2)
    simp at e e2
    subst e e2
    exact ⟨a, c, l, b, d, bs, rfl, hb, hr, h6, h4, h5⟩
  clear hA0 hval0
  refine (walk a0 c0 l0 b0 e0 u0 W hr0 hv0 hb0 hl0 ht0).mono fun e W' ⟨he, bel⟩ => ?_
  subst he
  exact ⟨_, rfl, _, _, _, [], _, [], hW', trodAll_mk1 (shut_bool Tryz.underlying4 _), (trodAll_cons_mk (Below.trod laidOut (by kernel_rfl) (of_decide_eq_true (by kernel_rfl)) g0 bel lt0) trodAll_mk0), rfl, bel.frame _, fun h => by cases h⟩

theorem over : Rows.fnExactRequestCodeRow.holds Tryz.pinned (OpenSpec.ofChange Rows.fnExactRequestCodeSpec) :=
  OpenClaim.holds_of_wide 3 Tryz.f3 rfl rfl rfl rfl rfl rfl rfl ⟨rfl, rfl, rfl, rfl, rfl⟩ rfl rfl rfl rfl rfl (by kernel_rfl) Tryz.func3 (by kernel_rfl)
    (of_decide_eq_true (by kernel_rfl)) (by unfold Func.isWrapper; first | (rw [if_pos (by decide +kernel)]; kernel_rfl) | (rw [if_neg (by decide +kernel)]; exact ⟨rfl, rfl⟩))
    (fun os started H enc _ => lifted os started H enc)
end Go.Proofs.YtkjndghkimnjeaaGreat.fnExactRequestCode
namespace Go.Proofs.YtkjndghkimnjeaaGreat
theorem requestCode_holds : Rows.FnExactRequestCodeSaid := fnExactRequestCode.over
#print axioms requestCode_holds
end Go.Proofs.YtkjndghkimnjeaaGreat
