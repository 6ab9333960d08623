/- Proved: at every document the law FnExactUsedVars returns true, and its argument reads afterwards as it read before. No conditions beyond the row's own. -/
import Derived.Test.YtdamienfcfojiaaDocVarsSpecTwo
import Derived.Test.YtdamienfcfojiaaStMarks
import Derived.Test.YtdamienfcfojiaaDocToOwn
import Derived.Test.YtdamienfcfojiaaDocEq
import Derived.WalkKit
import Derived.ProofKit
import Derived.OpenShut
import Derived.ShutString
import Derived.ChangeOld
import Derived.Below
import Derived.Deep.CutRange
import Derived.Lib.SmallJoins
import Derived.Deep.RegionWith
namespace Go.Proofs.Ytdamienfcfojiaa.fnExactUsedVars
open Go.ChangeShapes Go.WideShapes Go.ChangeAt Go.RowKit
open Go.Proofs.Ytdamienfcfojiaa
set_option linter.unusedVariables false

theorem own : ownKnob Try.prog.godebug = none := by kernel_rfl
theorem laidOut : laidOutB Try.prog = true := by kernel_rfl
theorem size_one {w w' : World} {o : Obj} {B : Nat} (hb : Below B (w.alloc o) w') : w.heap.size + 1 ≤ w'.heap.size := by have := hb.size; simpa using this
theorem below_one {w w1 : World} {o : Obj} (h : Below (w.alloc o).heap.size (w.alloc o) w1) : Below w.heap.size w w1 := ((Below.refl _ _).alloc (Nat.le_refl _) _).trans (h.mono (by simp))

set_option maxHeartbeats 8000000 in
set_option maxRecDepth 40000 in
theorem walk (a : Option Addr) (c : Nat) (l : List De) (w : World) (hr : DeRow 0 w.heap.size w a l) (hb : DefsBd maxLen l) :
    Calls Try.prog 3 #[.agg #[.slice a l.length c]] w fun e w' => e = .returned (.bool true) ∧ Below w.heap.size w w' := by
  have B0 : Hid (Below w.heap.size w (w.alloc (.cells #[.slice a l.length c] 24))) := (Below.refl _ _).alloc (Nat.le_refl _) _
  have K0 : Hid (∀ W0, Below w.heap.size w W0 → DeRow 0 W0.heap.size W0 a l) := fun W0 hB => DeRow.up hr hB
  have HD : Hid (DefsBd maxLen l) := hb
  clear hr hb
  go_enter Try.func3, Try.ntmps3
  go_wp2_with fail
  refine (sz_doc_w a c l 1048576 _ (K0.out _ B0.out) HD.out (by omega) (by omega)).mono ?_
  rintro e w1 ⟨m, rfl, hm, hb1⟩
  have HM : Hid (Sz 1048576 m (DefsBd 1048576 l ∧ (G.cnt wtD l : Int) ≤ 1048576 - m)) := hm
  clear hm
  have c1 := fun o => hb1.cell (p := ⟨w.heap.size, o, none⟩) (by simp)
  have z1 : w.heap.size + 1 ≤ w1.heap.size := size_one hb1
  have q1 : Hid (Below w.heap.size w w1) := below_one hb1
  clear hb1
  by_cases hneg : m < 0
  · go_wp2_with fail
    go_ret
    exact ⟨rfl, q1.out⟩
  have HE : Hid (DefsBd 1048576 l) := (HM.out.2.2 (by omega)).1
  have HC9 : Hid (((1 + G.cnt cDe l : Nat) : Int) ≤ 4611686018427387904) := by have h1 := (HM.out.2.2 (by omega)).2; have h2 := cnt_wt l; unfold Hid; omega
  have HWT : Hid (G.cnt wtD l ≤ 1048576) := by have h1 := (HM.out.2.2 (by omega)).2; unfold Hid; omega
  clear HM
  go_wp2_with fail
  refine (to_doc a c l _ (K0.out _ q1.out) HE.out).mono ?_
  rintro e w2 ⟨a2, d2, rfl, r2, hb2⟩
  have RA : Hid (DeRow 0 w2.heap.size w2 a2 l) := DeRow.wide r2 (Nat.zero_le _) (Nat.le_refl _)
  have c2 := fun o => (hb2.cell (p := ⟨w.heap.size, o, none⟩) (by first | omega | (simp <;> omega))).trans (c1 o)
  have z2 : w.heap.size + 1 ≤ w2.heap.size := by have := hb2.size; omega
  have q2 : Hid (Below w.heap.size w w2) := q1.out.trans (hb2.mono (by omega))
  clear r2 hb2 c1
  go_wp2_with fail
  refine (spec_used a2 d2 l _ RA.out HE.out HWT.out).mono ?_
  rintro e w3 ⟨⟨x, y, ag, cg, rfl, hxs, A3⟩, hb3⟩
  have HXS : Hid (UsR l x y) := hxs
  have hxl : x.length ≤ 1048576 := by have h1 := hxs.len; have h2 := HWT.out; omega
  have AS : Hid (StRow 0 w3.heap.size w3 ag x) := Row.wide (OwnR.row A3) (Nat.zero_le _) (Nat.le_refl _)
  have c3 : w3.cell? ⟨w.heap.size, 0, none⟩ = some (.slice a l.length c) := ((hb3.cell (p := ⟨w.heap.size, 0, none⟩) (by first | omega | (simp <;> omega))).trans (c2 0)).trans (row_cell (heap_alloc_new _ _) 0)
  have z3 : w.heap.size + 1 ≤ w3.heap.size := by have := hb3.size; omega
  have q3 : Hid (Below w.heap.size w w3) := q2.out.trans (hb3.mono (by omega))
  clear hb3 c2 hxs A3 RA q2 q1
  have KA : Hid (∀ W, Below w3.heap.size w3 W → StRow 0 W.heap.size W ag x ∧ W.cell? ⟨w.heap.size, 0, none⟩ = some (.slice a l.length c) ∧ Below w.heap.size w W) := fun W h =>
    ⟨Row.up AS.out h, (h.cell (p := ⟨w.heap.size, 0, none⟩) (show w.heap.size < w3.heap.size by omega)).trans c3, q3.out.trans (h.mono (by omega))⟩
  go_wp2_with fail
  refine (to_doc_o a c l _ (K0.out _ q3.out) HE.out).mono ?_
  rintro e w4 ⟨a4, d4, rfl, o4, hb4⟩
  have HO4 : Hid (DeOwn w3.heap.size w4.heap.size w4 a4 l) := o4
  have z4 : w3.heap.size ≤ w4.heap.size := hb4.size
  have U4 : Hid (Below w3.heap.size w3 w4) := hb4
  clear hb4 o4 c3 AS q3
  go_wp2_with fail
  obtain ⟨vb, hvb⟩ : ∃ W, W = w4.alloc (.cells #[.slice a4 l.length d4] 31) := ⟨_, rfl⟩
  rw [← hvb]
  have zb : vb.heap.size = w4.heap.size + 1 := by rw [hvb]; simp
  have bb : Below w4.heap.size w4 vb := by rw [hvb]; exact (Below.refl _ _).alloc (Nat.le_refl _) _
  have xb : vb.cell? ⟨w4.heap.size, 0, none⟩ = some (.slice a4 l.length d4) := by rw [hvb]; exact row_cell (heap_alloc_new _ _) 0
  have Ub : Hid (Below w3.heap.size w3 vb) := U4.out.trans (bb.mono (by omega))
  have HOb : Hid (DeOwn w3.heap.size w4.heap.size vb a4 l) := DeOwn.keep HO4.out (fun g h1 h2 => bb.block g h2)
  clear hvb bb U4 HO4
  have KB : Hid (∀ W, Below vb.heap.size vb W → W.cell? ⟨w4.heap.size, 0, none⟩ = some (.slice a4 l.length d4) ∧ DeOwn w3.heap.size w4.heap.size W a4 l ∧ DeRow 0 W.heap.size W a4 l ∧ Below w3.heap.size w3 W) := fun W h =>
    have o := DeOwn.keep HOb.out (fun g h1 h2 => h.block g (by omega))
    have hz := h.size
    ⟨(h.cell (p := ⟨w4.heap.size, 0, none⟩) (show w4.heap.size < vb.heap.size by omega)).trans xb, o, DeRow.wide (DeOwn.row o) (Nat.zero_le _) (by omega), Ub.out.trans (h.mono (by omega))⟩
  clear xb
  refine (impl_used a4 d4 l _ (KB.out _ (Below.refl _ _)).2.2.1 HE.out HWT.out).mono ?_
  rintro e w5 ⟨⟨xi, yi, ai, ci, rfl, hxi, A5⟩, hb5⟩
  obtain ⟨rfl, rfl⟩ : x = xi ∧ y = yi := UsR.one HXS.out hxi
  have AI5 : Hid (StOwn vb.heap.size w5.heap.size w5 ai x) := A5
  have z5 : vb.heap.size ≤ w5.heap.size := hb5.size
  have V5 : Hid (Below vb.heap.size vb w5) := hb5
  clear hxi A5 hb5
  have KD : Hid (∀ W, Below w5.heap.size w5 W → StOwn vb.heap.size w5.heap.size W ai x ∧ Below vb.heap.size vb W) := fun W h =>
    ⟨OwnR.keep AI5.out (fun g _ h2 => h.block g h2), V5.out.trans (h.mono (by omega))⟩
  go_wp2_with fail
  have D0 := KD.out _ (Below.refl _ _)
  refine (eq_strs ai ag ci cg x _ (Row.wide (OwnR.row D0.1) (Nat.zero_le _) (Nat.le_refl _)) (KA.out _ (KB.out _ D0.2).2.2.2).1 (by omega)).mono ?_
  clear D0
  rintro e w6 ⟨rfl, hb6⟩
  have z6 : w5.heap.size ≤ w6.heap.size := hb6.size
  have D6 : Hid (Below w5.heap.size w5 w6) := hb6
  clear hb6
  have x6 : w6.cell? ⟨w4.heap.size, 0, none⟩ = some (.slice a4 l.length d4) := (KB.out _ (KD.out _ D6.out).2).1
  have c6 : w6.cell? ⟨w.heap.size, 0, none⟩ = some (.slice a l.length c) := (KA.out _ (KB.out _ (KD.out _ D6.out).2).2.2.2).2.1
  go_wp2_with fail
  go_cut [45] from 41 to 45 (fun u wx => u = .bool false ∧ Below w6.heap.size w6 wx)
  case first =>
    go_region_with (first
      | (go_at_call 6
         refine Calls.mono (to_doc a c l _ (K0.out _ ?hb) HE.out) ?_
         case hb => exact (KA.out _ (KB.out _ (KD.out _ D6.out.drew).2).2.2.2).2.2
         rintro e v6 ⟨a6, d6, rfl, r6, hb6⟩
         have e6 : v6.cell? ⟨w4.heap.size, 0, none⟩ = some (.slice a4 l.length d4) := (hb6.cell (p := ⟨w4.heap.size, 0, none⟩) (by first | omega | (simp <;> omega))).trans x6
         have R6 : Hid (DeRow 0 v6.heap.size v6 a6 l) := DeRow.wide r6 (Nat.zero_le _) (Nat.le_refl _)
         have p6 : Hid (Below w6.heap.size w6 v6) := (Below.refl _ _).drew.trans (hb6.mono (by first | omega | (simp <;> omega)))
         clear r6 hb6)
      | (go_at_call 9
         refine (eq_doc a4 _ d4 _ l _ (KB.out _ (KD.out _ (D6.out.trans (p6.out.mono (by omega)))).2).2.2.1 R6.out HE.out).mono ?_
         rintro e v7 ⟨rfl, hb7⟩
         have p7 : Hid (Below w6.heap.size w6 v7) := p6.out.trans (hb7.mono (by have := p6.out.size; omega))))
    all_goals (try go_wp2_with fail)
    all_goals go_meet
    all_goals exact ⟨rfl, p7.out⟩
  obtain ⟨rfl, hb7⟩ := hcut
  have z7 : w6.heap.size ≤ wc.heap.size := hb7.size
  have D7 : Hid (Below w5.heap.size w5 wc) := D6.out.trans (hb7.mono (by omega))
  clear hb7 x6 c6 D6
  have x7 : wc.cell? ⟨w4.heap.size, 0, none⟩ = some (.slice a4 l.length d4) := (KB.out _ (KD.out _ D7.out).2).1
  go_wp2_with fail
  refine Calls.mono (mark_doc a4 d4 l w3.heap.size w4.heap.size 1 _ (KB.out _ (KD.out _ D7.out).2).2.1 (by omega) (by omega) HC9.out) ?_
  rintro e w8 ⟨r, rfl, hr, k8⟩
  have hr0 : ¬ r < 0 := by omega
  have z8 : wc.heap.size ≤ w8.heap.size := k8.size
  have U8 : Hid (Below w3.heap.size w3 w8) := (KB.out _ (KD.out _ D7.out).2).2.2.2.trans (k8.below (by omega) (Nat.le_refl _))
  have AI8 : Hid (StOwn vb.heap.size w5.heap.size w8 ai x) := OwnR.keep (KD.out _ D7.out).1 (fun g h1 h2 => k8.block g (by omega) (.inr (by omega)))
  clear hr k8 x7 D7 KD KB HOb
  go_wp2_with fail
  refine (eq_strs ai ag ci cg x _ (Row.wide (OwnR.row AI8.out) (Nat.zero_le _) (by omega)) (KA.out _ U8.out).1 (by omega)).mono ?_
  rintro e w9 ⟨rfl, hb9⟩
  have z9 : w8.heap.size ≤ w9.heap.size := hb9.size
  have U9 : Hid (Below w3.heap.size w3 w9) := U8.out.trans (hb9.mono (by omega))
  have AI9 : Hid (StOwn vb.heap.size w5.heap.size w9 ai x) := OwnR.keep AI8.out (fun g _ h => hb9.block g (by omega))
  clear hb9 U8 AI8
  go_wp2_with fail
  refine Calls.mono (mark_strs ai ci x vb.heap.size w5.heap.size 1 _ _ rfl AI9.out (by omega) (by omega) (by omega)) ?_
  rintro e w10 ⟨m1, rfl, hm, o10, k10⟩
  have z10 : w9.heap.size ≤ w10.heap.size := k10.size
  have U10 : Hid (Below w3.heap.size w3 w10) := U9.out.trans (k10.below (by omega) (by omega))
  have R10 : Hid (StRow 0 w10.heap.size w10 ai (mkSt 1 x)) := Row.wide (OwnR.row o10) (Nat.zero_le _) (by omega)
  have HM : Hid (m1 = ((1 + x.length : Nat) : Int)) := hm
  have hm0 : ¬ m1 < 0 := by omega
  clear hm o10 k10 U9 AI9
  go_wp2_with fail
  refine Calls.mono (held_strs ai ci x 1 _ _ rfl R10.out (by omega) (by omega)) ?_
  rintro e w11 ⟨m2, rfl, hm2, hb11⟩
  obtain rfl : m1 = m2 := HM.out.trans hm2.symm
  have z11 : w10.heap.size ≤ w11.heap.size := hb11.size
  have B11 : Hid (Below w10.heap.size w10 w11) := hb11
  clear hm2 hb11
  have c11 : w11.cell? ⟨w.heap.size, 0, none⟩ = some (.slice a l.length c) := (KA.out _ (U10.out.trans (B11.out.mono (by omega)))).2.1
  go_wp2_with fail
  clear c11
  refine (to_doc a c l _ (K0.out _ (KA.out _ (U10.out.trans (B11.out.mono (by omega)))).2.2) HE.out).mono ?_
  rintro e w12 ⟨a12, d12, rfl, r12, hb12⟩
  have z12 : w11.heap.size ≤ w12.heap.size := hb12.size
  have R12 : Hid (DeRow 0 w12.heap.size w12 a12 l) := DeRow.wide r12 (Nat.zero_le _) (Nat.le_refl _)
  have B12 : Hid (Below w10.heap.size w10 w12) := B11.out.trans (hb12.mono (by omega))
  clear r12 hb12 B11
  go_wp2_with fail
  refine (impl_used a12 d12 l _ R12.out HE.out HWT.out).mono ?_
  rintro e w13 ⟨⟨xi, yi, ah, ch, rfl, hxi, A13⟩, hb13⟩
  obtain ⟨rfl, rfl⟩ : x = xi ∧ y = yi := UsR.one HXS.out hxi
  have z13 : w12.heap.size ≤ w13.heap.size := hb13.size
  have AH : Hid (StRow 0 w13.heap.size w13 ah x) := Row.wide (OwnR.row A13) (Nat.zero_le _) (Nat.le_refl _)
  have B13 : Hid (Below w10.heap.size w10 w13) := B12.out.trans (hb13.mono (by omega))
  clear hxi A13 hb13 B12 R12
  go_wp2_with fail
  refine (eq_strs ah ag ch cg x _ AH.out (KA.out _ (U10.out.trans (B13.out.mono (by omega)))).1 (by omega)).mono ?_
  rintro e w14 ⟨rfl, hb14⟩
  have z14 : w13.heap.size ≤ w14.heap.size := hb14.size
  have B14 : Hid (Below w10.heap.size w10 w14) := B13.out.trans (hb14.mono (by omega))
  clear hb14 B13 AH
  go_wp2_with fail
  refine Calls.mono (held_strs ai ci x 1 _ _ rfl (Row.up R10.out B14.out) (by omega) (by omega)) ?_
  rintro e w15 ⟨m3, rfl, hm3, hb15⟩
  obtain rfl : m1 = m3 := HM.out.trans hm3.symm
  have Q15 : Hid (Below w.heap.size w w15) := (KA.out _ (U10.out.trans ((B14.out.trans (hb15.mono (by omega))).mono (by omega)))).2.2
  clear hm3 hb15
  go_wp2_with fail
  go_ret
  exact ⟨rfl, Q15.out⟩

set_option maxRecDepth 100000 in
theorem lifted (os : Os) (started : os.Started) (H : Type) (enc : TypeId × Value → H) :
    ReturnsInHanded {} Try.checked os 3 .any (Rows.fnExactUsedVarsSpec.pre6 enc Try.prog Try.f3 Rows.fnExactUsedVarsRow.domain false) (Rows.fnExactUsedVarsSpec.post enc Try.prog Try.f3 false true false false) := by
  refine returnsInHanded_of_change (C := Try.checked) own started (by kernel_rfl) Try.func3
    (ChangeSpec.witness6 (enc := enc) (C := Try.checked) false ⟨#[], #[.agg #[.slice none 0 0]], []⟩ 8 (by kernel_rfl) (by kernel_rfl) (by kernel_rfl) (by kernel_rfl)) ?_
  intro W base args ds gs before hval0 hW hcnd _
  have hval : ∀ (j : Nat) t v, Try.f3.params[j]? = some t → args[j]? = some v → Value.okWide Try.prog W .any base t v := hval0
  have hW' := hW
  obtain ⟨p, q, hA0, hV, rfl, hfz, hnd⟩ := hW
  have hA : DataW.TrodAll enc Try.prog W 0 (fun _ => true) true Try.f3.params.toList args.toList ds p := hA0
  rw [Try.params3] at hA hval
  obtain ⟨v0, vs0, d0, ds0, p0, q0, hargs, rfl, rfl, h0, r0⟩ := trodAll_cons hA
  obtain ⟨rfl, rfl, rfl⟩ := trodAll_nil r0
  obtain rfl : args = #[v0] := by cases args; simp_all
  obtain ⟨rfl, rfl⟩ := trodVars_none hV
  have g0 := h0
  have lt0 : ∀ x ∈ p0, x.block < W.heap.size := by obtain ⟨m, hm⟩ := g0; exact DataW.trod_lt m _ _ _ hm
  obtain ⟨a0, c0, l0, rfl, hb0, hr0⟩ : ∃ a c, ∃ l : List De, v0 = .agg #[.slice a l.length c] ∧ DefsBd maxLen l ∧ DeRow 0 W.heap.size W a l := by
    obtain ⟨cs, rfl, hsz⟩ := okWide_struct Try.underlying24 (hval 0 24 v0 rfl rfl)
    obtain ⟨fuel, hf⟩ := h0
    obtain ⟨y0, n, hx, hlen, h1⟩ := trod_struct1 Try.underlying24 hf
    have cd : Try.prog.cellsOf 24 = 1 := by kernel_rfl
    have c1 : Try.prog.cellsOf 22 = 1 := by kernel_rfl
    obtain ⟨u⟩ := cs
    have hu : u.length = 1 := by rw [cd] at hsz; simpa using hsz
    obtain ⟨q, rfl⟩ : ∃ q, u = [q] := List.length_eq_one_iff.1 hu
    obtain ⟨a, c, l, e, hb, hr⟩ := defs_open (by simpa [Value.cells, c1] using h1)
    simp only [List.cons.injEq, and_true] at e
    subst e
    exact ⟨a, c, l, rfl, hb, hr⟩
  clear hA0 hval0
  refine (walk a0 c0 l0 W hr0 hb0).mono fun e W' ⟨he, bel⟩ => ?_
  subst he
  exact ⟨_, rfl, _, _, _, [], _, [], hW', trodAll_mk1 (shut_bool Try.underlying4 _), (trodAll_cons_mk (Below.trod laidOut (by kernel_rfl) (of_decide_eq_true (by kernel_rfl)) g0 bel lt0) trodAll_mk0), rfl, bel.frame _, fun h => by cases h⟩

theorem over : Rows.fnExactUsedVarsRow.holds Try.pinned (OpenSpec.ofChange Rows.fnExactUsedVarsSpec) :=
  OpenClaim.holds_of_wide 3 Try.f3 rfl rfl rfl rfl rfl rfl rfl ⟨rfl, rfl, rfl, rfl, rfl⟩ rfl rfl rfl rfl rfl (by kernel_rfl) Try.func3 (by kernel_rfl)
    (of_decide_eq_true (by kernel_rfl)) (by unfold Func.isWrapper; first | (rw [if_pos (by decide +kernel)]; kernel_rfl) | (rw [if_neg (by decide +kernel)]; exact ⟨rfl, rfl⟩))
    (fun os started H enc _ => lifted os started H enc)
end Go.Proofs.Ytdamienfcfojiaa.fnExactUsedVars
namespace Go.Proofs.Ytdamienfcfojiaa
theorem usedVars_holds : Rows.FnExactUsedVarsSaid := fnExactUsedVars.over
#print axioms usedVars_holds
end Go.Proofs.Ytdamienfcfojiaa
