/- Proved: at every document the law FnExactOpOf returns true, and its arguments read afterwards as they read before. No conditions beyond the row's own. -/
import Derived.Test.YtibmddgmgljnbaaDocOpTwo
import Derived.Test.YtibmddgmgljnbaaDocOpSpec
import Derived.Test.YtibmddgmgljnbaaDocMarkTwo
import Derived.Test.YtibmddgmgljnbaaDocHeld
import Derived.Test.YtibmddgmgljnbaaDocSzW
import Derived.Test.YtibmddgmgljnbaaDocEq
import Derived.WalkKit
import Derived.ProofKit
import Derived.OpenShut
import Derived.ShutString
import Derived.ChangeOld
import Derived.Below
import Derived.Deep.CutRange
import Derived.Lib.SmallJoins
import Derived.Deep.RegionWith
namespace Go.Proofs.Ytibmddgmgljnbaa.fnExactOpOf
open Go.ChangeShapes Go.WideShapes Go.ChangeAt Go.RowKit
open Go.ChangeMaps (open_string shut_string)
open Go.Proofs.Ytibmddgmgljnbaa
set_option linter.unusedVariables false

theorem own : ownKnob Try.prog.godebug = none := by kernel_rfl
theorem laidOut : laidOutB Try.prog = true := by kernel_rfl
theorem size_one {w w' : World} {o : Obj} {B : Nat} (hb : Below B (w.alloc o) w') : w.heap.size + 1 ≤ w'.heap.size := by have := hb.size; simpa using this
theorem below_one {w w1 : World} {o : Obj} (h : Below (w.alloc o).heap.size (w.alloc o) w1) : Below w.heap.size w w1 := ((Below.refl _ _).alloc (Nat.le_refl _) _).trans (h.mono (by simp))
/-- A definition in a block of its own. -/
def DB (w : World) (g : Nat) (x : De) (a : Option Addr) (c : Nat) : Prop := w.heap[g]? = some (.cells #[.int .i64 x.k, .string x.nm, .string x.on, .slice a x.sels.len c] 28 (0, 0))
theorem DB.get {w : World} {g : Nat} {x : De} {a : Option Addr} {c : Nat} (h : DB w g x a c) : w.cell? ⟨g, 0, none⟩ = some (.int .i64 x.k) ∧ w.cell? ⟨g, 1, none⟩ = some (.string x.nm) ∧ w.cell? ⟨g, 2, none⟩ = some (.string x.on) ∧ w.cell? ⟨g, 3, none⟩ = some (.slice a x.sels.len c) :=
  ⟨row_cell h 0, row_cell h 1, row_cell h 2, row_cell h 3⟩
theorem DB.move {w w' : World} {g : Nat} {x : De} {a : Option Addr} {c : Nat} (h : DB w g x a c) (e : w'.heap[g]? = w.heap[g]?) : DB w' g x a c := e.trans h

set_option maxHeartbeats 8000000 in
set_option maxRecDepth 40000 in
theorem walk (a : Option Addr) (c : Nat) (l : List De) (w : World) (hr : DeRow 0 w.heap.size w a l) (hb : DefsBd maxLen l) :
    Calls Try.prog 4 #[.agg #[.slice a l.length c]] w fun e w' => e = .returned (.bool true) ∧ Below w.heap.size w w' := by
  have B0 : Hid (Below w.heap.size w (w.alloc (.cells #[.slice a l.length c] 24))) := (Below.refl _ _).alloc (Nat.le_refl _) _
  have K0 : Hid (∀ W0, Below w.heap.size w W0 → DeRow 0 W0.heap.size W0 a l) := fun W0 hB => DeRow.up hr hB
  have HD : Hid (DefsBd maxLen l) := hb
  clear hr hb
  go_enter Try.func4, Try.ntmps4
  go_wp2_with fail
  refine (sz_doc_w a c l 1048576 _ (K0.out _ B0.out) HD.out (by omega) (by omega)).mono ?_
  rintro e w1 ⟨m, rfl, hm, hb1⟩
  have HM : Hid (Sz 1048576 m (DefsBd 1048576 l ∧ (G.cnt wtD l : Int) ≤ 1048576 - m)) := hm
  clear hm
  have c1 := fun o => hb1.cell (p := ⟨w.heap.size, o, none⟩) (by simp)
  have z1 : w.heap.size + 1 ≤ w1.heap.size := size_one hb1
  have q1 : Hid (Below w.heap.size w w1) := below_one hb1
  clear hb1
  by_cases hneg : m < 0
  · go_wp2_with fail
    go_ret
    exact ⟨rfl, q1.out⟩
  have HE : Hid (DefsBd 1048576 l) := (HM.out.2.2 (by omega)).1
  have HC9 : Hid (((1 + G.cnt cDe l : Nat) : Int) ≤ 4611686018427387904) := by have h1 := (HM.out.2.2 (by omega)).2; have h2 := cnt_wt l; unfold Hid; omega
  have HWT : Hid ((G.cnt wtD l : Int) ≤ 1048576) := by have h1 := (HM.out.2.2 (by omega)).2; unfold Hid; omega
  clear HM
  go_wp2_with fail
  refine (to_doc a c l _ (K0.out _ q1.out) HE.out).mono ?_
  rintro e w2 ⟨a2, d2, rfl, r2, hb2⟩
  have RA : Hid (DeRow 0 w2.heap.size w2 a2 l) := DeRow.wide r2 (Nat.zero_le _) (Nat.le_refl _)
  have c2 := fun o => (hb2.cell (p := ⟨w.heap.size, o, none⟩) (by first | omega | (simp <;> omega))).trans (c1 o)
  have z2 : w.heap.size + 1 ≤ w2.heap.size := by have := hb2.size; omega
  have q2 : Hid (Below w.heap.size w w2) := q1.out.trans (hb2.mono (by omega))
  clear r2 hb2 c1
  go_wp2_with fail
  refine (spec_opOf a2 d2 l _ RA.out HE.out).mono ?_
  rintro e w3 ⟨⟨x, y, ag, cg, rfl, hxs, A3⟩, hb3⟩
  unfold deV
  have HXS : Hid (OpR l x y) := hxs
  have HF : Hid (DeBd 1048576 x) := hxs.bd HE.out
  have HCX : Hid (((1 + cS x.sels : Nat) : Int) ≤ 4611686018427387904) := by have h1 := hxs.wt; have h2 := HWT.out; have h3 := cS_wt x.sels; unfold Hid; omega
  have AS : Hid (SelRow 0 w3.heap.size w3 ag x.sels) := SelRow.wide A3 (Nat.zero_le _) (Nat.le_refl _)
  have c3 : w3.cell? ⟨w.heap.size, 0, none⟩ = some (.slice a l.length c) := ((hb3.cell (p := ⟨w.heap.size, 0, none⟩) (by first | omega | (simp <;> omega))).trans (c2 0)).trans (row_cell (heap_alloc_new _ _) 0)
  have z3 : w.heap.size + 1 ≤ w3.heap.size := by have := hb3.size; omega
  have q3 : Hid (Below w.heap.size w w3) := q2.out.trans (hb3.mono (by omega))
  clear hb3 c2 hxs A3 RA q2 q1
  have cp3 := fun o => (World.cell?_alloc_past (w := w3) o w.heap.size 0 (by omega)).trans c3
  go_wp2_with fail
  clear cp3
  obtain ⟨va, hva⟩ : ∃ W, W = w3.alloc (.cells #[.int .i64 x.k, .string x.nm, .string x.on, .slice ag x.sels.len cg] 28) := ⟨_, rfl⟩
  rw [← hva]
  have za : va.heap.size = w3.heap.size + 1 := by rw [hva]; simp
  have HG : Hid (DB va w3.heap.size x ag cg) := by rw [hva]; exact heap_alloc_new _ _
  have ba : Below w3.heap.size w3 va := by rw [hva]; exact (Below.refl _ _).alloc (Nat.le_refl _) _
  have qa : Hid (Below w.heap.size w va) := q3.out.trans (ba.mono (by omega))
  have ASa : Hid (SelRow 0 va.heap.size va ag x.sels) := SelRow.up AS.out ba
  have ca : va.cell? ⟨w.heap.size, 0, none⟩ = some (.slice a l.length c) := (ba.cell (p := ⟨w.heap.size, 0, none⟩) (show w.heap.size < w3.heap.size by omega)).trans c3
  clear hva ba c3 AS
  have KA : Hid (∀ W, Below va.heap.size va W → SelRow 0 W.heap.size W ag x.sels ∧ DB W w3.heap.size x ag cg ∧ W.cell? ⟨w.heap.size, 0, none⟩ = some (.slice a l.length c) ∧ Below w.heap.size w W) := fun W h =>
    ⟨SelRow.up ASa.out h, HG.out.move (h.block _ (by omega)), (h.cell (p := ⟨w.heap.size, 0, none⟩) (show w.heap.size < va.heap.size by omega)).trans ca, qa.out.trans (h.mono (by omega))⟩
  refine (to_doc_o a c l _ (K0.out _ qa.out) HE.out).mono ?_
  rintro e w4 ⟨a4, d4, rfl, o4, hb4⟩
  have HO4 : Hid (DeOwn va.heap.size w4.heap.size w4 a4 l) := o4
  have z4 : va.heap.size ≤ w4.heap.size := hb4.size
  have U4 : Hid (Below va.heap.size va w4) := hb4
  clear hb4 o4 ca HG ASa qa q3
  go_wp2_with fail
  obtain ⟨vb, hvb⟩ : ∃ W, W = w4.alloc (.cells #[.slice a4 l.length d4] 33) := ⟨_, rfl⟩
  rw [← hvb]
  have zb : vb.heap.size = w4.heap.size + 1 := by rw [hvb]; simp
  have bb : Below w4.heap.size w4 vb := by rw [hvb]; exact (Below.refl _ _).alloc (Nat.le_refl _) _
  have xb : vb.cell? ⟨w4.heap.size, 0, none⟩ = some (.slice a4 l.length d4) := by rw [hvb]; exact row_cell (heap_alloc_new _ _) 0
  have Ub : Hid (Below va.heap.size va vb) := U4.out.trans (bb.mono (by omega))
  have HOb : Hid (DeOwn va.heap.size w4.heap.size vb a4 l) := DeOwn.keep HO4.out (fun g h1 h2 => bb.block g h2)
  clear hvb bb U4 HO4
  have KB : Hid (∀ W, Below vb.heap.size vb W → W.cell? ⟨w4.heap.size, 0, none⟩ = some (.slice a4 l.length d4) ∧ DeOwn va.heap.size w4.heap.size W a4 l ∧ DeRow 0 W.heap.size W a4 l ∧ Below va.heap.size va W) := fun W h =>
    have o := DeOwn.keep HOb.out (fun g h1 h2 => h.block g (by omega))
    have hz := h.size
    ⟨(h.cell (p := ⟨w4.heap.size, 0, none⟩) (show w4.heap.size < vb.heap.size by omega)).trans xb, o, DeRow.wide (DeOwn.row o) (Nat.zero_le _) (by omega), Ub.out.trans (h.mono (by omega))⟩
  clear xb
  refine (impl_opOf a4 d4 l _ (KB.out _ (Below.refl _ _)).2.2.1 HE.out).mono ?_
  rintro e w5 ⟨⟨xi, yi, ai, ci, rfl, hxi, A5⟩, hb5⟩
  obtain ⟨rfl, rfl⟩ : x = xi ∧ y = yi := OpR.one HXS.out hxi
  unfold deV
  have AI5 : Hid (SelOwn vb.heap.size w5.heap.size w5 ai x.sels) := A5
  have z5 : vb.heap.size ≤ w5.heap.size := hb5.size
  have V5 : Hid (Below vb.heap.size vb w5) := hb5
  have G5 : Hid (DB w5 w3.heap.size x ag cg) := (KA.out _ (KB.out _ hb5).2.2.2).2.1
  clear hxi A5 hb5
  obtain ⟨g0, g1, g2, g3⟩ := DB.get G5.out
  have gp0 := fun o => (World.cell?_alloc_past (w := w5) o w3.heap.size 0 (by omega)).trans g0
  have gp1 := fun o => (World.cell?_alloc_past (w := w5) o w3.heap.size 1 (by omega)).trans g1
  have gp2 := fun o => (World.cell?_alloc_past (w := w5) o w3.heap.size 2 (by omega)).trans g2
  have gp3 := fun o => (World.cell?_alloc_past (w := w5) o w3.heap.size 3 (by omega)).trans g3
  go_wp2_with fail
  clear g0 g1 g2 g3 gp0 gp1 gp2 gp3 G5
  obtain ⟨vd, hvd⟩ : ∃ W, W = w5.alloc (.cells #[.int .i64 x.k, .string x.nm, .string x.on, .slice ai x.sels.len ci] 28) := ⟨_, rfl⟩
  rw [← hvd]
  have zd : vd.heap.size = w5.heap.size + 1 := by rw [hvd]; simp
  have bd : Below w5.heap.size w5 vd := by rw [hvd]; exact (Below.refl _ _).alloc (Nat.le_refl _) _
  have HHd : Hid (DB vd w5.heap.size x ai ci) := by rw [hvd]; exact heap_alloc_new _ _
  have AId : Hid (SelOwn vb.heap.size w5.heap.size vd ai x.sels) := SelOwn.keep AI5.out (fun g _ h => bd.block g h)
  have Vd : Hid (Below vb.heap.size vb vd) := V5.out.trans (bd.mono (by omega))
  clear hvd bd AI5 V5
  have KD : Hid (∀ W, Below vd.heap.size vd W → DB W w5.heap.size x ai ci ∧ SelOwn vb.heap.size w5.heap.size W ai x.sels ∧ Below vb.heap.size vb W) := fun W h =>
    ⟨HHd.out.move (h.block _ (by omega)), SelOwn.keep AId.out (fun g _ h2 => h.block g (by omega)), Vd.out.trans (h.mono (by omega))⟩
  clear HHd AId Vd
  have D0 := KD.out _ (Below.refl _ _)
  refine (eq_def x ai ag ci cg _ (SelRow.wide (SelOwn.row D0.2.1) (Nat.zero_le _) (by omega)) (KA.out _ (KB.out _ D0.2.2).2.2.2).1 HF.out).mono ?_
  clear D0
  rintro e w6 ⟨rfl, hb6⟩
  have z6 : vd.heap.size ≤ w6.heap.size := hb6.size
  have D6 : Hid (Below vd.heap.size vd w6) := hb6
  clear hb6
  have x6 : w6.cell? ⟨w4.heap.size, 0, none⟩ = some (.slice a4 l.length d4) := (KB.out _ (KD.out _ D6.out).2.2).1
  have c6 : w6.cell? ⟨w.heap.size, 0, none⟩ = some (.slice a l.length c) := (KA.out _ (KB.out _ (KD.out _ D6.out).2.2).2.2.2).2.2.1
  go_wp2_with fail
  go_cut [45] from 41 to 45 (fun u wx => u = .bool false ∧ Below w6.heap.size w6 wx)
  case first =>
    go_region_with (first
      | (go_at_call 7
         refine Calls.mono (to_doc a c l _ (K0.out _ ?hb) HE.out) ?_
         case hb => exact (KA.out _ (KB.out _ (KD.out _ D6.out.drew).2.2).2.2.2).2.2.2
         rintro e v6 ⟨a6, d6, rfl, r6, hb6⟩
         have e6 : v6.cell? ⟨w4.heap.size, 0, none⟩ = some (.slice a4 l.length d4) := (hb6.cell (p := ⟨w4.heap.size, 0, none⟩) (by first | omega | (simp <;> omega))).trans x6
         have R6 : Hid (DeRow 0 v6.heap.size v6 a6 l) := DeRow.wide r6 (Nat.zero_le _) (Nat.le_refl _)
         have p6 : Hid (Below w6.heap.size w6 v6) := (Below.refl _ _).drew.trans (hb6.mono (by first | omega | (simp <;> omega)))
         clear r6 hb6)
      | (go_at_call 10
         refine (eq_doc a4 _ d4 _ l _ (KB.out _ (KD.out _ (D6.out.trans (p6.out.mono (by omega)))).2.2).2.2.1 R6.out HE.out).mono ?_
         rintro e v7 ⟨rfl, hb7⟩
         have p7 : Hid (Below w6.heap.size w6 v7) := p6.out.trans (hb7.mono (by have := p6.out.size; omega))))
    all_goals (try go_wp2_with fail)
    all_goals go_meet
    all_goals exact ⟨rfl, p7.out⟩
  obtain ⟨rfl, hb7⟩ := hcut
  have z7 : w6.heap.size ≤ wc.heap.size := hb7.size
  have D7 : Hid (Below vd.heap.size vd wc) := D6.out.trans (hb7.mono (by omega))
  clear hb7 x6 c6 D6
  have x7 : wc.cell? ⟨w4.heap.size, 0, none⟩ = some (.slice a4 l.length d4) := (KB.out _ (KD.out _ D7.out).2.2).1
  go_wp2_with fail
  refine Calls.mono (mark_doc a4 d4 l va.heap.size w4.heap.size 1 _ (KB.out _ (KD.out _ D7.out).2.2).2.1 (by omega) (by omega) HC9.out) ?_
  rintro e w8 ⟨r, rfl, hr, k8⟩
  have hr0 : ¬ r < 0 := by omega
  have z8 : wc.heap.size ≤ w8.heap.size := k8.size
  have U8 : Hid (Below va.heap.size va w8) := (KB.out _ (KD.out _ D7.out).2.2).2.2.2.trans (k8.below (by omega) (Nat.le_refl _))
  have H8 : Hid (DB w8 w5.heap.size x ai ci) := (KD.out _ D7.out).1.move (k8.block _ (by omega) (.inr (by omega)))
  have AI8 : Hid (SelOwn vb.heap.size w5.heap.size w8 ai x.sels) := SelOwn.keep (KD.out _ D7.out).2.1 (fun g h1 h2 => k8.block g (by omega) (.inr (by omega)))
  have G8 : Hid (DB w8 w3.heap.size x ag cg) := (KA.out _ U8.out).2.1
  clear hr k8 x7 D7 KD KB HOb
  obtain ⟨g0, g1, g2, g3⟩ := DB.get G8.out
  obtain ⟨h0, h1, h2, h3⟩ := DB.get H8.out
  go_wp2_with fail
  clear g0 g1 g2 g3 h0 h1 h2 h3 G8
  refine (eq_def x ai ag ci cg _ (SelRow.wide (SelOwn.row AI8.out) (Nat.zero_le _) (by omega)) (KA.out _ U8.out).1 HF.out).mono ?_
  rintro e w9 ⟨rfl, hb9⟩
  have z9 : w8.heap.size ≤ w9.heap.size := hb9.size
  have U9 : Hid (Below va.heap.size va w9) := U8.out.trans (hb9.mono (by omega))
  have H9 : Hid (DB w9 w5.heap.size x ai ci) := H8.out.move (hb9.block _ (by omega))
  have AI9 : Hid (SelOwn vb.heap.size w5.heap.size w9 ai x.sels) := SelOwn.keep AI8.out (fun g _ h => hb9.block g (by omega))
  clear hb9 U8 H8 AI8
  obtain ⟨h0, h1, h2, h3⟩ := DB.get H9.out
  go_wp2_with fail
  clear h0 h1 h2 h3
  refine Calls.mono (mark_def x ai ci vb.heap.size w5.heap.size 1 _ AI9.out (by omega) (by omega) HCX.out) ?_
  rintro e w10 ⟨m1, rfl, hm, o10, k10⟩
  have z10 : w9.heap.size ≤ w10.heap.size := k10.size
  have U10 : Hid (Below va.heap.size va w10) := U9.out.trans (k10.below (by omega) (by omega))
  have H10 : Hid (DB w10 w5.heap.size x ai ci) := H9.out.move (k10.block _ (by omega) (.inr (by omega)))
  have R10 : Hid (SelRow 0 w10.heap.size w10 ai (mkS 1 x.sels)) := SelRow.wide (SelOwn.row o10) (Nat.zero_le _) (by omega)
  have HM : Hid (m1 = ((1 + cS x.sels : Nat) : Int)) := hm
  have hm0 : ¬ m1 < 0 := by omega
  clear hm o10 k10 U9 H9 AI9
  obtain ⟨h0, h1, h2, h3⟩ := DB.get H10.out
  go_wp2_with fail
  clear h0 h1 h2 h3
  refine Calls.mono (held_def x 0 ai ci 1 _ R10.out (by omega) HCX.out) ?_
  rintro e w11 ⟨m2, rfl, hm2, hb11⟩
  obtain rfl : m1 = m2 := HM.out.trans hm2.symm
  have z11 : w10.heap.size ≤ w11.heap.size := hb11.size
  have B11 : Hid (Below w10.heap.size w10 w11) := hb11
  clear hm2 hb11
  have c11 : w11.cell? ⟨w.heap.size, 0, none⟩ = some (.slice a l.length c) := (KA.out _ (U10.out.trans (B11.out.mono (by omega)))).2.2.1
  go_wp2_with fail
  clear c11
  refine (to_doc a c l _ (K0.out _ (KA.out _ (U10.out.trans (B11.out.mono (by omega)))).2.2.2) HE.out).mono ?_
  rintro e w12 ⟨a12, d12, rfl, r12, hb12⟩
  have z12 : w11.heap.size ≤ w12.heap.size := hb12.size
  have R12 : Hid (DeRow 0 w12.heap.size w12 a12 l) := DeRow.wide r12 (Nat.zero_le _) (Nat.le_refl _)
  have B12 : Hid (Below w10.heap.size w10 w12) := B11.out.trans (hb12.mono (by omega))
  clear r12 hb12 B11
  go_wp2_with fail
  refine (impl_opOf a12 d12 l _ R12.out HE.out).mono ?_
  rintro e w13 ⟨⟨xi, yi, ah, ch, rfl, hxi, A13⟩, hb13⟩
  obtain ⟨rfl, rfl⟩ : x = xi ∧ y = yi := OpR.one HXS.out hxi
  unfold deV
  have z13 : w12.heap.size ≤ w13.heap.size := hb13.size
  have AH : Hid (SelRow 0 w13.heap.size w13 ah x.sels) := SelRow.wide (SelOwn.row A13) (Nat.zero_le _) (Nat.le_refl _)
  have B13 : Hid (Below w10.heap.size w10 w13) := B12.out.trans (hb13.mono (by omega))
  have G13 : Hid (DB w13 w3.heap.size x ag cg) := (KA.out _ (U10.out.trans (B13.out.mono (by omega)))).2.1
  clear hxi A13 hb13 B12 R12
  obtain ⟨g0, g1, g2, g3⟩ := DB.get G13.out
  have gp0 := fun o => (World.cell?_alloc_past (w := w13) o w3.heap.size 0 (by omega)).trans g0
  have gp1 := fun o => (World.cell?_alloc_past (w := w13) o w3.heap.size 1 (by omega)).trans g1
  have gp2 := fun o => (World.cell?_alloc_past (w := w13) o w3.heap.size 2 (by omega)).trans g2
  have gp3 := fun o => (World.cell?_alloc_past (w := w13) o w3.heap.size 3 (by omega)).trans g3
  go_wp2_with fail
  clear g0 g1 g2 g3 gp0 gp1 gp2 gp3 G13
  obtain ⟨ve, hve⟩ : ∃ W, W = w13.alloc (.cells #[.int .i64 x.k, .string x.nm, .string x.on, .slice ah x.sels.len ch] 28) := ⟨_, rfl⟩
  rw [← hve]
  have ze : ve.heap.size = w13.heap.size + 1 := by rw [hve]; simp
  have be : Below w13.heap.size w13 ve := by rw [hve]; exact (Below.refl _ _).alloc (Nat.le_refl _) _
  have Be : Hid (Below w10.heap.size w10 ve) := B13.out.trans (be.mono (by omega))
  have AHe : Hid (SelRow 0 ve.heap.size ve ah x.sels) := SelRow.up AH.out be
  clear hve be AH B13
  refine (eq_def x ah ag ch cg _ AHe.out (KA.out _ (U10.out.trans (Be.out.mono (by omega)))).1 HF.out).mono ?_
  rintro e w14 ⟨rfl, hb14⟩
  have z14 : ve.heap.size ≤ w14.heap.size := hb14.size
  have B14 : Hid (Below w10.heap.size w10 w14) := Be.out.trans (hb14.mono (by omega))
  clear hb14 Be AHe
  have H14 : Hid (DB w14 w5.heap.size x ai ci) := H10.out.move (B14.out.block _ (by omega))
  obtain ⟨h0, h1, h2, h3⟩ := DB.get H14.out
  go_wp2_with fail
  clear h0 h1 h2 h3
  refine Calls.mono (held_def x 0 ai ci 1 _ (SelRow.up R10.out B14.out) (by omega) HCX.out) ?_
  rintro e w15 ⟨m3, rfl, hm3, hb15⟩
  obtain rfl : m1 = m3 := HM.out.trans hm3.symm
  have Q15 : Hid (Below w.heap.size w w15) := (KA.out _ (U10.out.trans ((B14.out.trans (hb15.mono (by omega))).mono (by omega)))).2.2.2
  clear hm3 hb15
  go_wp2_with fail
  go_ret
  exact ⟨rfl, Q15.out⟩

set_option maxRecDepth 100000 in
theorem lifted (os : Os) (started : os.Started) (H : Type) (enc : TypeId × Value → H) :
    ReturnsInHanded {} Try.checked os 4 .any (Rows.fnExactOpOfSpec.pre6 enc Try.prog Try.f4 Rows.fnExactOpOfRow.domain false) (Rows.fnExactOpOfSpec.post enc Try.prog Try.f4 false true false false) := by
  refine returnsInHanded_of_change (C := Try.checked) own started (by kernel_rfl) Try.func4
    (ChangeSpec.witness6 (enc := enc) (C := Try.checked) false ⟨#[], #[.agg #[.slice none 0 0]], []⟩ 8 (by kernel_rfl) (by kernel_rfl) (by kernel_rfl) (by kernel_rfl)) ?_
  intro W base args ds gs before hval0 hW hcnd _
  have hval : ∀ (j : Nat) t v, Try.f4.params[j]? = some t → args[j]? = some v → Value.okWide Try.prog W .any base t v := hval0
  have hW' := hW
  obtain ⟨p, q, hA0, hV, rfl, hfz, hnd⟩ := hW
  have hA : DataW.TrodAll enc Try.prog W 0 (fun _ => true) true Try.f4.params.toList args.toList ds p := hA0
  rw [Try.params4] at hA hval
  obtain ⟨v0, vs0, d0, ds0, p0, q0, hargs, rfl, rfl, h0, r0⟩ := trodAll_cons hA
  obtain ⟨rfl, rfl, rfl⟩ := trodAll_nil r0
  obtain rfl : args = #[v0] := by cases args; simp_all
  obtain ⟨rfl, rfl⟩ := trodVars_none hV
  have g0 := h0
  have lt0 : ∀ x ∈ p0, x.block < W.heap.size := by obtain ⟨m, hm⟩ := g0; exact DataW.trod_lt m _ _ _ hm
  obtain ⟨a0, c0, l0, rfl, hb0, hr0⟩ : ∃ a c, ∃ l : List De, v0 = .agg #[.slice a l.length c] ∧ DefsBd maxLen l ∧ DeRow 0 W.heap.size W a l := by
    obtain ⟨cs, rfl, hsz⟩ := okWide_struct Try.underlying24 (hval 0 24 v0 rfl rfl)
    obtain ⟨fuel, hf⟩ := h0
    obtain ⟨y0, n, hx, hlen, h1⟩ := trod_struct1 Try.underlying24 hf
    have cd : Try.prog.cellsOf 24 = 1 := by kernel_rfl
    have c1 : Try.prog.cellsOf 22 = 1 := by kernel_rfl
    obtain ⟨u⟩ := cs
    have hu : u.length = 1 := by rw [cd] at hsz; simpa using hsz
    obtain ⟨q, rfl⟩ : ∃ q, u = [q] := List.length_eq_one_iff.1 hu
    obtain ⟨a, c, l, e, hb, hr⟩ := defs_open (by simpa [Value.cells, c1] using h1)
    simp only [List.cons.injEq, and_true] at e
    subst e
    exact ⟨a, c, l, rfl, hb, hr⟩
  clear hA0 hval0
  refine (walk a0 c0 l0 W hr0 hb0).mono fun e W' ⟨he, bel⟩ => ?_
  subst he
  exact ⟨_, rfl, _, _, _, [], _, [], hW', trodAll_mk1 (shut_bool Try.underlying4 _), (trodAll_cons_mk (Below.trod laidOut (by kernel_rfl) (of_decide_eq_true (by kernel_rfl)) g0 bel lt0) trodAll_mk0), rfl, bel.frame _, fun h => by cases h⟩

theorem over : Rows.fnExactOpOfRow.holds Try.pinned (OpenSpec.ofChange Rows.fnExactOpOfSpec) :=
  OpenClaim.holds_of_wide 4 Try.f4 rfl rfl rfl rfl rfl rfl rfl ⟨rfl, rfl, rfl, rfl, rfl⟩ rfl rfl rfl rfl rfl (by kernel_rfl) Try.func4 (by kernel_rfl)
    (of_decide_eq_true (by kernel_rfl)) (by unfold Func.isWrapper; first | (rw [if_pos (by decide +kernel)]; kernel_rfl) | (rw [if_neg (by decide +kernel)]; exact ⟨rfl, rfl⟩))
    (fun os started H enc _ => lifted os started H enc)
end Go.Proofs.Ytibmddgmgljnbaa.fnExactOpOf
namespace Go.Proofs.Ytibmddgmgljnbaa
theorem opOf_holds : Rows.FnExactOpOfSaid := fnExactOpOf.over
#print axioms opOf_holds
end Go.Proofs.Ytibmddgmgljnbaa
