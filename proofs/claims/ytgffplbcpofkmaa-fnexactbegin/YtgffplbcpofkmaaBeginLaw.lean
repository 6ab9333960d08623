/- Proved: at every store the law FnExactBegin returns true, and its argument reads afterwards as it read before. No conditions beyond the row's own. -/
import Derived.Test.YtgffplbcpofkmaaStTxImplTwo
import Derived.Test.YtgffplbcpofkmaaStTxRead
import Derived.Test.YtgffplbcpofkmaaStTxMk
import Derived.Test.YtgffplbcpofkmaaStHad
import Derived.Test.YtgffplbcpofkmaaStSz
import Derived.Test.YtgffplbcpofkmaaStTo
import Derived.Test.YtgffplbcpofkmaaStEq
import Derived.WalkKit
import Derived.ProofKit
import Derived.OpenShut
import Derived.ShutString
import Derived.ChangeOld
import Derived.Below
import Derived.Lib.SmallJoins
import Derived.Deep.CutRange
namespace Go.Proofs.Ytgffplbcpofkmaa.fnExactBegin
open Go.ChangeShapes Go.WideShapes Go.ChangeAt Go.RowKit
open Go.ChangeMaps (open_string shut_string)
open Go.Proofs.Ytgffplbcpofkmaa.G
set_option linter.unusedVariables false

theorem own : ownKnob Try.prog.godebug = none := by kernel_rfl
theorem laidOut : laidOutB Try.prog = true := by kernel_rfl

theorem eq_txn0 (ra wa ra' wa' : Option Addr) (rc wc rc' wc' : Nat) (st : Int) (w : World) :
    Calls Try.prog 16 #[.agg #[.int .i64 st, .slice ra 0 rc, .slice wa 0 wc], .agg #[.int .i64 st, .slice ra' 0 rc', .slice wa' 0 wc']] w fun e w' => e = .returned (.bool true) ∧ Below w.heap.size w w' := by
  have h := eq_txn ra wa ra' wa' rc wc rc' wc' st [] [] w ⟨.inl rfl, .inl rfl⟩ ⟨.inl rfl, .inl rfl⟩ ⟨Nat.zero_le _, Nat.zero_le _⟩
  simpa only [List.length_nil] using h
theorem mark_txn0 (ra wa : Option Addr) (rc wc : Nat) (st : Int) (w : World) :
    Calls Try.prog 20 #[.agg #[.int .i64 st, .slice ra 0 rc, .slice wa 0 wc], .int .i64 1] w fun e w' => e = .returned (.int .i64 1) ∧ Below w.heap.size w w' := by
  have h := mark_txn ra wa rc wc st [] [] 0 0 1 w ⟨.inl rfl, .inl rfl⟩ ⟨Nat.zero_le _, Nat.zero_le _⟩ (Nat.zero_le _) (by omega) (by omega)
  simp only [List.length_nil] at h
  refine h.mono ?_
  rintro e w' ⟨r, rfl, hr, _, hk⟩
  obtain rfl : r = 1 := by omega
  exact ⟨rfl, hk.os, hk.tape, hk.output, hk.size, fun g hg => hk.block g hg (by omega)⟩
theorem held_txn0 (ra wa : Option Addr) (rc wc : Nat) (st : Int) (w : World) :
    Calls Try.prog 21 #[.agg #[.int .i64 st, .slice ra 0 rc, .slice wa 0 wc], .int .i64 1] w fun e w' => e = .returned (.int .i64 1) ∧ Below w.heap.size w w' := by
  refine (held_txn ra wa rc wc 0 0 st 0 0 1 w ⟨.inl rfl, .inl rfl⟩ (by omega) (by omega) (Nat.zero_le _) (by omega) (by omega)).mono ?_
  rintro e w' ⟨r, rfl, hr, hb⟩
  obtain rfl : r = 1 := by omega
  exact ⟨rfl, hb⟩
set_option maxHeartbeats 16000000 in
set_option maxRecDepth 40000 in
theorem walk (a : Option Addr) (c : Nat) (l : Chs) (now : Int) (w : World) (hr : ChRow 0 w.heap.size w a l) (hb : ChsBd maxLen l) :
    Calls Try.prog 4 #[.agg #[.slice a l.length c, .int .i64 now]] w fun e w' => e = .returned (.bool true) ∧ Below w.heap.size w w' := by
  obtain ⟨V, hV⟩ : ∃ V, V = w.alloc (.cells #[.slice a l.length c, .int .i64 now] 24) := ⟨_, rfl⟩
  have bV : Below w.heap.size w V := by rw [hV]; exact (Below.refl _ _).alloc (Nat.le_refl _) _
  have zV : w.heap.size + 1 ≤ V.heap.size := by rw [hV]; simp
  have c0 : V.heap[w.heap.size]? = some (.cells #[.slice a l.length c, .int .i64 now] 24 (0, 0)) := by rw [hV]; exact heap_alloc_new _ _
  have KV : Hid (∀ W, Below V.heap.size V W → W.heap[w.heap.size]? = some (.cells #[.slice a l.length c, .int .i64 now] 24 (0, 0)) ∧ ChRow 0 W.heap.size W a l ∧ Below w.heap.size w W) := fun W h =>
    have hw := bV.trans (h.mono (by omega))
    ⟨(h.block _ (by omega)).trans c0, ChRow.up hr hw, hw⟩
  have HD : Hid (ChsBd maxLen l) := hb
  skip
  clear hr hb bV c0
  obtain ⟨sa, hsa⟩ : ∃ x, x = beginN l now := ⟨_, rfl⟩
  obtain ⟨cd, hcd⟩ : ∃ x, x = badN l now := ⟨_, rfl⟩
  have HSA : Hid (sa = beginN l now) := hsa
  have HCD : Hid (cd = badN l now) := hcd
  clear hsa hcd
  go_enter Try.func4, Try.ntmps4
  go_wp2_with fail
  rw [← hV]
  clear hV
  refine (sz_store a c l now 1048576 _ (KV.out _ (Below.refl _ _)).2.1 HD.out (by omega) (by omega)).mono ?_
  rintro e w1 ⟨mz, rfl, hm, hb1⟩
  have HM : Hid (Sz 1048576 mz (ChsBd 1048576 l)) := hm
  have q1 : Hid (Below V.heap.size V w1) := hb1
  have z1 := hb1.size
  clear hm hb1
  by_cases hneg : mz < 0
  · go_wp2_with fail
    go_ret
    exact ⟨rfl, (KV.out _ q1.out).2.2⟩
  have HE : Hid (ChsBd 1048576 l) := HM.out.2.2 (by omega)
  have HSZ : Hid (sizeN l ≤ 1099511627776) := by have := sizeN_le HE.out.2; have := HE.out.1; unfold Hid; exact Nat.le_trans ‹_› (Nat.mul_le_mul_right 1048576 this)
  clear HM
  have x1 := fun o => row_cell (KV.out _ q1.out).1 o
  go_wp2_with fail
  refine (to_store a c l now _ (KV.out _ q1.out).2.1 HE.out).mono ?_
  rintro e w2 ⟨a2, b2, rfl, r2, hb2⟩
  have z2 := hb2.size
  have q2 : Hid (Below V.heap.size V w2) := q1.out.trans (hb2.mono (by omega))
  have R2 : Hid (ChRow 0 w2.heap.size w2 a2 l) := ChRow.wide r2.row (Nat.zero_le _) (Nat.le_refl _)
  clear r2 hb2 x1
  go_wp2_with fail
  refine (spec_begin a2 _ l now _ R2.out HE.out).mono ?_
  rintro e w3 ⟨⟨rS, wS, rfl⟩, hb3⟩
  rw [← HSA.out, ← HCD.out]
  have z3 := hb3.size
  have q3 : Hid (Below V.heap.size V w3) := q2.out.trans (hb3.mono (by omega))
  have A3 := (KV.out _ q3.out).1
  have p0 := fun ob => (World.cell?_alloc_past (w := w3) ob w.heap.size 0 (by omega)).trans (row_cell A3 0)
  have p1 := fun ob => (World.cell?_alloc_past (w := w3) ob w.heap.size 1 (by omega)).trans (row_cell A3 1)
  clear hb3 R2 A3
  go_wp2_with fail
  clear p0 p1
  obtain ⟨va, hva⟩ : ∃ W, W = w3.alloc (.cells #[.int .i64 sa, .slice rS 0 0, .slice wS 0 0] 38) := ⟨_, rfl⟩
  rw [← hva]
  have zva : w3.heap.size + 1 ≤ va.heap.size := by rw [hva]; simp
  have bva : Below w3.heap.size w3 va := by rw [hva]; exact (Below.refl _ _).alloc (Nat.le_refl _) _
  have cva : va.heap[w3.heap.size]? = some (.cells #[.int .i64 sa, .slice rS 0 0, .slice wS 0 0] 38 (0, 0)) := by rw [hva]; exact heap_alloc_new _ _
  have KA : Hid (∀ W, Below va.heap.size va W → W.heap[w3.heap.size]? = some (.cells #[.int .i64 sa, .slice rS 0 0, .slice wS 0 0] 38 (0, 0)) ∧ Below V.heap.size V W) := fun W h =>
    ⟨(h.block _ (by omega)).trans cva, (q3.out.trans (bva.mono (by omega))).trans (h.mono (by omega))⟩
  clear hva cva bva q3
  refine (to_store a c l now _ (KV.out _ (KA.out _ (Below.refl _ _)).2).2.1 HE.out).mono ?_
  rintro e w4 ⟨aX, bX, rfl, r4, hb4⟩
  have O4 : Hid (StOwn va.heap.size w4.heap.size w4 aX l bX) := r4
  have q4 : Hid (Below va.heap.size va w4) := hb4
  have z4 := hb4.size
  clear r4 hb4
  go_wp2_with fail
  obtain ⟨vb, hvb⟩ : ∃ W, W = w4.alloc (.cells #[.slice aX l.length l.length, .int .i64 now] 34) := ⟨_, rfl⟩
  rw [← hvb]
  have zvb : w4.heap.size + 1 ≤ vb.heap.size := by rw [hvb]; simp
  have bvb : Below w4.heap.size w4 vb := by rw [hvb]; exact (Below.refl _ _).alloc (Nat.le_refl _) _
  have cvb : vb.heap[w4.heap.size]? = some (.cells #[.slice aX l.length l.length, .int .i64 now] 34 (0, 0)) := by rw [hvb]; exact heap_alloc_new _ _
  have KB : Hid (∀ W, Below vb.heap.size vb W → StOwn va.heap.size w4.heap.size W aX l bX ∧ W.heap[w4.heap.size]? = some (.cells #[.slice aX l.length l.length, .int .i64 now] 34 (0, 0)) ∧ Below va.heap.size va W) := fun W h =>
    ⟨StOwn.keep (StOwn.keep O4.out (agree bvb (Nat.le_refl _))) (agree h (by omega)), (h.block _ (by omega)).trans cvb, (q4.out.trans (bvb.mono (by omega))).trans (h.mono (by omega))⟩
  clear hvb cvb bvb O4 q4
  refine (impl_begin aX _ l now _ (ChRow.wide (KB.out _ (Below.refl _ _)).1.row (Nat.zero_le _) (by omega)) HE.out).mono ?_
  rintro e w5 ⟨⟨rG, cG, wG, dG, rfl⟩, hb5⟩
  rw [← HSA.out, ← HCD.out]
  have q5 : Hid (Below vb.heap.size vb w5) := hb5
  have z5 := hb5.size
  have A5 := (KA.out _ (KB.out _ hb5).2.2).1
  have p0 := fun ob => (World.cell?_alloc_past (w := w5) ob w3.heap.size 0 (by omega)).trans (row_cell A5 0)
  have p1 := fun ob => (World.cell?_alloc_past (w := w5) ob w3.heap.size 1 (by omega)).trans (row_cell A5 1)
  have p2 := fun ob => (World.cell?_alloc_past (w := w5) ob w3.heap.size 2 (by omega)).trans (row_cell A5 2)
  clear hb5 A5
  go_wp2_with fail
  clear p0 p1 p2
  obtain ⟨vc, hvc⟩ : ∃ W, W = w5.alloc (.cells #[.int .i64 sa, .slice rG 0 cG, .slice wG 0 dG] 38) := ⟨_, rfl⟩
  rw [← hvc]
  have zvc : w5.heap.size + 1 ≤ vc.heap.size := by rw [hvc]; simp
  have bvc : Below w5.heap.size w5 vc := by rw [hvc]; exact (Below.refl _ _).alloc (Nat.le_refl _) _
  have cvc : vc.heap[w5.heap.size]? = some (.cells #[.int .i64 sa, .slice rG 0 cG, .slice wG 0 dG] 38 (0, 0)) := by rw [hvc]; exact heap_alloc_new _ _
  have KC : Hid (∀ W, Below vc.heap.size vc W → W.heap[w5.heap.size]? = some (.cells #[.int .i64 sa, .slice rG 0 cG, .slice wG 0 dG] 38 (0, 0)) ∧ Below vb.heap.size vb W) := fun W h =>
    ⟨(h.block _ (by omega)).trans cvc, (q5.out.trans (bvc.mono (by omega))).trans (h.mono (by omega))⟩
  clear hvc cvc bvc q5
  refine (eq_txn0 rG wG rS wS cG dG 0 0 sa _).mono ?_
  rintro e w6 ⟨rfl, hb6⟩
  have q6 : Hid (Below vc.heap.size vc w6) := hb6
  have z6 := hb6.size
  have T6 := KC.out _ hb6
  have x6 := fun o => row_cell (KB.out _ T6.2).2.1 o
  have c6 := fun o => row_cell (KV.out _ (KA.out _ (KB.out _ T6.2).2.2).2).1 o
  clear hb6 T6
  go_wp2_with fail
  go_cut [45] from 41 to 45 (fun u wx => u = .bool false ∧ Below w6.heap.size w6 wx)
  case first =>
    go_region_with (first
      | (go_at_call 12
         refine Calls.mono (to_store a c l now _ (KV.out _ (KA.out _ (KB.out _ (KC.out _ q6.out.drew).2).2.2).2).2.1 HE.out) ?_
         rintro e v6 ⟨a6, b6, rfl, r6, hb6⟩
         have e6 := fun o => (hb6.cell (p := ⟨w4.heap.size, o, none⟩) (show w4.heap.size < w6.heap.size by omega)).trans (x6 o)
         have R6 : Hid (ChRow 0 v6.heap.size v6 a6 l) := ChRow.wide r6.row (Nat.zero_le _) (Nat.le_refl _)
         have p6 : Hid (Below w6.heap.size w6 v6) := (Below.refl _ _).drew.trans (hb6.mono (Nat.le_refl _))
         clear r6 hb6)
      | (go_at_call 15
         refine (eq_store aX _ _ _ l now _ (ChRow.wide (KB.out _ (KC.out _ (q6.out.trans (p6.out.mono (by omega)))).2).1.row (Nat.zero_le _) (by have := p6.out.size; omega)) R6.out HE.out).mono ?_
         rintro e v7 ⟨rfl, hb7⟩
         have p7 : Hid (Below w6.heap.size w6 v7) := p6.out.trans (hb7.mono (by have := p6.out.size; omega))))
    all_goals (try go_wp2_with fail)
    all_goals go_meet
    all_goals exact ⟨rfl, p7.out⟩
  obtain ⟨w7, rfl⟩ : ∃ x, x = wc := ⟨_, rfl⟩
  obtain ⟨rfl, hb7⟩ := hcut
  have z7 := hb7.size
  have q7 : Hid (Below vc.heap.size vc w7) := q6.out.trans (hb7.mono (by omega))
  have x7 := fun o => row_cell (KB.out _ (KC.out _ q7.out).2).2.1 o
  clear hb7 x6 c6 q6
  go_wp2_with fail
  clear x7
  refine (mark_has aX _ l now va.heap.size w4.heap.size bX 1 _ (.inr (KB.out _ (KC.out _ q7.out).2).1) HE.out HSZ.out (by omega) (by omega) (by omega)).mono ?_
  rintro e w8 ⟨r8, rfl, hr8, _, k8⟩
  have hr0 : ¬ r8 < 0 := by omega
  have z8 := k8.size
  have TC := KC.out _ q7.out
  have U8 : Hid (Below va.heap.size va w8) := (KB.out _ TC.2).2.2.trans (k8.below (by omega) (Nat.le_refl _))
  have G8 : Hid (w8.heap[w5.heap.size]? = some (.cells #[.int .i64 sa, .slice rG 0 cG, .slice wG 0 dG] 38 (0, 0))) := (k8.block _ (by omega) (by omega)).trans TC.1
  clear hr8 k8 TC q7
  have KD : Hid (∀ W, Below w8.heap.size w8 W → W.heap[w5.heap.size]? = some (.cells #[.int .i64 sa, .slice rG 0 cG, .slice wG 0 dG] 38 (0, 0)) ∧ Below va.heap.size va W) := fun W h =>
    ⟨(h.block _ (by omega)).trans G8.out, U8.out.trans (h.mono (by omega))⟩
  clear G8 U8 KC KB
  have T8 := KD.out _ (Below.refl _ _)
  have x8 := fun o => row_cell T8.1 o
  have s8 := fun o => row_cell (KA.out _ T8.2).1 o
  clear T8
  go_wp2_with fail
  clear x8 s8
  refine (eq_txn0 rG wG rS wS cG dG 0 0 sa _).mono ?_
  rintro e w9 ⟨rfl, hb9⟩
  have Q9 : Hid (Below w8.heap.size w8 w9) := hb9
  have z9 := hb9.size
  have x9 := fun o => row_cell (KD.out _ hb9).1 o
  clear hb9
  go_wp2_with fail
  clear x9
  refine (mark_txn0 rG wG cG dG sa _).mono ?_
  rintro e wA ⟨rfl, hbA⟩
  have QA : Hid (Below w8.heap.size w8 wA) := Q9.out.trans (hbA.mono (by omega))
  have zA := hbA.size
  have xA := fun o => row_cell (KD.out _ QA.out).1 o
  clear hbA Q9
  go_wp2_with fail
  clear xA
  refine (held_txn0 rG wG cG dG sa _).mono ?_
  rintro e wB ⟨rfl, hbB⟩
  have QB : Hid (Below w8.heap.size w8 wB) := QA.out.trans (hbB.mono (by omega))
  have zB := hbB.size
  have cB := fun o => row_cell (KV.out _ (KA.out _ (KD.out _ QB.out).2).2).1 o
  clear hbB QA
  go_wp2_with fail
  clear cB
  refine (to_store a c l now _ (KV.out _ (KA.out _ (KD.out _ QB.out).2).2).2.1 HE.out).mono ?_
  rintro e wC ⟨aC, bC, rfl, rC, hbC⟩
  have RC : Hid (ChRow 0 wC.heap.size wC aC l) := ChRow.wide rC.row (Nat.zero_le _) (Nat.le_refl _)
  have QC : Hid (Below w8.heap.size w8 wC) := QB.out.trans (hbC.mono (by omega))
  have zC := hbC.size
  clear rC hbC QB
  go_wp2_with fail
  refine (impl_begin aC _ l now _ RC.out HE.out).mono ?_
  rintro e wD ⟨⟨rH, cH, wH, dH, rfl⟩, hbD⟩
  rw [← HSA.out, ← HCD.out]
  have QD : Hid (Below w8.heap.size w8 wD) := QC.out.trans (hbD.mono (by omega))
  have zD := hbD.size
  have AD := (KA.out _ (KD.out _ QD.out).2).1
  have p0 := fun ob => (World.cell?_alloc_past (w := wD) ob w3.heap.size 0 (by omega)).trans (row_cell AD 0)
  have p1 := fun ob => (World.cell?_alloc_past (w := wD) ob w3.heap.size 1 (by omega)).trans (row_cell AD 1)
  have p2 := fun ob => (World.cell?_alloc_past (w := wD) ob w3.heap.size 2 (by omega)).trans (row_cell AD 2)
  clear hbD QC RC AD
  go_wp2_with fail
  clear p0 p1 p2
  obtain ⟨vd, hvd⟩ : ∃ W, W = wD.alloc (.cells #[.int .i64 sa, .slice rH 0 cH, .slice wH 0 dH] 38) := ⟨_, rfl⟩
  rw [← hvd]
  have bvd : Below wD.heap.size wD vd := by rw [hvd]; exact (Below.refl _ _).alloc (Nat.le_refl _) _
  have Qd : Hid (Below w8.heap.size w8 vd) := QD.out.trans (bvd.mono (by omega))
  have zvd := bvd.size
  clear hvd bvd QD
  refine (eq_txn0 rH wH rS wS cH dH 0 0 sa _).mono ?_
  rintro e wE ⟨rfl, hbE⟩
  have QE : Hid (Below w8.heap.size w8 wE) := Qd.out.trans (hbE.mono (by omega))
  have zE := hbE.size
  have xE := fun o => row_cell (KD.out _ QE.out).1 o
  clear hbE Qd
  go_wp2_with fail
  clear xE
  refine (held_txn0 rG wG cG dG sa _).mono ?_
  rintro e wF ⟨rfl, hbF⟩
  have QF : Hid (Below w.heap.size w wF) := (KV.out _ (KA.out _ (KD.out _ (QE.out.trans (hbF.mono (by omega)))).2).2).2.2
  clear hbF
  go_wp2_with fail
  go_ret
  exact ⟨rfl, QF.out⟩

set_option maxRecDepth 100000 in
theorem lifted (os : Os) (started : os.Started) (H : Type) (enc : TypeId × Value → H) :
    ReturnsInHanded {} Try.checked os 4 .any (Rows.fnExactBeginSpec.pre6 enc Try.prog Try.f4 Rows.fnExactBeginRow.domain false) (Rows.fnExactBeginSpec.post enc Try.prog Try.f4 false true false false) := by
  refine returnsInHanded_of_change (C := Try.checked) own started (by kernel_rfl) Try.func4
    (ChangeSpec.witness6 (enc := enc) (C := Try.checked) false ⟨#[], #[.agg #[.slice none 0 0, .int .i64 0]], []⟩ 8 (by kernel_rfl) (by kernel_rfl) (by kernel_rfl) (by kernel_rfl)) ?_
  intro W base args ds gs before hval0 hW hcnd _
  have hval : ∀ (j : Nat) t v, Try.f4.params[j]? = some t → args[j]? = some v → Value.okWide Try.prog W .any base t v := hval0
  have hW' := hW
  obtain ⟨p, q, hA0, hV, rfl, hfz, hnd⟩ := hW
  have hA : DataW.TrodAll enc Try.prog W 0 (fun _ => true) true Try.f4.params.toList args.toList ds p := hA0
  rw [Try.params4] at hA hval
  obtain ⟨v0, vs0, d0, ds0, p0, q0, hargs, rfl, rfl, h0, r0⟩ := trodAll_cons hA
  obtain ⟨rfl, rfl, rfl⟩ := trodAll_nil r0
  obtain rfl : args = #[v0] := by cases args; simp_all
  obtain ⟨rfl, rfl⟩ := trodVars_none hV
  have g0 := h0
  have lt0 : ∀ x ∈ p0, x.block < W.heap.size := by obtain ⟨m, hm⟩ := g0; exact DataW.trod_lt m _ _ _ hm
  obtain ⟨a0, c0, l0, n0, rfl, hb0, hr0⟩ : ∃ a c, ∃ l : Chs, ∃ n : Int, v0 = .agg #[.slice a l.length c, .int .i64 n] ∧ ChsBd maxLen l ∧ ChRow 0 W.heap.size W a l := by
    obtain ⟨cs, rfl, hsz⟩ := okWide_struct Try.underlying24 (hval 0 24 v0 rfl rfl)
    obtain ⟨fuel, hf⟩ := h0
    obtain ⟨y0, y1, n, hx, hlen, h1, h2⟩ := trod_struct2 Try.underlying24 hf
    have cd : Try.prog.cellsOf 24 = 2 := by kernel_rfl
    have c1 : Try.prog.cellsOf 22 = 1 := by kernel_rfl
    have ci : Try.prog.cellsOf 3 = 1 := by kernel_rfl
    obtain ⟨u⟩ := cs
    have hu : u.length = 2 := by rw [cd] at hsz; simpa using hsz
    obtain ⟨q0, q1, rfl⟩ := listTwo hu
    obtain ⟨a, c, l, e, hb, hr⟩ := Chs_open (by simpa [Value.cells, c1] using h1)
    obtain ⟨z, e2, _, _⟩ := DataW.trod_int Try.underlying3 h2
    simp [Value.cells, ci] at e e2
    subst e e2
    exact ⟨a, c, l, z, rfl, hb, hr⟩
  clear hA0 hval0
  refine (walk a0 c0 l0 n0 W hr0 hb0).mono fun e W' ⟨he, bel⟩ => ?_
  subst he
  exact ⟨_, rfl, _, _, _, [], _, [], hW', trodAll_mk1 (shut_bool Try.underlying4 _), (trodAll_cons_mk (Below.trod laidOut (by kernel_rfl) (of_decide_eq_true (by kernel_rfl)) g0 bel lt0) trodAll_mk0), rfl, bel.frame _, fun h => by cases h⟩

theorem over : Rows.fnExactBeginRow.holds Try.pinned (OpenSpec.ofChange Rows.fnExactBeginSpec) :=
  OpenClaim.holds_of_wide 4 Try.f4 rfl rfl rfl rfl rfl rfl rfl ⟨rfl, rfl, rfl, rfl, rfl⟩ rfl rfl rfl rfl rfl (by kernel_rfl) Try.func4 (by kernel_rfl)
    (of_decide_eq_true (by kernel_rfl)) (by unfold Func.isWrapper; first | (rw [if_pos (by decide +kernel)]; kernel_rfl) | (rw [if_neg (by decide +kernel)]; exact ⟨rfl, rfl⟩))
    (fun os started H enc _ => lifted os started H enc)
end Go.Proofs.Ytgffplbcpofkmaa.fnExactBegin
namespace Go.Proofs.Ytgffplbcpofkmaa
theorem begin_holds : Rows.FnExactBeginSaid := fnExactBegin.over
#print axioms begin_holds
end Go.Proofs.Ytgffplbcpofkmaa
