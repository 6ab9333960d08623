/- Proved: at every store and number the law FnExactForget returns true, and its arguments read afterwards as they read before. No conditions beyond the row's own. -/
import Derived.Test.YtddjcemkopidbaaStHas
import Derived.Test.YtddjcemkopidbaaStSz
import Derived.Test.YtddjcemkopidbaaStTo
import Derived.Test.YtddjcemkopidbaaStEq
import Derived.WalkKit
import Derived.ProofKit
import Derived.OpenShut
import Derived.ShutString
import Derived.ChangeOld
import Derived.Below
import Derived.Lib.SmallJoins
import Derived.Deep.CutRange
namespace Go.Proofs.Ytddjcemkopidbaa.fnExactForget
open Go.ChangeShapes Go.WideShapes Go.ChangeAt Go.RowKit
open Go.ChangeMaps (open_string shut_string)
open Go.Proofs.Ytddjcemkopidbaa.G
set_option linter.unusedVariables false

theorem own : ownKnob Try.prog.godebug = none := by kernel_rfl
theorem laidOut : laidOutB Try.prog = true := by kernel_rfl

set_option maxHeartbeats 16000000 in
set_option maxRecDepth 40000 in
theorem walk (a : Option Addr) (c : Nat) (l : Chs) (now low : Int) (w : World) (hr : ChRow 0 w.heap.size w a l) (hb : ChsBd maxLen l) :
    Calls Try.prog 7 #[.agg #[.slice a l.length c, .int .i64 now], .int .i64 low] w fun e w' => e = .returned (.bool true) ∧ Below w.heap.size w w' := by
  have B0 : Hid (Below w.heap.size w (w.alloc (.cells #[.slice a l.length c, .int .i64 now] 31))) := (Below.refl _ _).alloc (Nat.le_refl _) _
  have K0 : Hid (∀ W0, Below w.heap.size w W0 → ChRow 0 W0.heap.size W0 a l) := fun W0 hB => ChRow.up hr hB
  have HD : Hid (ChsBd maxLen l) := hb
  clear hr hb
  go_enter Try.func7, Try.ntmps7
  go_wp2_with fail
  refine (sz_store a c l now 1048576 _ (K0.out _ B0.out) HD.out (by omega) (by omega)).mono ?_
  rintro e w1 ⟨mz, rfl, hm, hb1⟩
  have HM : Hid (Sz 1048576 mz (ChsBd 1048576 l)) := hm
  clear hm
  have A1 : Hid (w1.heap[w.heap.size]? = some (.cells #[.slice a l.length c, .int .i64 now] 31 (0, 0))) := (hb1.block _ (by simp)).trans (heap_alloc_new _ _)
  have z1 : w.heap.size + 1 ≤ w1.heap.size := size_one hb1
  have q1 : Hid (Below w.heap.size w w1) := below_one hb1
  clear hb1
  by_cases hneg : mz < 0
  · go_wp2_with fail
    go_ret
    exact ⟨rfl, q1.out⟩
  have HE : Hid (ChsBd 1048576 l) := HM.out.2.2 (by omega)
  clear HM
  obtain ⟨m, nr, g, cd, hy, hy2, hy3⟩ := fgIs now low HE.out
  have HY : Hid _ := hy
  have HF : Hid (ChsBd 1048576 m) := hy2
  clear hy hy2
  have HSZ : Hid (sizeN l ≤ 1099511627776) := by have := sizeN_le HE.out.2; have := HE.out.1; unfold Hid; exact Nat.le_trans ‹_› (Nat.mul_le_mul_right 1048576 this)
  have c1 := fun o => row_cell A1.out o
  go_wp2_with fail
  refine (to_store a c l now _ (K0.out _ q1.out) HE.out).mono ?_
  rintro e w2 ⟨a2, b2, rfl, r2, hb2⟩
  have RA : Hid (ChRow 0 w2.heap.size w2 a2 l) := ChRow.wide r2.row (Nat.zero_le _) (Nat.le_refl _)
  have z2 : w.heap.size + 1 ≤ w2.heap.size := by have := hb2.size; omega
  have q2 : Hid (Below w.heap.size w w2) := q1.out.trans (hb2.mono (by omega))
  have A2 : Hid (w2.heap[w.heap.size]? = some (.cells #[.slice a l.length c, .int .i64 now] 31 (0, 0))) := (hb2.block _ (by omega)).trans A1.out
  clear r2 hb2 c1 A1
  go_wp2_with fail
  refine (spec_fg a2 _ l now low _ RA.out HE.out HY.out).mono ?_
  rintro e w3 ⟨aS, cS, rfl, r3, hb3⟩
  have R3 : Hid (ChRow 0 w3.heap.size w3 aS m) := ChRow.wide r3 (Nat.zero_le _) (Nat.le_refl _)
  have z3 : w.heap.size + 1 ≤ w3.heap.size := by have := hb3.size; omega
  have q3 : Hid (Below w.heap.size w w3) := q2.out.trans (hb3.mono (by omega))
  have A3 : w3.heap[w.heap.size]? = some (.cells #[.slice a l.length c, .int .i64 now] 31 (0, 0)) := (hb3.block _ (by omega)).trans A2.out
  have p0 := fun ob => (World.cell?_alloc_past (w := w3) ob w.heap.size 0 (by omega)).trans (row_cell A3 0)
  have p1 := fun ob => (World.cell?_alloc_past (w := w3) ob w.heap.size 1 (by omega)).trans (row_cell A3 1)
  clear hb3 A2 r3 RA
  go_wp2_with fail
  clear p0 p1
  obtain ⟨va, hva⟩ : ∃ W, W = w3.alloc (.cells #[.slice aS m.length cS, .int .i64 nr] 24) := ⟨_, rfl⟩
  rw [← hva]
  have zva : va.heap.size = w3.heap.size + 1 := by rw [hva]; simp
  have bva : Below w3.heap.size w3 va := by rw [hva]; exact (Below.refl _ _).alloc (Nat.le_refl _) _
  have cva : va.heap[w3.heap.size]? = some (.cells #[.slice aS m.length cS, .int .i64 nr] 24 (0, 0)) := by rw [hva]; exact heap_alloc_new _ _
  have KA : Hid (∀ W, Below va.heap.size va W → ChRow 0 W.heap.size W aS m ∧ W.heap[w3.heap.size]? = some (.cells #[.slice aS m.length cS, .int .i64 nr] 24 (0, 0)) ∧ W.heap[w.heap.size]? = some (.cells #[.slice a l.length c, .int .i64 now] 31 (0, 0)) ∧ Below w.heap.size w W) := fun W h =>
    ⟨ChRow.up (ChRow.up R3.out bva) h, (h.block _ (by omega)).trans cva, ((h.block _ (by omega)).trans (bva.block _ (by omega))).trans A3, (q3.out.trans (bva.mono (by omega))).trans (h.mono (by omega))⟩
  clear hva cva bva R3 A3 q3
  refine (to_store a c l now _ (K0.out _ (KA.out _ (Below.refl _ _)).2.2.2) HE.out).mono ?_
  rintro e w4 ⟨aX, bX, rfl, r4, hb4⟩
  have O4 : Hid (StOwn va.heap.size w4.heap.size w4 aX l bX) := r4
  have q4 : Hid (Below va.heap.size va w4) := hb4
  have z4 := hb4.size
  clear r4 hb4
  go_wp2_with fail
  obtain ⟨vb, hvb⟩ : ∃ W, W = w4.alloc (.cells #[.slice aX l.length l.length, .int .i64 now] 24) := ⟨_, rfl⟩
  rw [← hvb]
  have zvb : vb.heap.size = w4.heap.size + 1 := by rw [hvb]; simp
  have bvb : Below w4.heap.size w4 vb := by rw [hvb]; exact (Below.refl _ _).alloc (Nat.le_refl _) _
  have cvb : vb.heap[w4.heap.size]? = some (.cells #[.slice aX l.length l.length, .int .i64 now] 24 (0, 0)) := by rw [hvb]; exact heap_alloc_new _ _
  have KB : Hid (∀ W, Below vb.heap.size vb W → StOwn va.heap.size w4.heap.size W aX l bX ∧ W.heap[w4.heap.size]? = some (.cells #[.slice aX l.length l.length, .int .i64 now] 24 (0, 0)) ∧ Below va.heap.size va W) := fun W h =>
    ⟨StOwn.keep (StOwn.keep O4.out (agree bvb (Nat.le_refl _))) (agree h (by omega)), (h.block _ (by omega)).trans cvb, (q4.out.trans (bvb.mono (by omega))).trans (h.mono (by omega))⟩
  clear hvb cvb bvb O4 q4
  refine (impl_fg aX _ l now low _ (ChRow.wide (KB.out _ (Below.refl _ _)).1.row (Nat.zero_le _) (by omega)) HE.out HY.out).mono ?_
  rintro e w5 ⟨aG, cG, bG, rfl, r5, hb5⟩
  have O5 : Hid (StHas vb.heap.size w5.heap.size w5 aG m bG) := r5
  have q5 : Hid (Below vb.heap.size vb w5) := hb5
  have z5 := hb5.size
  have A5 := (KA.out _ (KB.out _ hb5).2.2).2.1
  have p0 := fun ob => (World.cell?_alloc_past (w := w5) ob w3.heap.size 0 (by omega)).trans (row_cell A5 0)
  have p1 := fun ob => (World.cell?_alloc_past (w := w5) ob w3.heap.size 1 (by omega)).trans (row_cell A5 1)
  clear r5 hb5 A5
  go_wp2_with fail
  clear p0 p1
  obtain ⟨vc, hvc⟩ : ∃ W, W = w5.alloc (.cells #[.slice aG m.length cG, .int .i64 nr] 24) := ⟨_, rfl⟩
  rw [← hvc]
  have zvc : vc.heap.size = w5.heap.size + 1 := by rw [hvc]; simp
  have bvc : Below w5.heap.size w5 vc := by rw [hvc]; exact (Below.refl _ _).alloc (Nat.le_refl _) _
  have cvc : vc.heap[w5.heap.size]? = some (.cells #[.slice aG m.length cG, .int .i64 nr] 24 (0, 0)) := by rw [hvc]; exact heap_alloc_new _ _
  have KC : Hid (∀ W, Below vc.heap.size vc W → StHas vb.heap.size w5.heap.size W aG m bG ∧ W.heap[w5.heap.size]? = some (.cells #[.slice aG m.length cG, .int .i64 nr] 24 (0, 0)) ∧ Below vb.heap.size vb W) := fun W h =>
    ⟨StHas.keep (StHas.keep O5.out (agree bvc (Nat.le_refl _))) (agree h (by omega)), (h.block _ (by omega)).trans cvc, (q5.out.trans (bvc.mono (by omega))).trans (h.mono (by omega))⟩
  clear hvc cvc bvc O5 q5
  have D0 := KC.out _ (Below.refl _ _)
  refine (eq_store aG aS cG cS m nr _ (ChRow.wide D0.1.row (Nat.zero_le _) (by omega)) (KA.out _ (KB.out _ D0.2.2).2.2).1 HF.out).mono ?_
  clear D0
  rintro e w6 ⟨rfl, hb6⟩
  have q6 : Hid (Below vc.heap.size vc w6) := hb6
  have z6 := hb6.size
  have T6 := KC.out _ hb6
  have x6 := fun o => row_cell (KB.out _ T6.2.2).2.1 o
  have c6 := fun o => row_cell (KA.out _ (KB.out _ T6.2.2).2.2).2.2.1 o
  clear hb6 T6
  go_wp2_with fail
  go_cut [59] from 55 to 59 (fun u wx => u = .bool false ∧ Below w6.heap.size w6 wx)
  case first =>
    go_region_with (first
      | (go_at_call 16
         refine Calls.mono (to_store a c l now _ (K0.out _ ?hb) HE.out) ?_
         case hb => exact (KA.out _ (KB.out _ (KC.out _ q6.out.drew).2.2).2.2).2.2.2
         rintro e v6 ⟨a6, b6, rfl, r6, hb6⟩
         have e6 := fun o => (hb6.cell (p := ⟨w4.heap.size, o, none⟩) (show w4.heap.size < w6.heap.size by omega)).trans (x6 o)
         have R6 : Hid (ChRow 0 v6.heap.size v6 a6 l) := ChRow.wide r6.row (Nat.zero_le _) (Nat.le_refl _)
         have p6 : Hid (Below w6.heap.size w6 v6) := (Below.refl _ _).drew.trans (hb6.mono (Nat.le_refl _))
         clear r6 hb6)
      | (go_at_call 11
         refine (eq_store aX _ _ _ l now _ (ChRow.wide (KB.out _ (KC.out _ (q6.out.trans (p6.out.mono (by omega)))).2.2).1.row (Nat.zero_le _) (by have := p6.out.size; omega)) R6.out HE.out).mono ?_
         rintro e v7 ⟨rfl, hb7⟩
         have p7 : Hid (Below w6.heap.size w6 v7) := p6.out.trans (hb7.mono (by have := p6.out.size; omega))))
    all_goals (try go_wp2_with fail)
    all_goals go_meet
    all_goals exact ⟨rfl, p7.out⟩
  obtain ⟨rfl, hb7⟩ := hcut
  have z7 : w6.heap.size ≤ wc.heap.size := hb7.size
  have Q7 : Hid (Below vc.heap.size vc wc) := q6.out.trans (hb7.mono (by omega))
  clear hb7 x6 c6 q6
  have T7 := KC.out _ Q7.out
  have x7 := fun o => row_cell (KB.out _ T7.2.2).2.1 o
  clear T7
  go_wp2_with fail
  have T7 := KC.out _ Q7.out
  refine (mark_has aX _ l now va.heap.size w4.heap.size bX 1 _ (.inr (KB.out _ T7.2.2).1) HE.out HSZ.out (by omega) (by omega) (by omega)).mono ?_
  clear T7
  rintro e w8 ⟨r8, rfl, hr8, _, k8⟩
  have hr0 : ¬ r8 < 0 := by omega
  have z8 := k8.size
  have T7 := KC.out _ Q7.out
  have U8 : Hid (Below va.heap.size va w8) := (KB.out _ T7.2.2).2.2.trans (k8.below (by omega) (Nat.le_refl _))
  have O8 : Hid (StHas vb.heap.size w5.heap.size w8 aG m bG) := StHas.keep T7.1 (k8.agree (by omega) (.inr (by omega)))
  have G8 : Hid (w8.heap[w5.heap.size]? = some (.cells #[.slice aG m.length cG, .int .i64 nr] 24 (0, 0))) := (k8.block _ (by omega) (by omega)).trans T7.2.1
  clear T7 hr8 k8 x7
  have KD : Hid (∀ W, Below w8.heap.size w8 W → StHas vb.heap.size w5.heap.size W aG m bG ∧ W.heap[w5.heap.size]? = some (.cells #[.slice aG m.length cG, .int .i64 nr] 24 (0, 0)) ∧ Below va.heap.size va W) := fun W h =>
    ⟨StHas.keep O8.out (agree h (by omega)), (h.block _ (by omega)).trans G8.out, U8.out.trans (h.mono (by omega))⟩
  clear O8 G8 U8 KC KB Q7
  have T8 := KD.out _ (Below.refl _ _)
  have x8 := fun o => row_cell T8.2.1 o
  have s8 := fun o => row_cell (KA.out _ T8.2.2).2.1 o
  clear T8
  go_wp2_with fail
  have T8 := KD.out _ (Below.refl _ _)
  refine (eq_store aG aS cG cS m nr _ (ChRow.wide T8.1.row (Nat.zero_le _) (by omega)) (KA.out _ T8.2.2).1 HF.out).mono ?_
  clear T8 x8 s8
  rintro e w9 ⟨rfl, hb9⟩
  have Q9 : Hid (Below w8.heap.size w8 w9) := hb9
  have z9 := hb9.size
  have x9 := fun o => row_cell (KD.out _ hb9).2.1 o
  clear hb9
  go_wp2_with fail
  clear x9
  refine (mark_has aG _ m nr vb.heap.size w5.heap.size bG 1 _ (KD.out _ Q9.out).1 HF.out (by omega) (by omega) (by omega) (by omega)).mono ?_
  rintro e wA ⟨rA, rfl, hrA, mA, kA⟩
  have zA := kA.size
  have MA : Hid (StMkd vb.heap.size w5.heap.size wA aG m bG 1) := mA
  have GA : Hid (wA.heap[w5.heap.size]? = some (.cells #[.slice aG m.length cG, .int .i64 nr] 24 (0, 0))) := (kA.block _ (by omega) (by omega)).trans (KD.out _ Q9.out).2.1
  have UA : Hid (Below va.heap.size va wA) := (KD.out _ Q9.out).2.2.trans (kA.below (by omega) (by omega))
  have HRA : Hid (rA = 1 + 2 * sizeN m) := hrA
  clear mA kA KD hrA
  have KE : Hid (∀ W, Below wA.heap.size wA W → StMkd vb.heap.size w5.heap.size W aG m bG 1 ∧ W.heap[w5.heap.size]? = some (.cells #[.slice aG m.length cG, .int .i64 nr] 24 (0, 0)) ∧ Below va.heap.size va W) := fun W h =>
    ⟨StMkd.keep MA.out (agree h (by omega)), (h.block _ (by omega)).trans GA.out, UA.out.trans (h.mono (by omega))⟩
  have xA := fun o => row_cell GA.out o
  clear MA GA UA
  go_wp2_with fail
  clear xA
  refine (held_has aG _ m nr vb.heap.size w5.heap.size bG 1 _ (KE.out _ (Below.refl _ _)).1 HF.out (by omega) (by omega) (by omega) (by omega)).mono ?_
  rintro e wB ⟨rB, rfl, hrB, hbB⟩
  obtain rfl : rA = rB := by rw [hrB]; exact HRA.out
  have hrp : ¬ rA < 0 := by have := HRA.out; omega
  have QB : Hid (Below wA.heap.size wA wB) := hbB
  have zB := hbB.size
  have cB := fun o => row_cell (KA.out _ (KE.out _ hbB).2.2).2.2.1 o
  clear hrB hbB
  go_wp2_with fail
  clear cB
  refine (to_store a c l now _ (K0.out _ (KA.out _ (KE.out _ QB.out).2.2).2.2.2) HE.out).mono ?_
  rintro e wC ⟨aC, bC, rfl, rC, hbC⟩
  have RC : Hid (ChRow 0 wC.heap.size wC aC l) := ChRow.wide rC.row (Nat.zero_le _) (Nat.le_refl _)
  have QC : Hid (Below wA.heap.size wA wC) := QB.out.trans (hbC.mono (by omega))
  have zC := hbC.size
  clear rC hbC QB
  go_wp2_with fail
  refine (impl_fg aC _ l now low _ RC.out HE.out HY.out).mono ?_
  rintro e wD ⟨aH, cH, bH, rfl, rD, hbD⟩
  have RD : Hid (ChRow 0 wD.heap.size wD aH m) := ChRow.wide rD.row (Nat.zero_le _) (Nat.le_refl _)
  have QD : Hid (Below wA.heap.size wA wD) := QC.out.trans (hbD.mono (by omega))
  have zD := hbD.size
  have AD := (KA.out _ (KE.out _ QD.out).2.2).2.1
  have p0 := fun ob => (World.cell?_alloc_past (w := wD) ob w3.heap.size 0 (by omega)).trans (row_cell AD 0)
  have p1 := fun ob => (World.cell?_alloc_past (w := wD) ob w3.heap.size 1 (by omega)).trans (row_cell AD 1)
  clear rD hbD QC RC AD
  go_wp2_with fail
  clear p0 p1
  obtain ⟨vd, hvd⟩ : ∃ W, W = wD.alloc (.cells #[.slice aH m.length cH, .int .i64 nr] 24) := ⟨_, rfl⟩
  rw [← hvd]
  have zvd : vd.heap.size = wD.heap.size + 1 := by rw [hvd]; simp
  have bvd : Below wD.heap.size wD vd := by rw [hvd]; exact (Below.refl _ _).alloc (Nat.le_refl _) _
  have cvd : vd.heap[wD.heap.size]? = some (.cells #[.slice aH m.length cH, .int .i64 nr] 24 (0, 0)) := by rw [hvd]; exact heap_alloc_new _ _
  have Qd : Hid (Below wA.heap.size wA vd) := QD.out.trans (bvd.mono (by omega))
  have Rd : Hid (ChRow 0 vd.heap.size vd aH m) := ChRow.up RD.out bvd
  clear hvd cvd bvd QD RD
  refine (eq_store aH aS cH cS m nr _ Rd.out (KA.out _ (KE.out _ Qd.out).2.2).1 HF.out).mono ?_
  rintro e wE ⟨rfl, hbE⟩
  have QE : Hid (Below wA.heap.size wA wE) := Qd.out.trans (hbE.mono (by omega))
  have zE := hbE.size
  have xE := fun o => row_cell (KE.out _ QE.out).2.1 o
  clear hbE Qd Rd
  go_wp2_with fail
  clear xE
  refine (held_has aG _ m nr vb.heap.size w5.heap.size bG 1 _ (KE.out _ QE.out).1 HF.out (by omega) (by omega) (by omega) (by omega)).mono ?_
  rintro e wF ⟨rF, rfl, hrF, hbF⟩
  obtain rfl : rA = rF := by rw [hrF]; exact HRA.out
  have QF : Hid (Below w.heap.size w wF) := (KA.out _ (KE.out _ (QE.out.trans (hbF.mono (by omega)))).2.2).2.2.2
  clear hrF hbF
  go_wp2_with fail
  go_ret
  exact ⟨rfl, QF.out⟩

set_option maxRecDepth 100000 in
theorem lifted (os : Os) (started : os.Started) (H : Type) (enc : TypeId × Value → H) :
    ReturnsInHanded {} Try.checked os 7 .any (Rows.fnExactForgetSpec.pre6 enc Try.prog Try.f7 Rows.fnExactForgetRow.domain false) (Rows.fnExactForgetSpec.post enc Try.prog Try.f7 false true false false) := by
  refine returnsInHanded_of_change (C := Try.checked) own started (by kernel_rfl) Try.func7
    (ChangeSpec.witness6 (enc := enc) (C := Try.checked) false ⟨#[], #[.agg #[.slice none 0 0, .int .i64 0], .int .i64 0], []⟩ 8 (by kernel_rfl) (by kernel_rfl) (by kernel_rfl) (by kernel_rfl)) ?_
  intro W base args ds gs before hval0 hW hcnd _
  have hval : ∀ (j : Nat) t v, Try.f7.params[j]? = some t → args[j]? = some v → Value.okWide Try.prog W .any base t v := hval0
  have hW' := hW
  obtain ⟨p, q, hA0, hV, rfl, hfz, hnd⟩ := hW
  have hA : DataW.TrodAll enc Try.prog W 0 (fun _ => true) true Try.f7.params.toList args.toList ds p := hA0
  rw [Try.params7] at hA hval
  obtain ⟨v0, vs0, d0, ds0, p0, q0, hargs, rfl, rfl, h0, r0⟩ := trodAll_cons hA
  obtain ⟨v1, vs1, d1, ds1, p1, q1, rfl, rfl, rfl, h1, r1⟩ := trodAll_cons r0
  obtain ⟨rfl, rfl, rfl⟩ := trodAll_nil r1
  obtain rfl : args = #[v0, v1] := by cases args; simp_all
  obtain ⟨rfl, rfl⟩ := trodVars_none hV
  have g0 := h0
  have lt0 : ∀ x ∈ p0, x.block < W.heap.size := by obtain ⟨m, hm⟩ := g0; exact DataW.trod_lt m _ _ _ hm
  obtain ⟨a0, c0, l0, n0, rfl, hb0, hr0⟩ : ∃ a c, ∃ l : Chs, ∃ n : Int, v0 = .agg #[.slice a l.length c, .int .i64 n] ∧ ChsBd maxLen l ∧ ChRow 0 W.heap.size W a l := by
    obtain ⟨cs, rfl, hsz⟩ := okWide_struct Try.underlying31 (hval 0 31 v0 rfl rfl)
    obtain ⟨fuel, hf⟩ := h0
    obtain ⟨y0, y1, n, hx, hlen, h1, h2⟩ := trod_struct2 Try.underlying31 hf
    have cd : Try.prog.cellsOf 31 = 2 := by kernel_rfl
    have c1 : Try.prog.cellsOf 29 = 1 := by kernel_rfl
    have ci : Try.prog.cellsOf 3 = 1 := by kernel_rfl
    obtain ⟨u⟩ := cs
    have hu : u.length = 2 := by rw [cd] at hsz; simpa using hsz
    obtain ⟨q0, q1, rfl⟩ := listTwo hu
    obtain ⟨a, c, l, e, hb, hr⟩ := Chs_open (by simpa [Value.cells, c1] using h1)
    obtain ⟨z, e2, _, _⟩ := DataW.trod_int Try.underlying3 h2
    simp [Value.cells, ci] at e e2
    subst e e2
    exact ⟨a, c, l, z, rfl, hb, hr⟩
  have g1 := h1
  have lt1 : ∀ x ∈ p1, x.block < W.heap.size := by obtain ⟨m, hm⟩ := g1; exact DataW.trod_lt m _ _ _ hm
  obtain ⟨x1, rfl, _, _, w1⟩ := open_int Try.underlying3 (hval 1 3 v1 rfl rfl) h1
  clear hA0 hval0
  refine (walk a0 c0 l0 n0 x1 W hr0 hb0).mono fun e W' ⟨he, bel⟩ => ?_
  subst he
  exact ⟨_, rfl, _, _, _, [], _, [], hW', trodAll_mk1 (shut_bool Try.underlying4 _), (trodAll_cons_mk (Below.trod laidOut (by kernel_rfl) (of_decide_eq_true (by kernel_rfl)) g0 bel lt0) (trodAll_cons_mk (Below.trod laidOut (by kernel_rfl) (of_decide_eq_true (by kernel_rfl)) g1 bel lt1) trodAll_mk0)), rfl, bel.frame _, fun h => by cases h⟩

theorem over : Rows.fnExactForgetRow.holds Try.pinned (OpenSpec.ofChange Rows.fnExactForgetSpec) :=
  OpenClaim.holds_of_wide 7 Try.f7 rfl rfl rfl rfl rfl rfl rfl ⟨rfl, rfl, rfl, rfl, rfl⟩ rfl rfl rfl rfl rfl (by kernel_rfl) Try.func7 (by kernel_rfl)
    (of_decide_eq_true (by kernel_rfl)) (by unfold Func.isWrapper; first | (rw [if_pos (by decide +kernel)]; kernel_rfl) | (rw [if_neg (by decide +kernel)]; exact ⟨rfl, rfl⟩))
    (fun os started H enc _ => lifted os started H enc)
end Go.Proofs.Ytddjcemkopidbaa.fnExactForget
namespace Go.Proofs.Ytddjcemkopidbaa
theorem forget_holds : Rows.FnExactForgetSaid := fnExactForget.over
#print axioms forget_holds
end Go.Proofs.Ytddjcemkopidbaa
