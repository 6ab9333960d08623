/- Proved: at every store and list of puts the law FnExactWriteAll returns true, and its arguments read afterwards as they read before. No conditions beyond the row's own. -/
import Derived.Test.YtdoopifjgbhdjaaStWaBoth
import Derived.Test.YtdoopifjgbhdjaaStSz
import Derived.Test.YtdoopifjgbhdjaaStTo
import Derived.Test.YtdoopifjgbhdjaaStEq
import Derived.Test.YtdoopifjgbhdjaaStPu
import Derived.WalkKit
import Derived.ProofKit
import Derived.OpenShut
import Derived.ShutString
import Derived.ChangeOld
import Derived.Below
import Derived.Lib.SmallJoins
import Derived.Deep.CutRange
namespace Go.Proofs.Ytdoopifjgbhdjaa.fnExactWriteAll
open Go.ChangeShapes Go.WideShapes Go.ChangeAt Go.RowKit
open Go.ChangeMaps (open_string shut_string)
open Go.Proofs.Ytdoopifjgbhdjaa.G
set_option linter.unusedVariables false

theorem own : ownKnob Try.prog.godebug = none := by kernel_rfl
theorem laidOut : laidOutB Try.prog = true := by kernel_rfl

set_option maxHeartbeats 16000000 in
set_option maxRecDepth 40000 in
theorem walk (a : Option Addr) (c : Nat) (l : Chs) (now : Int) (pa : Option Addr) (pc : Nat) (ps : List Ve) (w : World) (hr : ChRow 0 w.heap.size w a l) (hb : ChsBd maxLen l) (hp : VeRow 0 w.heap.size w pa ps) (hpb : ps.length ≤ maxLen) :
    Calls Try.prog 3 #[.agg #[.slice a l.length c, .int .i64 now], .slice pa ps.length pc] w fun e w' => e = .returned (.bool true) ∧ Below w.heap.size w w' := by
  have B0 : Hid (Below w.heap.size w (w.alloc (.cells #[.slice a l.length c, .int .i64 now] 24))) := (Below.refl _ _).alloc (Nat.le_refl _) _
  have K0 : Hid (∀ W0, Below w.heap.size w W0 → ChRow 0 W0.heap.size W0 a l) := fun W0 hB => ChRow.up hr hB
  have KP : Hid (∀ W0, Below w.heap.size w W0 → VeRow 0 W0.heap.size W0 pa ps) := fun W0 hB => VeRow.up hp hB
  have HD : Hid (ChsBd maxLen l) := hb
  have HPB : Hid (ps.length ≤ maxLen) := hpb
  clear hr hb hp hpb
  go_enter Try.func3, Try.ntmps3
  go_wp2_with fail
  refine (sz_store a c l now 1048576 _ (K0.out _ B0.out) HD.out (by omega) (by omega)).mono ?_
  rintro e w1 ⟨mz, rfl, hm, hb1⟩
  have HM : Hid (Sz 1048576 mz (ChsBd 1048576 l)) := hm
  clear hm
  have A1 : Hid (w1.heap[w.heap.size]? = some (.cells #[.slice a l.length c, .int .i64 now] 24 (0, 0))) := (hb1.block _ (by simp)).trans (heap_alloc_new _ _)
  have z1 : w.heap.size + 1 ≤ w1.heap.size := size_one hb1
  have q1 : Hid (Below w.heap.size w w1) := below_one hb1
  clear hb1
  by_cases hneg : mz < 0
  · go_wp2_with fail
    go_ret
    exact ⟨rfl, q1.out⟩
  have HE : Hid (ChsBd 1048576 l) := HM.out.2.2 (by omega)
  have hmz : mz ≤ 1048576 := HM.out.1
  clear HM
  go_wp2_with fail
  refine (sz_Pus pa pc ps.length mz _ HPB.out (by omega) hmz).mono ?_
  rintro e w1' ⟨mp, rfl, hm, rfl⟩
  have HM : Hid (Sz mz mp (ps.length ≤ 1048576)) := hm
  clear hm
  by_cases hneg2 : mp < 0
  · go_wp2_with fail
    go_ret
    exact ⟨rfl, q1.out⟩
  have hpl : ps.length ≤ 1048576 := HM.out.2.2 (by omega)
  clear HM hmz
  obtain ⟨m, nr, h, cd, hy, hy2, hy3⟩ := waIs l now ps
  have HY : Hid _ := hy
  have HF : Hid (ChsBd 1048576 m) := hy2
  clear hy hy2
  have HSZ : Hid (sizeN l ≤ 1099511627776) := by have := sizeN_le HE.out.2; have := HE.out.1; unfold Hid; exact Nat.le_trans ‹_› (Nat.mul_le_mul_right 1048576 this)
  have c1 := fun o => row_cell A1.out o
  go_wp2_with fail
  refine (to_store a c l now _ (K0.out _ q1.out) HE.out).mono ?_
  rintro e w2 ⟨a2, b2, rfl, r2, hb2⟩
  have z2 : w.heap.size + 1 ≤ w2.heap.size := by have := hb2.size; omega
  have q2 : Hid (Below w.heap.size w w2) := q1.out.trans (hb2.mono (by omega))
  have RA0 : Hid (ChRow 0 w2.heap.size w2 a2 l) := ChRow.wide r2.row (Nat.zero_le _) (Nat.le_refl _)
  have A2 : Hid (w2.heap[w.heap.size]? = some (.cells #[.slice a l.length c, .int .i64 now] 24 (0, 0))) := (hb2.block _ (by omega)).trans A1.out
  clear r2 hb2 c1 A1
  go_wp2_with fail
  refine (to_Pus pa pc ps _ (KP.out _ q2.out) hpl).mono ?_
  rintro e w2' ⟨rfl, pk2, hb2⟩
  have z2' := hb2.size
  have RA : Hid (ChRow 0 w2'.heap.size w2' a2 l) := ChRow.up RA0.out hb2
  have RP : Hid (VeRow 0 w2'.heap.size w2' (some ⟨w2.heap.size, 0, none⟩) ps) := pk2.row (Nat.zero_le _) pk2.lt
  have q2' : Hid (Below w.heap.size w w2') := q2.out.trans (hb2.mono (by omega))
  have A2' : Hid (w2'.heap[w.heap.size]? = some (.cells #[.slice a l.length c, .int .i64 now] 24 (0, 0))) := (hb2.block _ (by omega)).trans A2.out
  clear pk2 hb2 A2 RA0
  go_wp2_with fail
  refine (spec_wa a2 _ _ _ l ps now _ RA.out RP.out HE.out hpl HY.out).mono ?_
  rintro e w3 ⟨aS, cS, rfl, r3, hb3⟩
  have R3 : Hid (ChRow 0 w3.heap.size w3 aS m) := ChRow.wide r3 (Nat.zero_le _) (Nat.le_refl _)
  have z3 : w.heap.size + 1 ≤ w3.heap.size := by have := hb3.size; omega
  have q3 : Hid (Below w.heap.size w w3) := q2'.out.trans (hb3.mono (by omega))
  have A3 : w3.heap[w.heap.size]? = some (.cells #[.slice a l.length c, .int .i64 now] 24 (0, 0)) := (hb3.block _ (by omega)).trans A2'.out
  have p0 := fun ob => (World.cell?_alloc_past (w := w3) ob w.heap.size 0 (by omega)).trans (row_cell A3 0)
  have p1 := fun ob => (World.cell?_alloc_past (w := w3) ob w.heap.size 1 (by omega)).trans (row_cell A3 1)
  clear hb3 A2' r3 RA RP
  go_wp2_with fail
  clear p0 p1
  obtain ⟨va, hva⟩ : ∃ W, W = w3.alloc (.cells #[.slice aS m.length cS, .int .i64 nr] 30) := ⟨_, rfl⟩
  rw [← hva]
  have zva : va.heap.size = w3.heap.size + 1 := by rw [hva]; simp
  have bva : Below w3.heap.size w3 va := by rw [hva]; exact (Below.refl _ _).alloc (Nat.le_refl _) _
  have cva : va.heap[w3.heap.size]? = some (.cells #[.slice aS m.length cS, .int .i64 nr] 30 (0, 0)) := by rw [hva]; exact heap_alloc_new _ _
  have KA : Hid (∀ W, Below va.heap.size va W → ChRow 0 W.heap.size W aS m ∧ W.heap[w3.heap.size]? = some (.cells #[.slice aS m.length cS, .int .i64 nr] 30 (0, 0)) ∧ W.heap[w.heap.size]? = some (.cells #[.slice a l.length c, .int .i64 now] 24 (0, 0)) ∧ Below w.heap.size w W) := fun W h =>
    ⟨ChRow.up (ChRow.up R3.out bva) h, (h.block _ (by omega)).trans cva, ((h.block _ (by omega)).trans (bva.block _ (by omega))).trans A3, (q3.out.trans (bva.mono (by omega))).trans (h.mono (by omega))⟩
  clear hva cva bva R3 A3 q3
  refine (to_store a c l now _ (K0.out _ (KA.out _ (Below.refl _ _)).2.2.2) HE.out).mono ?_
  rintro e w4 ⟨aX, bX, rfl, r4, hb4⟩
  have O4 : Hid (StOwn va.heap.size w4.heap.size w4 aX l bX) := r4
  have q4 : Hid (Below va.heap.size va w4) := hb4
  have z4 := hb4.size
  clear r4 hb4
  go_wp2_with fail
  obtain ⟨vb, hvb⟩ : ∃ W, W = w4.alloc (.cells #[.slice aX l.length l.length, .int .i64 now] 30) := ⟨_, rfl⟩
  rw [← hvb]
  have zvb : vb.heap.size = w4.heap.size + 1 := by rw [hvb]; simp
  have bvb : Below w4.heap.size w4 vb := by rw [hvb]; exact (Below.refl _ _).alloc (Nat.le_refl _) _
  have cvb : vb.heap[w4.heap.size]? = some (.cells #[.slice aX l.length l.length, .int .i64 now] 30 (0, 0)) := by rw [hvb]; exact heap_alloc_new _ _
  have KB : Hid (∀ W, Below vb.heap.size vb W → StOwn va.heap.size w4.heap.size W aX l bX ∧ W.heap[w4.heap.size]? = some (.cells #[.slice aX l.length l.length, .int .i64 now] 30 (0, 0)) ∧ Below va.heap.size va W) := fun W h =>
    ⟨StOwn.keep (StOwn.keep O4.out (agree bvb (Nat.le_refl _))) (agree h (by omega)), (h.block _ (by omega)).trans cvb, (q4.out.trans (bvb.mono (by omega))).trans (h.mono (by omega))⟩
  clear hvb cvb bvb O4 q4
  refine (to_Pus pa pc ps _ (KP.out _ (KA.out _ (KB.out _ (Below.refl _ _)).2.2).2.2.2) hpl).mono ?_
  rintro e w5 ⟨rfl, pk5, hb5⟩
  have z5 := hb5.size
  have z5' : w4.heap.size + 1 < w5.heap.size := by rw [← zvb]; exact pk5.lt
  have q5 : Hid (Below vb.heap.size vb w5) := hb5
  have PK5 : Hid (PuBlk w5 (w4.heap.size + 1) ps) := by rw [← zvb]; exact pk5
  have x5 := fun o => row_cell (KB.out _ hb5).2.1 o
  clear hb5 pk5
  go_wp2_with fail
  clear x5
  have RX5 : Hid (ChRow 0 w5.heap.size w5 aX l) := ChRow.wide (KB.out _ q5.out).1.row (Nat.zero_le _) (by omega)
  have RP5 : Hid (VeRow 0 w5.heap.size w5 (some ⟨w4.heap.size + 1, 0, none⟩) ps) := PK5.out.row (Nat.zero_le _) z5'
  have C5 := impl_wa aX (some ⟨w4.heap.size + 1, 0, none⟩) l.length ps.length l ps now w5 RX5.out RP5.out HE.out hpl HY.out
  refine C5.mono ?_
  clear C5 RX5 RP5
  rintro e w6 ⟨aG, cG, bG, rfl, r6, hb6⟩
  have O6 : Hid (StHas w5.heap.size w6.heap.size w6 aG m bG) := r6
  have z6 := hb6.size
  have q6 : Hid (Below vb.heap.size vb w6) := q5.out.trans (hb6.mono (by omega))
  have PK6 : Hid (PuBlk w6 (w4.heap.size + 1) ps) := PK5.out.move (hb6.block _ z5')
  have A6 := (KA.out _ (KB.out _ q6.out).2.2).2.1
  have p0 := fun ob => (World.cell?_alloc_past (w := w6) ob w3.heap.size 0 (by omega)).trans (row_cell A6 0)
  have p1 := fun ob => (World.cell?_alloc_past (w := w6) ob w3.heap.size 1 (by omega)).trans (row_cell A6 1)
  clear r6 hb6 A6 PK5 q5
  go_wp2_with fail
  clear p0 p1
  obtain ⟨vc, hvc⟩ : ∃ W, W = w6.alloc (.cells #[.slice aG m.length cG, .int .i64 nr] 30) := ⟨_, rfl⟩
  rw [← hvc]
  have zvc : vc.heap.size = w6.heap.size + 1 := by rw [hvc]; simp
  have bvc : Below w6.heap.size w6 vc := by rw [hvc]; exact (Below.refl _ _).alloc (Nat.le_refl _) _
  have cvc : vc.heap[w6.heap.size]? = some (.cells #[.slice aG m.length cG, .int .i64 nr] 30 (0, 0)) := by rw [hvc]; exact heap_alloc_new _ _
  have KC : Hid (∀ W, Below vc.heap.size vc W → StHas w5.heap.size w6.heap.size W aG m bG ∧ W.heap[w6.heap.size]? = some (.cells #[.slice aG m.length cG, .int .i64 nr] 30 (0, 0)) ∧ Below vb.heap.size vb W ∧ PuBlk W (w4.heap.size + 1) ps) := fun W h =>
    ⟨StHas.keep (StHas.keep O6.out (agree bvc (Nat.le_refl _))) (agree h (by omega)), (h.block _ (by omega)).trans cvc, (q6.out.trans (bvc.mono (by omega))).trans (h.mono (by omega)), (PK6.out.move (bvc.block _ (by omega))).move (h.block _ (by omega))⟩
  clear hvc cvc bvc O6 q6 PK6
  have D0 := KC.out _ (Below.refl _ _)
  refine (eq_store aG aS cG cS m nr _ (ChRow.wide D0.1.row (Nat.zero_le _) (by omega)) (KA.out _ (KB.out _ D0.2.2.1).2.2).1 HF.out).mono ?_
  clear D0
  rintro e w7 ⟨rfl, hb7⟩
  have q7 : Hid (Below vc.heap.size vc w7) := hb7
  have z7 := hb7.size
  have T7 := KC.out _ hb7
  have x7 := fun o => row_cell (KB.out _ T7.2.2.1).2.1 o
  have c7 := fun o => row_cell (KA.out _ (KB.out _ T7.2.2.1).2.2).2.2.1 o
  clear hb7 T7
  go_wp2_with fail
  go_cut [68] from 64 to 68 (fun u wx => u = .bool false ∧ Below w7.heap.size w7 wx)
  case first =>
    go_region_with (first
      | (go_at_call 7
         refine Calls.mono (to_store a c l now _ (K0.out _ ?hb) HE.out) ?_
         case hb => exact (KA.out _ (KB.out _ (KC.out _ q7.out.drew).2.2.1).2.2).2.2.2
         rintro e v6 ⟨a6, b6, rfl, r6, hb6⟩
         have e6 := fun o => (hb6.cell (p := ⟨w4.heap.size, o, none⟩) (show w4.heap.size < w7.heap.size by omega)).trans (x7 o)
         have R6 : Hid (ChRow 0 v6.heap.size v6 a6 l) := ChRow.wide r6.row (Nat.zero_le _) (Nat.le_refl _)
         have p6 : Hid (Below w7.heap.size w7 v6) := (Below.refl _ _).drew.trans (hb6.mono (Nat.le_refl _))
         clear r6 hb6)
      | (go_at_call 10
         refine (eq_store aX _ _ _ l now _ (ChRow.wide (KB.out _ (KC.out _ (q7.out.trans (p6.out.mono (by omega)))).2.2.1).1.row (Nat.zero_le _) (by have := p6.out.size; omega)) R6.out HE.out).mono ?_
         rintro e v7 ⟨rfl, hb7⟩
         have p7 : Hid (Below w7.heap.size w7 v7) := p6.out.trans (hb7.mono (by have := p6.out.size; omega))))
    all_goals (try go_wp2_with fail)
    all_goals go_meet
    all_goals exact ⟨rfl, p7.out⟩
  obtain ⟨rfl, hb8⟩ := hcut
  have z8 : w7.heap.size ≤ wc.heap.size := hb8.size
  have Q8 : Hid (Below vc.heap.size vc wc) := q7.out.trans (hb8.mono (by omega))
  clear hb8 x7 c7 q7
  go_wp2_with fail
  refine (to_Pus pa pc ps _ (KP.out _ (KA.out _ (KB.out _ (KC.out _ Q8.out).2.2.1).2.2).2.2.2) hpl).mono ?_
  rintro e w9 ⟨rfl, pk9, hb9⟩
  have z9 := hb9.size
  have Q9 : Hid (Below vc.heap.size vc w9) := Q8.out.trans (hb9.mono (by omega))
  have R9 : Hid (VeRow 0 w9.heap.size w9 (some ⟨wc.heap.size, 0, none⟩) ps) := pk9.row (Nat.zero_le _) pk9.lt
  clear pk9 hb9 Q8
  go_wp2_with fail
  refine (eq_Pus _ _ _ _ ps _ ((KC.out _ Q9.out).2.2.2.row (Nat.zero_le _) (by omega)) R9.out hpl).mono ?_
  rintro e wD ⟨rfl, hbD⟩
  have zD := hbD.size
  have QD : Hid (Below vc.heap.size vc wD) := Q9.out.trans (hbD.mono (by omega))
  have xD := fun o => row_cell (KB.out _ (KC.out _ QD.out).2.2.1).2.1 o
  clear hbD Q9 R9
  go_wp2_with fail
  clear xD
  refine (mark_has aX _ l now va.heap.size w4.heap.size bX 1 _ (.inr (KB.out _ (KC.out _ QD.out).2.2.1).1) HE.out HSZ.out (by omega) (by omega) (by omega)).mono ?_
  rintro e wE ⟨rE, rfl, hrE, _, kE⟩
  have zE := kE.size
  have TD := KC.out _ QD.out
  have UE : Hid (Below va.heap.size va wE) := (KB.out _ TD.2.2.1).2.2.trans (kE.below (by omega) (Nat.le_refl _))
  have OE : Hid (StHas w5.heap.size w6.heap.size wE aG m bG) := StHas.keep TD.1 (kE.agree (by omega) (.inr (by omega)))
  have GE : Hid (wE.heap[w6.heap.size]? = some (.cells #[.slice aG m.length cG, .int .i64 nr] 30 (0, 0))) := (kE.block _ (by omega) (by omega)).trans TD.2.1
  have PE : Hid (PuBlk wE (w4.heap.size + 1) ps) := TD.2.2.2.move (kE.block _ (by omega) (by omega))
  have hrE1 : 0 ≤ rE := by omega
  have hrE2 : rE ≤ 4398046511104 := by have := HSZ.out; omega
  clear TD hrE kE QD
  go_wp2_with fail
  refine (mark_Pus (w4.heap.size + 1) _ ps rE _ PE.out hpl hrE1 hrE2).mono ?_
  rintro e w8 ⟨r8, rfl, hr8, _, k8⟩
  have hr0 : ¬ r8 < 0 := by omega
  have z8' := k8.size
  have U8 : Hid (Below va.heap.size va w8) := UE.out.trans (k8.below (by omega) (by omega))
  have O8 : Hid (StHas w5.heap.size w6.heap.size w8 aG m bG) := StHas.keep OE.out (k8.agree (by omega) (.inr (by omega)))
  have G8 : Hid (w8.heap[w6.heap.size]? = some (.cells #[.slice aG m.length cG, .int .i64 nr] 30 (0, 0))) := (k8.block _ (by omega) (by omega)).trans GE.out
  clear hr8 k8 UE OE GE PE hrE1 hrE2
  have KD : Hid (∀ W, Below w8.heap.size w8 W → StHas w5.heap.size w6.heap.size W aG m bG ∧ W.heap[w6.heap.size]? = some (.cells #[.slice aG m.length cG, .int .i64 nr] 30 (0, 0)) ∧ Below va.heap.size va W) := fun W h =>
    ⟨StHas.keep O8.out (agree h (by omega)), (h.block _ (by omega)).trans G8.out, U8.out.trans (h.mono (by omega))⟩
  clear O8 G8 U8 KC KB
  have T8 := KD.out _ (Below.refl _ _)
  have x8 := fun o => row_cell T8.2.1 o
  have s8 := fun o => row_cell (KA.out _ T8.2.2).2.1 o
  clear T8
  go_wp2_with fail
  have T8 := KD.out _ (Below.refl _ _)
  refine (eq_store aG aS cG cS m nr _ (ChRow.wide T8.1.row (Nat.zero_le _) (by omega)) (KA.out _ T8.2.2).1 HF.out).mono ?_
  clear T8 x8 s8
  rintro e w9' ⟨rfl, hb9⟩
  have Q9 : Hid (Below w8.heap.size w8 w9') := hb9
  have z9' := hb9.size
  have x9 := fun o => row_cell (KD.out _ hb9).2.1 o
  clear hb9
  go_wp2_with fail
  clear x9
  refine (mark_has aG _ m nr w5.heap.size w6.heap.size bG 1 _ (KD.out _ Q9.out).1 HF.out (by omega) (by omega) (by omega) (by omega)).mono ?_
  rintro e wA ⟨rA, rfl, hrA, mA, kA⟩
  have zA := kA.size
  have MA : Hid (StMkd w5.heap.size w6.heap.size wA aG m bG 1) := mA
  have GA : Hid (wA.heap[w6.heap.size]? = some (.cells #[.slice aG m.length cG, .int .i64 nr] 30 (0, 0))) := (kA.block _ (by omega) (by omega)).trans (KD.out _ Q9.out).2.1
  have UA : Hid (Below va.heap.size va wA) := (KD.out _ Q9.out).2.2.trans (kA.below (by omega) (by omega))
  have HRA : Hid (rA = 1 + 2 * sizeN m) := hrA
  clear mA kA KD hrA
  have KE : Hid (∀ W, Below wA.heap.size wA W → StMkd w5.heap.size w6.heap.size W aG m bG 1 ∧ W.heap[w6.heap.size]? = some (.cells #[.slice aG m.length cG, .int .i64 nr] 30 (0, 0)) ∧ Below va.heap.size va W) := fun W h =>
    ⟨StMkd.keep MA.out (agree h (by omega)), (h.block _ (by omega)).trans GA.out, UA.out.trans (h.mono (by omega))⟩
  have xA := fun o => row_cell GA.out o
  clear MA GA UA
  go_wp2_with fail
  clear xA
  refine (held_has aG _ m nr w5.heap.size w6.heap.size bG 1 _ (KE.out _ (Below.refl _ _)).1 HF.out (by omega) (by omega) (by omega) (by omega)).mono ?_
  rintro e wB ⟨rB, rfl, hrB, hbB⟩
  obtain rfl : rA = rB := by rw [hrB]; exact HRA.out
  have hrp : ¬ rA < 0 := by have := HRA.out; omega
  have QB : Hid (Below wA.heap.size wA wB) := hbB
  have zB := hbB.size
  have cB := fun o => row_cell (KA.out _ (KE.out _ hbB).2.2).2.2.1 o
  clear hrB hbB
  go_wp2_with fail
  clear cB
  refine (to_store a c l now _ (K0.out _ (KA.out _ (KE.out _ QB.out).2.2).2.2.2) HE.out).mono ?_
  rintro e wC' ⟨aC, bC, rfl, rC, hbC⟩
  have RC0 : Hid (ChRow 0 wC'.heap.size wC' aC l) := ChRow.wide rC.row (Nat.zero_le _) (Nat.le_refl _)
  have QC0 : Hid (Below wA.heap.size wA wC') := QB.out.trans (hbC.mono (by omega))
  have zC0 := hbC.size
  clear rC hbC QB
  go_wp2_with fail
  refine (to_Pus pa pc ps _ (KP.out _ (KA.out _ (KE.out _ QC0.out).2.2).2.2.2) hpl).mono ?_
  rintro e wC ⟨rfl, pkC, hbC⟩
  have zC := hbC.size
  have RC : Hid (ChRow 0 wC.heap.size wC aC l) := ChRow.up RC0.out hbC
  have RCP : Hid (VeRow 0 wC.heap.size wC (some ⟨wC'.heap.size, 0, none⟩) ps) := pkC.row (Nat.zero_le _) pkC.lt
  have QC : Hid (Below wA.heap.size wA wC) := QC0.out.trans (hbC.mono (by omega))
  clear pkC hbC QC0 RC0
  go_wp2_with fail
  refine (impl_wa aC _ _ _ l ps now _ RC.out RCP.out HE.out hpl HY.out).mono ?_
  rintro e wD' ⟨aH, cH, bH, rfl, rD, hbD⟩
  have RD : Hid (ChRow 0 wD'.heap.size wD' aH m) := ChRow.wide rD.row (Nat.zero_le _) (Nat.le_refl _)
  have QD : Hid (Below wA.heap.size wA wD') := QC.out.trans (hbD.mono (by omega))
  have zD' := hbD.size
  have AD := (KA.out _ (KE.out _ QD.out).2.2).2.1
  have p0 := fun ob => (World.cell?_alloc_past (w := wD') ob w3.heap.size 0 (by omega)).trans (row_cell AD 0)
  have p1 := fun ob => (World.cell?_alloc_past (w := wD') ob w3.heap.size 1 (by omega)).trans (row_cell AD 1)
  clear rD hbD QC RC RCP AD
  go_wp2_with fail
  clear p0 p1
  obtain ⟨vd, hvd⟩ : ∃ W, W = wD'.alloc (.cells #[.slice aH m.length cH, .int .i64 nr] 30) := ⟨_, rfl⟩
  rw [← hvd]
  have zvd : vd.heap.size = wD'.heap.size + 1 := by rw [hvd]; simp
  have bvd : Below wD'.heap.size wD' vd := by rw [hvd]; exact (Below.refl _ _).alloc (Nat.le_refl _) _
  have cvd : vd.heap[wD'.heap.size]? = some (.cells #[.slice aH m.length cH, .int .i64 nr] 30 (0, 0)) := by rw [hvd]; exact heap_alloc_new _ _
  have Qd : Hid (Below wA.heap.size wA vd) := QD.out.trans (bvd.mono (by omega))
  have Rd : Hid (ChRow 0 vd.heap.size vd aH m) := ChRow.up RD.out bvd
  clear hvd cvd bvd QD RD
  refine (eq_store aH aS cH cS m nr _ Rd.out (KA.out _ (KE.out _ Qd.out).2.2).1 HF.out).mono ?_
  rintro e wE' ⟨rfl, hbE⟩
  have QE : Hid (Below wA.heap.size wA wE') := Qd.out.trans (hbE.mono (by omega))
  have zE' := hbE.size
  have xE := fun o => row_cell (KE.out _ QE.out).2.1 o
  clear hbE Qd Rd
  go_wp2_with fail
  clear xE
  refine (held_has aG _ m nr w5.heap.size w6.heap.size bG 1 _ (KE.out _ QE.out).1 HF.out (by omega) (by omega) (by omega) (by omega)).mono ?_
  rintro e wF ⟨rF, rfl, hrF, hbF⟩
  obtain rfl : rA = rF := by rw [hrF]; exact HRA.out
  have QF : Hid (Below w.heap.size w wF) := (KA.out _ (KE.out _ (QE.out.trans (hbF.mono (by omega)))).2.2).2.2.2
  clear hrF hbF
  go_wp2_with fail
  go_ret
  exact ⟨rfl, QF.out⟩

set_option maxRecDepth 100000 in
theorem lifted (os : Os) (started : os.Started) (H : Type) (enc : TypeId × Value → H) :
    ReturnsInHanded {} Try.checked os 3 .any (Rows.fnExactWriteAllSpec.pre6 enc Try.prog Try.f3 Rows.fnExactWriteAllRow.domain false) (Rows.fnExactWriteAllSpec.post enc Try.prog Try.f3 false true false false) := by
  refine returnsInHanded_of_change (C := Try.checked) own started (by kernel_rfl) Try.func3
    (ChangeSpec.witness6 (enc := enc) (C := Try.checked) false ⟨#[], #[.agg #[.slice none 0 0, .int .i64 0], .slice none 0 0], []⟩ 8 (by kernel_rfl) (by kernel_rfl) (by kernel_rfl) (by kernel_rfl)) ?_
  intro W base args ds gs before hval0 hW hcnd _
  have hval : ∀ (j : Nat) t v, Try.f3.params[j]? = some t → args[j]? = some v → Value.okWide Try.prog W .any base t v := hval0
  have hW' := hW
  obtain ⟨p, q, hA0, hV, rfl, hfz, hnd⟩ := hW
  have hA : DataW.TrodAll enc Try.prog W 0 (fun _ => true) true Try.f3.params.toList args.toList ds p := hA0
  rw [Try.params3] at hA hval
  obtain ⟨v0, vs0, d0, ds0, p0, q0, hargs, rfl, rfl, h0, r0⟩ := trodAll_cons hA
  obtain ⟨v1, vs1, d1, ds1, p1, q1, rfl, rfl, rfl, h1, r1⟩ := trodAll_cons r0
  obtain ⟨rfl, rfl, rfl⟩ := trodAll_nil r1
  obtain rfl : args = #[v0, v1] := by cases args; simp_all
  obtain ⟨rfl, rfl⟩ := trodVars_none hV
  have g0 := h0
  have lt0 : ∀ x ∈ p0, x.block < W.heap.size := by obtain ⟨m, hm⟩ := g0; exact DataW.trod_lt m _ _ _ hm
  obtain ⟨a0, c0, l0, n0, rfl, hb0, hr0⟩ : ∃ a c, ∃ l : Chs, ∃ n : Int, v0 = .agg #[.slice a l.length c, .int .i64 n] ∧ ChsBd maxLen l ∧ ChRow 0 W.heap.size W a l := by
    obtain ⟨cs, rfl, hsz⟩ := okWide_struct Try.underlying24 (hval 0 24 v0 rfl rfl)
    obtain ⟨fuel, hf⟩ := h0
    obtain ⟨y0, y1, n, hx, hlen, h1, h2⟩ := trod_struct2 Try.underlying24 hf
    have cd : Try.prog.cellsOf 24 = 2 := by kernel_rfl
    have c1 : Try.prog.cellsOf 22 = 1 := by kernel_rfl
    have ci : Try.prog.cellsOf 3 = 1 := by kernel_rfl
    obtain ⟨u⟩ := cs
    have hu : u.length = 2 := by rw [cd] at hsz; simpa using hsz
    obtain ⟨q0, q1, rfl⟩ := listTwo hu
    obtain ⟨a, c, l, e, hb, hr⟩ := Chs_open (by simpa [Value.cells, c1] using h1)
    obtain ⟨z, e2, _, _⟩ := DataW.trod_int Try.underlying3 h2
    simp [Value.cells, ci] at e e2
    subst e e2
    exact ⟨a, c, l, z, rfl, hb, hr⟩
  have g1 := h1
  have lt1 : ∀ x ∈ p1, x.block < W.heap.size := by obtain ⟨m, hm⟩ := g1; exact DataW.trod_lt m _ _ _ hm
  obtain ⟨a1, c1, l1, rfl, hb1, hr1⟩ : ∃ a c, ∃ l : List Ve, v1 = .slice a l.length c ∧ l.length ≤ maxLen ∧ VeRow 0 W.heap.size W a l := by
    obtain ⟨a, len, cap, rfl⟩ := okWide_slice Try.underlying25 (hval 1 25 v1 rfl rfl)
    obtain ⟨fuel, hf⟩ := h1
    obtain ⟨a', c', l, e, _, h2, h3⟩ := Pus_open (by simpa [Value.cells] using hf)
    simp only [List.cons.injEq, and_true] at e
    exact ⟨a', c', l, e, h2, h3⟩
  clear hA0 hval0
  refine (walk a0 c0 l0 n0 a1 c1 l1 W hr0 hb0 hr1 hb1).mono fun e W' ⟨he, bel⟩ => ?_
  subst he
  exact ⟨_, rfl, _, _, _, [], _, [], hW', trodAll_mk1 (shut_bool Try.underlying4 _), (trodAll_cons_mk (Below.trod laidOut (by kernel_rfl) (of_decide_eq_true (by kernel_rfl)) g0 bel lt0) (trodAll_cons_mk (Below.trod laidOut (by kernel_rfl) (of_decide_eq_true (by kernel_rfl)) g1 bel lt1) trodAll_mk0)), rfl, bel.frame _, fun h => by cases h⟩

theorem over : Rows.fnExactWriteAllRow.holds Try.pinned (OpenSpec.ofChange Rows.fnExactWriteAllSpec) :=
  OpenClaim.holds_of_wide 3 Try.f3 rfl rfl rfl rfl rfl rfl rfl ⟨rfl, rfl, rfl, rfl, rfl⟩ rfl rfl rfl rfl rfl (by kernel_rfl) Try.func3 (by kernel_rfl)
    (of_decide_eq_true (by kernel_rfl)) (by unfold Func.isWrapper; first | (rw [if_pos (by decide +kernel)]; kernel_rfl) | (rw [if_neg (by decide +kernel)]; exact ⟨rfl, rfl⟩))
    (fun os started H enc _ => lifted os started H enc)
end Go.Proofs.Ytdoopifjgbhdjaa.fnExactWriteAll
namespace Go.Proofs.Ytdoopifjgbhdjaa
theorem writeAll_holds : Rows.FnExactWriteAllSaid := fnExactWriteAll.over
#print axioms writeAll_holds
end Go.Proofs.Ytdoopifjgbhdjaa
