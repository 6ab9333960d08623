/- Proved: at every two values the law FnExactSameOut returns true, and its arguments read afterwards as they read before. No conditions beyond the row's own. -/
import Derived.Test.YtjmkcbjfjejaaaaOuSameTwo
import Derived.Test.YtjmkcbjfjejaaaaOuSz
import Derived.Test.YtjmkcbjfjejaaaaOuTo
import Derived.Test.YtjmkcbjfjejaaaaOuEq
import Derived.WalkKit
import Derived.ProofKit
import Derived.OpenShut
import Derived.ShutString
import Derived.ChangeOld
import Derived.Below
import Derived.Lib.SmallJoins
namespace Go.Proofs.Ytjmkcbjfjejaaaa.fnExactSameOut
open Go.ChangeShapes Go.WideShapes Go.ChangeAt Go.RowKit
open Go.ChangeMaps (open_string shut_string)
open Go.Proofs.Ytjmkcbjfjejaaaa.G
set_option linter.unusedVariables false

theorem own : ownKnob Try.prog.godebug = none := by kernel_rfl
theorem laidOut : laidOutB Try.prog = true := by kernel_rfl

set_option maxHeartbeats 16000000 in
set_option maxRecDepth 40000 in
theorem walk (h h' : Oh) (sub sub' : Ous) (a1 a2 b1 b2 : Option Addr) (c1 c2 d1 d2 : Nat) (w : World) (hr : KeRow 0 w.heap.size w a1 h.keys) (hq : OuRow 0 w.heap.size w a2 sub) (hr' : KeRow 0 w.heap.size w b1 h'.keys) (hq' : OuRow 0 w.heap.size w b2 sub') (hb : OhBd maxLen h) (hl : sub.len ≤ maxLen) (hs : OusBd maxLen sub) (hb' : OhBd maxLen h') (hl' : sub'.len ≤ maxLen) (hs' : OusBd maxLen sub') :
    Calls Try.prog 4 #[.agg #[.int .i64 h.k, .int .i64 h.n, .string h.t, .slice a1 h.keys.length c1, .slice a2 sub.len c2], .agg #[.int .i64 h'.k, .int .i64 h'.n, .string h'.t, .slice b1 h'.keys.length d1, .slice b2 sub'.len d2]] w fun e w' => e = .returned (.bool true) ∧ Below w.heap.size w w' := by
  have B0 : Hid (Below w.heap.size w ((w.alloc (.cells #[.int .i64 h.k, .int .i64 h.n, .string h.t, .slice a1 h.keys.length c1, .slice a2 sub.len c2] 25)).alloc (.cells #[.int .i64 h'.k, .int .i64 h'.n, .string h'.t, .slice b1 h'.keys.length d1, .slice b2 sub'.len d2] 25))) := ((Below.refl _ _).alloc (Nat.le_refl _) _).alloc (by simp) _
  have K0 : Hid (∀ W0, Below w.heap.size w W0 → (KeRow 0 W0.heap.size W0 a1 h.keys ∧ OuRow 0 W0.heap.size W0 a2 sub) ∧ (KeRow 0 W0.heap.size W0 b1 h'.keys ∧ OuRow 0 W0.heap.size W0 b2 sub')) := fun W0 hB => ⟨⟨KeRow.up hr hB, OuRow.up hq hB⟩, ⟨KeRow.up hr' hB, OuRow.up hq' hB⟩⟩
  have HD : Hid (OhBd maxLen h ∧ OusBd maxLen sub) := ⟨hb, hs⟩
  have HD' : Hid (OhBd maxLen h' ∧ OusBd maxLen sub') := ⟨hb', hs'⟩
  have E0 : Hid (((w.alloc (.cells #[.int .i64 h.k, .int .i64 h.n, .string h.t, .slice a1 h.keys.length c1, .slice a2 sub.len c2] 25)).alloc (.cells #[.int .i64 h'.k, .int .i64 h'.n, .string h'.t, .slice b1 h'.keys.length d1, .slice b2 sub'.len d2] 25)).heap[w.heap.size + 1]? = some (.cells #[.int .i64 h'.k, .int .i64 h'.n, .string h'.t, .slice b1 h'.keys.length d1, .slice b2 sub'.len d2] 25 (0, 0))) := by have := heap_alloc_new (w.alloc (.cells #[.int .i64 h.k, .int .i64 h.n, .string h.t, .slice a1 h.keys.length c1, .slice a2 sub.len c2] 25)) (.cells #[.int .i64 h'.k, .int .i64 h'.n, .string h'.t, .slice b1 h'.keys.length d1, .slice b2 sub'.len d2] 25 (0, 0)); unfold Hid; simpa using this
  have C0 : Hid (((w.alloc (.cells #[.int .i64 h.k, .int .i64 h.n, .string h.t, .slice a1 h.keys.length c1, .slice a2 sub.len c2] 25)).alloc (.cells #[.int .i64 h'.k, .int .i64 h'.n, .string h'.t, .slice b1 h'.keys.length d1, .slice b2 sub'.len d2] 25)).heap[w.heap.size]? = some (.cells #[.int .i64 h.k, .int .i64 h.n, .string h.t, .slice a1 h.keys.length c1, .slice a2 sub.len c2] 25 (0, 0))) := (Below.heap_alloc _ _ _ (by simp)).trans (heap_alloc_new _ _)
  have z0 : w.heap.size + 2 ≤ ((w.alloc (.cells #[.int .i64 h.k, .int .i64 h.n, .string h.t, .slice a1 h.keys.length c1, .slice a2 sub.len c2] 25)).alloc (.cells #[.int .i64 h'.k, .int .i64 h'.n, .string h'.t, .slice b1 h'.keys.length d1, .slice b2 sub'.len d2] 25)).heap.size := by simp
  clear hr hr' hb hb' hq hq' hs hs'
  go_enter Try.func4, Try.ntmps4
  go_wp2_with fail
  generalize ((w.alloc (.cells #[.int .i64 h.k, .int .i64 h.n, .string h.t, .slice a1 h.keys.length c1, .slice a2 sub.len c2] 25)).alloc (.cells #[.int .i64 h'.k, .int .i64 h'.n, .string h'.t, .slice b1 h'.keys.length d1, .slice b2 sub'.len d2] 25)) = w0 at *
  refine (sz_out h sub (sz_ous sub) a1 a2 c1 c2 1048576 _ (K0.out _ B0.out).1.1 (K0.out _ B0.out).1.2 HD.out.1 hl HD.out.2 (by omega) (by omega)).mono ?_
  rintro e w1 ⟨m, rfl, hm, hb1⟩
  have HM : Hid (Sz 1048576 m (OhBd 1048576 h ∧ sub.len ≤ 1048576 ∧ OusBd 1048576 sub)) := hm
  have hm1 := hm.1
  clear hm
  have z1 : w.heap.size + 2 ≤ w1.heap.size := by have := hb1.size; omega
  have q1 : Hid (Below w.heap.size w w1) := B0.out.trans (hb1.mono (by omega))
  have C1 : Hid (w1.heap[w.heap.size]? = some (.cells #[.int .i64 h.k, .int .i64 h.n, .string h.t, .slice a1 h.keys.length c1, .slice a2 sub.len c2] 25 (0, 0))) := (hb1.block _ (show w.heap.size < w0.heap.size by omega)).trans C0.out
  have E1 : Hid (w1.heap[w.heap.size + 1]? = some (.cells #[.int .i64 h'.k, .int .i64 h'.n, .string h'.t, .slice b1 h'.keys.length d1, .slice b2 sub'.len d2] 25 (0, 0))) := (hb1.block _ (show w.heap.size + 1 < w0.heap.size by omega)).trans E0.out
  have c1c := fun o => row_cell C1.out o
  have e1c := fun o => row_cell E1.out o
  clear hb1 C0 E0 z0
  by_cases hneg : m < 0
  · go_wp2_with fail
    go_ret
    exact ⟨rfl, q1.out⟩
  have HE : Hid (OhBd 1048576 h ∧ sub.len ≤ 1048576 ∧ OusBd 1048576 sub) := HM.out.2.2 (by omega)
  clear HM
  go_wp2_with fail
  refine (sz_out h' sub' (sz_ous sub') b1 b2 d1 d2 m _ (K0.out _ q1.out).2.1 (K0.out _ q1.out).2.2 HD'.out.1 hl' HD'.out.2 (by omega) (by omega)).mono ?_
  rintro e w2 ⟨m', rfl, hm', hb2⟩
  have HM : Hid (Sz m m' (OhBd 1048576 h' ∧ sub'.len ≤ 1048576 ∧ OusBd 1048576 sub')) := hm'
  clear hm' c1c e1c
  have z2 : w.heap.size + 2 ≤ w2.heap.size := by have := hb2.size; omega
  have q2 : Hid (Below w.heap.size w w2) := q1.out.trans (hb2.mono (by omega))
  have C2 : Hid (w2.heap[w.heap.size]? = some (.cells #[.int .i64 h.k, .int .i64 h.n, .string h.t, .slice a1 h.keys.length c1, .slice a2 sub.len c2] 25 (0, 0))) := (hb2.block _ (show w.heap.size < w1.heap.size by omega)).trans C1.out
  have E2 : Hid (w2.heap[w.heap.size + 1]? = some (.cells #[.int .i64 h'.k, .int .i64 h'.n, .string h'.t, .slice b1 h'.keys.length d1, .slice b2 sub'.len d2] 25 (0, 0))) := (hb2.block _ (show w.heap.size + 1 < w1.heap.size by omega)).trans E1.out
  have c2c := fun o => row_cell C2.out o
  have e2c := fun o => row_cell E2.out o
  clear hb2 C1 E1 z1
  by_cases hneg' : m' < 0
  · go_wp2_with fail
    go_ret
    exact ⟨rfl, q2.out⟩
  have HE' : Hid (OhBd 1048576 h' ∧ sub'.len ≤ 1048576 ∧ OusBd 1048576 sub') := HM.out.2.2 (by omega)
  clear HM
  go_wp2_with fail
  go_cut [6] from 20 to 24 (fun u wx => u = .bool (sameO h sub h' sub') ∧ w.heap.size + 2 ≤ wx.heap.size ∧ Hid (Below w.heap.size w wx) ∧ Hid (wx.heap[w.heap.size]? = some (.cells #[.int .i64 h.k, .int .i64 h.n, .string h.t, .slice a1 h.keys.length c1, .slice a2 sub.len c2] 25 (0, 0))) ∧ Hid (wx.heap[w.heap.size + 1]? = some (.cells #[.int .i64 h'.k, .int .i64 h'.n, .string h'.t, .slice b1 h'.keys.length d1, .slice b2 sub'.len d2] 25 (0, 0))))
  case first =>
   go_region_with (first
    | (go_at_call_of 8 sub
       refine Calls.mono (to_out h sub (to_ous sub) a1 a2 c1 c2 _ (K0.out _ ?hb).1.1 (K0.out _ ?hb).1.2 HE.out.1 HE.out.2.1 HE.out.2.2) ?_
       case hb => exact q2.out.drew
       rintro e w3 ⟨x3, y3, rfl, r3, s3, hb3⟩
       have R3 : Hid (∀ W0, Below w3.heap.size w3 W0 → KeRow 0 W0.heap.size W0 x3 h.keys ∧ OuRow 0 W0.heap.size W0 y3 sub) := fun W0 hB => ⟨KeRow.up (KeRow.wide r3 (Nat.zero_le _) (Nat.le_refl _)) hB, OuRow.up (OuRow.wide s3 (Nat.zero_le _) (Nat.le_refl _)) hB⟩
       have z3 : w.heap.size + 2 ≤ w3.heap.size := by have := hb3.size; have : w2.drew.heap.size = w2.heap.size := rfl; omega
       have q3 : Hid (Below w.heap.size w w3) := q2.out.drew.trans (hb3.mono (by have : w2.drew.heap.size = w2.heap.size := rfl; omega))
       have C3 : Hid (w3.heap[w.heap.size]? = some (.cells #[.int .i64 h.k, .int .i64 h.n, .string h.t, .slice a1 h.keys.length c1, .slice a2 sub.len c2] 25 (0, 0))) := (hb3.block _ (show w.heap.size < w2.heap.size by omega)).trans C2.out
       have E3 : Hid (w3.heap[w.heap.size + 1]? = some (.cells #[.int .i64 h'.k, .int .i64 h'.n, .string h'.t, .slice b1 h'.keys.length d1, .slice b2 sub'.len d2] 25 (0, 0))) := (hb3.block _ (show w.heap.size + 1 < w2.heap.size by omega)).trans E2.out
       have c3c := fun o => row_cell C3.out o
       have e3c := fun o => row_cell E3.out o
       clear r3 s3)
    | (go_at_call_of 8 sub'
       refine Calls.mono (to_out h' sub' (to_ous sub') b1 b2 d1 d2 _ (K0.out _ ?hb).2.1 (K0.out _ ?hb).2.2 HE'.out.1 HE'.out.2.1 HE'.out.2.2) ?_
       case hb => exact q3.out
       rintro e w4 ⟨x4, y4, rfl, r4, s4, hb4⟩
       have R4 : Hid (∀ W0, Below w4.heap.size w4 W0 → KeRow 0 W0.heap.size W0 x4 h'.keys ∧ OuRow 0 W0.heap.size W0 y4 sub') := fun W0 hB => ⟨KeRow.up (KeRow.wide r4 (Nat.zero_le _) (Nat.le_refl _)) hB, OuRow.up (OuRow.wide s4 (Nat.zero_le _) (Nat.le_refl _)) hB⟩
       have z4 : w.heap.size + 2 ≤ w4.heap.size := by have := hb4.size; omega
       have q4 : Hid (Below w.heap.size w w4) := q3.out.trans (hb4.mono (by omega))
       have C4 : Hid (w4.heap[w.heap.size]? = some (.cells #[.int .i64 h.k, .int .i64 h.n, .string h.t, .slice a1 h.keys.length c1, .slice a2 sub.len c2] 25 (0, 0))) := (hb4.block _ (show w.heap.size < w3.heap.size by omega)).trans C3.out
       have E4 : Hid (w4.heap[w.heap.size + 1]? = some (.cells #[.int .i64 h'.k, .int .i64 h'.n, .string h'.t, .slice b1 h'.keys.length d1, .slice b2 sub'.len d2] 25 (0, 0))) := (hb4.block _ (show w.heap.size + 1 < w3.heap.size by omega)).trans E3.out
       have c4c := fun o => row_cell C4.out o
       have e4c := fun o => row_cell E4.out o
       clear r4 s4)
    | (go_at_call 11
       refine Calls.mono (spec_sameOut h h' sub sub' x3 y3 x4 y4 _ _ _ _ _ (R3.out _ hb4).1 (R3.out _ hb4).2 (R4.out _ (Below.refl _ _)).1 (R4.out _ (Below.refl _ _)).2 ⟨Nat.le_refl _, HE.out⟩ ⟨Nat.le_refl _, HE'.out⟩) ?_
       rintro e w5 ⟨rfl, hb5⟩
       have z5 : w.heap.size + 2 ≤ w5.heap.size := by have := hb5.size; omega
       have q5 : Hid (Below w.heap.size w w5) := q4.out.trans (hb5.mono (by omega))
       have C5 : Hid (w5.heap[w.heap.size]? = some (.cells #[.int .i64 h.k, .int .i64 h.n, .string h.t, .slice a1 h.keys.length c1, .slice a2 sub.len c2] 25 (0, 0))) := (hb5.block _ (show w.heap.size < w4.heap.size by omega)).trans C4.out
       have E5 : Hid (w5.heap[w.heap.size + 1]? = some (.cells #[.int .i64 h'.k, .int .i64 h'.n, .string h'.t, .slice b1 h'.keys.length d1, .slice b2 sub'.len d2] 25 (0, 0))) := (hb5.block _ (show w.heap.size + 1 < w4.heap.size by omega)).trans E4.out
       have c5c := fun o => row_cell C5.out o
       have e5c := fun o => row_cell E5.out o
       skip))
   all_goals
    clear R3 R4 hb3 hb4 hb5 c2c c3c c4c e2c e3c e4c C2 C3 C4 E2 E3 E4
    try go_wp2_with fail
    go_meet
    exact ⟨rfl, z5, q5, C5, E5⟩
  obtain ⟨w5, rfl⟩ : ∃ x, x = wc := ⟨_, rfl⟩
  obtain ⟨rfl, z5, q5, C5, E5⟩ := hcut
  have c5c := fun o => row_cell C5.out o
  have e5c := fun o => row_cell E5.out o
  clear c2c e2c C2 E2 z2
  go_wp2_with fail
  refine (to_out h sub (to_ous sub) a1 a2 c1 c2 _ (K0.out _ q5.out).1.1 (K0.out _ q5.out).1.2 HE.out.1 HE.out.2.1 HE.out.2.2).mono ?_
  rintro e w6 ⟨x6, y6, rfl, r6, s6, hb6⟩
  have R6 : Hid (∀ W0, Below w6.heap.size w6 W0 → KeRow 0 W0.heap.size W0 x6 h.keys ∧ OuRow 0 W0.heap.size W0 y6 sub) := fun W0 hB => ⟨KeRow.up (KeRow.wide r6 (Nat.zero_le _) (Nat.le_refl _)) hB, OuRow.up (OuRow.wide s6 (Nat.zero_le _) (Nat.le_refl _)) hB⟩
  have z6 : w.heap.size + 2 ≤ w6.heap.size := by have := hb6.size; omega
  have q6 : Hid (Below w.heap.size w w6) := q5.out.trans (hb6.mono (by omega))
  have C6 : Hid (w6.heap[w.heap.size]? = some (.cells #[.int .i64 h.k, .int .i64 h.n, .string h.t, .slice a1 h.keys.length c1, .slice a2 sub.len c2] 25 (0, 0))) := (hb6.block _ (show w.heap.size < w5.heap.size by omega)).trans C5.out
  have E6 : Hid (w6.heap[w.heap.size + 1]? = some (.cells #[.int .i64 h'.k, .int .i64 h'.n, .string h'.t, .slice b1 h'.keys.length d1, .slice b2 sub'.len d2] 25 (0, 0))) := (hb6.block _ (show w.heap.size + 1 < w5.heap.size by omega)).trans E5.out
  have c6c := fun o => row_cell C6.out o
  have e6c := fun o => row_cell E6.out o
  clear hb6 r6 s6 c5c e5c C5 E5
  have zz6 : w.heap.size < w6.heap.size := by omega
  have zy6 : w.heap.size + 1 < w6.heap.size := by omega
  have e6a := fun ob o => (((Below.refl w6.heap.size w6).alloc (Nat.le_refl _) ob).cell (p := ⟨w.heap.size + 1, o, none⟩) zy6).trans (e6c o)
  go_wp2_with fail
  have S6 : Hid (Below w.heap.size w (w6.alloc (.cells #[.int .i64 h.k, .int .i64 h.n, .string h.t, .slice x6 h.keys.length h.keys.length, .slice y6 sub.len sub.len] 30))) := q6.out.alloc (by omega) _
  refine (to_out h' sub' (to_ous sub') b1 b2 d1 d2 _ (K0.out _ S6.out).2.1 (K0.out _ S6.out).2.2 HE'.out.1 HE'.out.2.1 HE'.out.2.2).mono ?_
  rintro e w7 ⟨x7, y7, rfl, r7, s7, hb7⟩
  have R7 : Hid (∀ W0, Below w7.heap.size w7 W0 → KeRow 0 W0.heap.size W0 x7 h'.keys ∧ OuRow 0 W0.heap.size W0 y7 sub') := fun W0 hB => ⟨KeRow.up (KeRow.wide r7 (Nat.zero_le _) (Nat.le_refl _)) hB, OuRow.up (OuRow.wide s7 (Nat.zero_le _) (Nat.le_refl _)) hB⟩
  have z7 : w6.heap.size + 1 ≤ w7.heap.size := size_one hb7
  have p7 : Hid (Below w6.heap.size w6 w7) := below_one hb7
  have X7 : Hid (w7.heap[w6.heap.size]? = some (.cells #[.int .i64 h.k, .int .i64 h.n, .string h.t, .slice x6 h.keys.length h.keys.length, .slice y6 sub.len sub.len] 30 (0, 0))) := (hb7.block _ (by simp)).trans (heap_alloc_new _ _)
  have C7 : Hid (w7.heap[w.heap.size]? = some (.cells #[.int .i64 h.k, .int .i64 h.n, .string h.t, .slice a1 h.keys.length c1, .slice a2 sub.len c2] 25 (0, 0))) := (p7.out.block _ zz6).trans C6.out
  have E7 : Hid (w7.heap[w.heap.size + 1]? = some (.cells #[.int .i64 h'.k, .int .i64 h'.n, .string h'.t, .slice b1 h'.keys.length d1, .slice b2 sub'.len d2] 25 (0, 0))) := (p7.out.block _ zy6).trans E6.out
  have q7 : Hid (Below w.heap.size w w7) := q6.out.trans (p7.out.mono (by omega))
  have zz7 : w6.heap.size < w7.heap.size := by omega
  have x7c := fun o => row_cell X7.out o
  have x7a := fun ob o => (((Below.refl w7.heap.size w7).alloc (Nat.le_refl _) ob).cell (p := ⟨w6.heap.size, o, none⟩) zz7).trans (x7c o)
  clear hb7 r7 s7 c6c e6c e6a C6 E6
  go_wp2_with fail
  have S7 : Hid (Below w7.heap.size w7 (w7.alloc (.cells #[.int .i64 h'.k, .int .i64 h'.n, .string h'.t, .slice x7 h'.keys.length h'.keys.length, .slice y7 sub'.len sub'.len] 30))) := (Below.refl _ _).alloc (Nat.le_refl _) _
  refine (impl_sameOut h h' sub sub' x6 y6 x7 y7 _ _ _ _ _ (R6.out _ (p7.out.trans (S7.out.mono (by omega)))).1 (R6.out _ (p7.out.trans (S7.out.mono (by omega)))).2 (R7.out _ S7.out).1 (R7.out _ S7.out).2 ⟨Nat.le_refl _, HE.out⟩ ⟨Nat.le_refl _, HE'.out⟩).mono ?_
  rintro e w8 ⟨rfl, hb8⟩
  have z8 : w7.heap.size + 1 ≤ w8.heap.size := size_one hb8
  have p8 : Hid (Below w7.heap.size w7 w8) := below_one hb8
  have Y8 : Hid (w8.heap[w7.heap.size]? = some (.cells #[.int .i64 h'.k, .int .i64 h'.n, .string h'.t, .slice x7 h'.keys.length h'.keys.length, .slice y7 sub'.len sub'.len] 30 (0, 0))) := (hb8.block _ (by simp)).trans (heap_alloc_new _ _)
  have X8 : Hid (w8.heap[w6.heap.size]? = some (.cells #[.int .i64 h.k, .int .i64 h.n, .string h.t, .slice x6 h.keys.length h.keys.length, .slice y6 sub.len sub.len] 30 (0, 0))) := (p8.out.block _ zz7).trans X7.out
  have C8 : Hid (w8.heap[w.heap.size]? = some (.cells #[.int .i64 h.k, .int .i64 h.n, .string h.t, .slice a1 h.keys.length c1, .slice a2 sub.len c2] 25 (0, 0))) := (p8.out.block _ (show w.heap.size < w7.heap.size by omega)).trans C7.out
  have E8 : Hid (w8.heap[w.heap.size + 1]? = some (.cells #[.int .i64 h'.k, .int .i64 h'.n, .string h'.t, .slice b1 h'.keys.length d1, .slice b2 sub'.len d2] 25 (0, 0))) := (p8.out.block _ (show w.heap.size + 1 < w7.heap.size by omega)).trans E7.out
  have q8 : Hid (Below w.heap.size w w8) := q7.out.trans (p8.out.mono (by omega))
  have t8 : Hid (Below w6.heap.size w6 w8) := p7.out.trans (p8.out.mono (by omega))
  have x8c := fun o => row_cell X8.out o
  have c8c := fun o => row_cell C8.out o
  clear hb8 x7c x7a X7 C7 E7
  generalize sameO h sub h' sub' = BB
  go_wp2_with fail
  go_cut [39] from 35 to 39 (fun u wx => u = .bool false ∧ w8.heap.size ≤ wx.heap.size ∧ Hid (Below w8.heap.size w8 wx) ∧ Hid (wx.heap[w7.heap.size]? = some (.cells #[.int .i64 h'.k, .int .i64 h'.n, .string h'.t, .slice x7 h'.keys.length h'.keys.length, .slice y7 sub'.len sub'.len] 30 (0, 0))) ∧ Hid (wx.heap[w.heap.size + 1]? = some (.cells #[.int .i64 h'.k, .int .i64 h'.n, .string h'.t, .slice b1 h'.keys.length d1, .slice b2 sub'.len d2] 25 (0, 0))))
  case first =>
   go_region_with (first
    | (go_at_call 8
       refine Calls.mono (to_out h sub (to_ous sub) a1 a2 c1 c2 _ (K0.out _ ?hb).1.1 (K0.out _ ?hb).1.2 HE.out.1 HE.out.2.1 HE.out.2.2) ?_
       case hb => exact q8.out.drew
       rintro e w9 ⟨x9, y9, rfl, r9, s9, hb9⟩
       have R9 : Hid (KeRow 0 w9.heap.size w9 x9 h.keys ∧ OuRow 0 w9.heap.size w9 y9 sub) := ⟨KeRow.wide r9 (Nat.zero_le _) (Nat.le_refl _), OuRow.wide s9 (Nat.zero_le _) (Nat.le_refl _)⟩
       have z9 : w8.heap.size ≤ w9.heap.size := hb9.size
       have X9 : Hid (w9.heap[w6.heap.size]? = some (.cells #[.int .i64 h.k, .int .i64 h.n, .string h.t, .slice x6 h.keys.length h.keys.length, .slice y6 sub.len sub.len] 30 (0, 0))) := (hb9.block _ (show w6.heap.size < w8.heap.size by omega)).trans X8.out
       have Y9 : Hid (w9.heap[w7.heap.size]? = some (.cells #[.int .i64 h'.k, .int .i64 h'.n, .string h'.t, .slice x7 h'.keys.length h'.keys.length, .slice y7 sub'.len sub'.len] 30 (0, 0))) := (hb9.block _ (show w7.heap.size < w8.heap.size by omega)).trans Y8.out
       have E9 : Hid (w9.heap[w.heap.size + 1]? = some (.cells #[.int .i64 h'.k, .int .i64 h'.n, .string h'.t, .slice b1 h'.keys.length d1, .slice b2 sub'.len d2] 25 (0, 0))) := (hb9.block _ (show w.heap.size + 1 < w8.heap.size by omega)).trans E8.out
       have x9c := fun o => row_cell X9.out o
       have t9 : Hid (Below w8.heap.size w8 w9) := (Below.refl _ _).drew.trans hb9
       clear r9 s9 hb9)
    | (go_at_call 10
       refine Calls.mono (eq_out h sub (eq_ous sub) x6 y6 x9 y9 _ _ _ _ _ (R6.out _ (t8.out.trans (t9.out.mono (by omega)))).1 (R6.out _ (t8.out.trans (t9.out.mono (by omega)))).2 R9.out.1 R9.out.2 HE.out.1 HE.out.2.1 HE.out.2.2) ?_
       rintro e wa ⟨rfl, hba⟩
       have za : w8.heap.size ≤ wa.heap.size := by have := hba.size; omega
       have ta : Hid (Below w8.heap.size w8 wa) := t9.out.trans (hba.mono z9)
       have YA : Hid (wa.heap[w7.heap.size]? = some (.cells #[.int .i64 h'.k, .int .i64 h'.n, .string h'.t, .slice x7 h'.keys.length h'.keys.length, .slice y7 sub'.len sub'.len] 30 (0, 0))) := (hba.block _ (show w7.heap.size < w9.heap.size by omega)).trans Y9.out
       have EA : Hid (wa.heap[w.heap.size + 1]? = some (.cells #[.int .i64 h'.k, .int .i64 h'.n, .string h'.t, .slice b1 h'.keys.length d1, .slice b2 sub'.len d2] 25 (0, 0))) := (hba.block _ (show w.heap.size + 1 < w9.heap.size by omega)).trans E9.out
       have yac := fun o => row_cell YA.out o
       have eac := fun o => row_cell EA.out o
       clear hba))
   all_goals
    clear x8c x9c c8c R9 X8 X9 Y8 Y9 E8 E9 C8
    try go_wp2_with fail
    go_meet
    exact ⟨rfl, za, ta, YA, EA⟩
  obtain ⟨wa, rfl⟩ : ∃ x, x = wc := ⟨_, rfl⟩
  obtain ⟨rfl, za, ta, YA, EA⟩ := hcut
  have yac := fun o => row_cell YA.out o
  have eac := fun o => row_cell EA.out o
  clear x8c c8c X8 Y8 E8 C8
  go_wp2_with fail
  go_region_with (first
      | (go_at_call 8
         refine Calls.mono (to_out h' sub' (to_ous sub') b1 b2 d1 d2 _ (K0.out _ ?hb).2.1 (K0.out _ ?hb).2.2 HE'.out.1 HE'.out.2.1 HE'.out.2.2) ?_
         case hb => exact (q8.out.trans (ta.out.mono (by omega))).drew
         rintro e wb ⟨xb, yb, rfl, rb, sb, hbb⟩
         have RB : Hid (KeRow 0 wb.heap.size wb xb h'.keys ∧ OuRow 0 wb.heap.size wb yb sub') := ⟨KeRow.wide rb (Nat.zero_le _) (Nat.le_refl _), OuRow.wide sb (Nat.zero_le _) (Nat.le_refl _)⟩
         have zb : wa.heap.size ≤ wb.heap.size := hbb.size
         have YB : Hid (wb.heap[w7.heap.size]? = some (.cells #[.int .i64 h'.k, .int .i64 h'.n, .string h'.t, .slice x7 h'.keys.length h'.keys.length, .slice y7 sub'.len sub'.len] 30 (0, 0))) := (hbb.block _ (show w7.heap.size < wa.heap.size by omega)).trans YA.out
         have ybc := fun o => row_cell YB.out o
         have tb : Hid (Below w8.heap.size w8 wb) := ta.out.drew.trans (hbb.mono za)
         clear rb sb hbb)
      | (go_at_call 10
         refine Calls.mono (eq_out h' sub' (eq_ous sub') x7 y7 xb yb _ _ _ _ _ (R7.out _ (p8.out.trans (tb.out.mono (by omega)))).1 (R7.out _ (p8.out.trans (tb.out.mono (by omega)))).2 RB.out.1 RB.out.2 HE'.out.1 HE'.out.2.1 HE'.out.2.2) ?_
         rintro e wd ⟨rfl, hbc⟩
         have tc : Hid (Below w8.heap.size w8 wd) := tb.out.trans (hbc.mono (by have := tb.out.size; omega))
         clear hbc))
  all_goals
    go_wp2_with fail
    go_ret
    exact ⟨rfl, q8.out.trans (tc.out.mono (by omega))⟩

set_option maxRecDepth 100000 in
theorem lifted (os : Os) (started : os.Started) (H : Type) (enc : TypeId × Value → H) :
    ReturnsInHanded {} Try.checked os 4 .any (Rows.fnExactSameOutSpec.pre6 enc Try.prog Try.f4 Rows.fnExactSameOutRow.domain false) (Rows.fnExactSameOutSpec.post enc Try.prog Try.f4 false true false false) := by
  refine returnsInHanded_of_change (C := Try.checked) own started (by kernel_rfl) Try.func4
    (ChangeSpec.witness6 (enc := enc) (C := Try.checked) false ⟨#[], #[.agg #[.int .i64 0, .int .i64 0, .string ByteArray.empty, .slice none 0 0, .slice none 0 0], .agg #[.int .i64 0, .int .i64 0, .string ByteArray.empty, .slice none 0 0, .slice none 0 0]], []⟩ 8 (by kernel_rfl) (by kernel_rfl) (by kernel_rfl) (by kernel_rfl)) ?_
  intro W base args ds gs before hval0 hW hcnd _
  have hval : ∀ (j : Nat) t v, Try.f4.params[j]? = some t → args[j]? = some v → Value.okWide Try.prog W .any base t v := hval0
  have hW' := hW
  obtain ⟨p, q, hA0, hV, rfl, hfz, hnd⟩ := hW
  have hA : DataW.TrodAll enc Try.prog W 0 (fun _ => true) true Try.f4.params.toList args.toList ds p := hA0
  rw [Try.params4] at hA hval
  obtain ⟨v0, vs0, d0, ds0, p0, q0, hargs, rfl, rfl, h0, r0⟩ := trodAll_cons hA
  obtain ⟨v1, vs1, d1, ds1, p1, q1, rfl, rfl, rfl, h1, r1⟩ := trodAll_cons r0
  obtain ⟨rfl, rfl, rfl⟩ := trodAll_nil r1
  obtain rfl : args = #[v0, v1] := by cases args; simp_all
  obtain ⟨rfl, rfl⟩ := trodVars_none hV
  have g0 := h0
  have lt0 : ∀ x ∈ p0, x.block < W.heap.size := by obtain ⟨m, hm⟩ := g0; exact DataW.trod_lt m _ _ _ hm
  obtain ⟨oh0, os0, oa0, ob0, oc0, od0, rfl, oe0, hb0, hl0, hs0, hr0, hq0⟩ : ∃ (h : Oh) (sub : Ous) (a1 a2 : Option Addr) (c1 c2 : Nat), v0 = .agg #[.int .i64 h.k, .int .i64 h.n, .string h.t, .slice a1 h.keys.length c1, .slice a2 sub.len c2] ∧ h.keys.length ≤ c1 ∧ OhBd maxLen h ∧ sub.len ≤ maxLen ∧ OusBd maxLen sub ∧ KeRow 0 W.heap.size W a1 h.keys ∧ OuRow 0 W.heap.size W a2 sub := by
    obtain ⟨cs, rfl, hsz⟩ := okWide_struct Try.underlying25 (hval 0 25 v0 rfl rfl)
    obtain ⟨fuel, hf⟩ := h0
    obtain ⟨u⟩ := cs
    obtain ⟨h, sub, a1, a2, c1, c2, e, h1, h2, h3, h4, h5, h6⟩ := out_open (by simpa [Value.cells] using hf)
    subst e
    exact ⟨h, sub, a1, a2, c1, c2, rfl, h1, h2, h3, h4, h5, h6⟩
  have g1 := h1
  have lt1 : ∀ x ∈ p1, x.block < W.heap.size := by obtain ⟨m, hm⟩ := g1; exact DataW.trod_lt m _ _ _ hm
  obtain ⟨oh1, os1, oa1, ob1, oc1, od1, rfl, oe1, hb1, hl1, hs1, hr1, hq1⟩ : ∃ (h : Oh) (sub : Ous) (a1 a2 : Option Addr) (c1 c2 : Nat), v1 = .agg #[.int .i64 h.k, .int .i64 h.n, .string h.t, .slice a1 h.keys.length c1, .slice a2 sub.len c2] ∧ h.keys.length ≤ c1 ∧ OhBd maxLen h ∧ sub.len ≤ maxLen ∧ OusBd maxLen sub ∧ KeRow 0 W.heap.size W a1 h.keys ∧ OuRow 0 W.heap.size W a2 sub := by
    obtain ⟨cs, rfl, hsz⟩ := okWide_struct Try.underlying25 (hval 1 25 v1 rfl rfl)
    obtain ⟨fuel, hf⟩ := h1
    obtain ⟨u⟩ := cs
    obtain ⟨h, sub, a1, a2, c1, c2, e, h1, h2, h3, h4, h5, h6⟩ := out_open (by simpa [Value.cells] using hf)
    subst e
    exact ⟨h, sub, a1, a2, c1, c2, rfl, h1, h2, h3, h4, h5, h6⟩
  clear hA0 hval0
  refine (walk oh0 oh1 os0 os1 oa0 ob0 oa1 ob1 oc0 od0 oc1 od1 W hr0 hq0 hr1 hq1 hb0 hl0 hs0 hb1 hl1 hs1).mono fun e W' ⟨he, bel⟩ => ?_
  subst he
  exact ⟨_, rfl, _, _, _, [], _, [], hW', trodAll_mk1 (shut_bool Try.underlying4 _), (trodAll_cons_mk (Below.trod laidOut (by kernel_rfl) (of_decide_eq_true (by kernel_rfl)) g0 bel lt0) (trodAll_cons_mk (Below.trod laidOut (by kernel_rfl) (of_decide_eq_true (by kernel_rfl)) g1 bel lt1) trodAll_mk0)), rfl, bel.frame _, fun h => by cases h⟩

theorem over : Rows.fnExactSameOutRow.holds Try.pinned (OpenSpec.ofChange Rows.fnExactSameOutSpec) :=
  OpenClaim.holds_of_wide 4 Try.f4 rfl rfl rfl rfl rfl rfl rfl ⟨rfl, rfl, rfl, rfl, rfl⟩ rfl rfl rfl rfl rfl (by kernel_rfl) Try.func4 (by kernel_rfl)
    (of_decide_eq_true (by kernel_rfl)) (by unfold Func.isWrapper; first | (rw [if_pos (by decide +kernel)]; kernel_rfl) | (rw [if_neg (by decide +kernel)]; exact ⟨rfl, rfl⟩))
    (fun os started H enc _ => lifted os started H enc)
end Go.Proofs.Ytjmkcbjfjejaaaa.fnExactSameOut
namespace Go.Proofs.Ytjmkcbjfjejaaaa
theorem sameOut_holds : Rows.FnExactSameOutSaid := fnExactSameOut.over
#print axioms sameOut_holds
end Go.Proofs.Ytjmkcbjfjejaaaa
