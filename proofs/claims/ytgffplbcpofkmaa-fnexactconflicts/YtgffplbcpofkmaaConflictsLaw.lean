/- Proved: at every store and transaction the law FnExactConflicts returns true, and its arguments read afterwards as they read before. No conditions beyond the row's own. -/
import Derived.Test.YtgffplbcpofkmaaStTxSpecTwo
import Derived.Test.YtgffplbcpofkmaaStTxImplTwo
import Derived.Test.YtgffplbcpofkmaaStTx
import Derived.Test.YtgffplbcpofkmaaStSz
import Derived.Test.YtgffplbcpofkmaaStTo
import Derived.Test.YtgffplbcpofkmaaStEq
import Derived.WalkKit
import Derived.ProofKit
import Derived.OpenShut
import Derived.ShutString
import Derived.ChangeOld
import Derived.Below
import Derived.Lib.SmallJoins
import Derived.Deep.CutRange
namespace Go.Proofs.Ytgffplbcpofkmaa.fnExactConflicts
open Go.ChangeShapes Go.WideShapes Go.ChangeAt Go.RowKit
open Go.ChangeMaps (open_string shut_string)
open Go.Proofs.Ytgffplbcpofkmaa.G
set_option linter.unusedVariables false

theorem own : ownKnob Try.prog.godebug = none := by kernel_rfl
theorem laidOut : laidOutB Try.prog = true := by kernel_rfl

set_option maxHeartbeats 16000000 in
set_option maxRecDepth 40000 in
theorem walk (a : Option Addr) (c : Nat) (l : Chs) (now : Int) (ra wa : Option Addr) (rq wq : Nat) (st : Int) (rs : List Int) (ws : List Ve) (w : World) (hr : ChRow 0 w.heap.size w a l) (hb : ChsBd maxLen l) (hp : TxRow 0 w.heap.size w ra wa rs ws) (hpb : TxBd maxLen rs ws) :
    Calls Try.prog 7 #[.agg #[.slice a l.length c, .int .i64 now], .agg #[.int .i64 st, .slice ra rs.length rq, .slice wa ws.length wq]] w fun e w' => e = .returned (.bool true) ∧ Below w.heap.size w w' := by
  obtain ⟨V, hV⟩ : ∃ V, V = (w.alloc (.cells #[.slice a l.length c, .int .i64 now] 24)).alloc (.cells #[.int .i64 st, .slice ra rs.length rq, .slice wa ws.length wq] 28) := ⟨_, rfl⟩
  have bV : Below w.heap.size w V := by
    rw [hV]
    repeat (first | exact Below.refl _ _ | refine Below.alloc ?_ (by first | omega | (simp <;> omega)) _)
  have zV : w.heap.size + 2 ≤ V.heap.size := by rw [hV]; simp
  have c0 : V.heap[w.heap.size]? = some (.cells #[.slice a l.length c, .int .i64 now] 24 (0, 0)) := by
    rw [hV, Below.heap_alloc _ _ _ (by simp)]; exact heap_alloc_new _ _
  have c1 : V.heap[w.heap.size + 1]? = some (.cells #[.int .i64 st, .slice ra rs.length rq, .slice wa ws.length wq] 28 (0, 0)) := by
    rw [hV]
    have := heap_alloc_new (w.alloc (.cells #[.slice a l.length c, .int .i64 now] 24)) (.cells #[.int .i64 st, .slice ra rs.length rq, .slice wa ws.length wq] 28)
    simpa using this
  have KV : Hid (∀ W, Below V.heap.size V W → W.heap[w.heap.size]? = some (.cells #[.slice a l.length c, .int .i64 now] 24 (0, 0)) ∧ W.heap[w.heap.size + 1]? = some (.cells #[.int .i64 st, .slice ra rs.length rq, .slice wa ws.length wq] 28 (0, 0)) ∧ ChRow 0 W.heap.size W a l ∧ TxRow 0 W.heap.size W ra wa rs ws ∧ Below w.heap.size w W) := fun W h =>
    have hw := bV.trans (h.mono (by omega))
    ⟨(h.block _ (by omega)).trans c0, (h.block _ (by omega)).trans c1, ChRow.up hr hw, TxRow.up hp hw, hw⟩
  have HD : Hid (ChsBd maxLen l) := hb
  have HPB : Hid (TxBd maxLen rs ws) := hpb
  skip
  clear hr hb hp hpb bV c0 c1
  go_enter Try.func7, Try.ntmps7
  go_wp2_with fail
  rw [← hV]
  clear hV
  refine (sz_store a c l now 1048576 _ (KV.out _ (Below.refl _ _)).2.2.1 HD.out (by omega) (by omega)).mono ?_
  rintro e w1 ⟨mz, rfl, hm, hb1⟩
  have HM : Hid (Sz 1048576 mz (ChsBd 1048576 l)) := hm
  have q1 : Hid (Below V.heap.size V w1) := hb1
  have z1 := hb1.size
  clear hm hb1
  by_cases hneg : mz < 0
  · go_wp2_with fail
    go_ret
    exact ⟨rfl, (KV.out _ q1.out).2.2.2.2⟩
  have HE : Hid (ChsBd 1048576 l) := HM.out.2.2 (by omega)
  have hmz : mz ≤ 1048576 := HM.out.1
  have x1 := fun o => row_cell (KV.out _ q1.out).2.1 o
  clear HM
  go_wp2_with fail
  refine (sz_txn ra wa rq wq st rs ws mz _ HPB.out (by omega) hmz).mono ?_
  rintro e w2 ⟨mp, rfl, hm, hb2⟩
  have HM : Hid (Sz mz mp (TxBd 1048576 rs ws)) := hm
  have q2 : Hid (Below V.heap.size V w2) := q1.out.trans (hb2.mono (by omega))
  have z2 := hb2.size
  clear hm hb2 x1
  by_cases hneg2 : mp < 0
  · go_wp2_with fail
    go_ret
    exact ⟨rfl, (KV.out _ q2.out).2.2.2.2⟩
  have HT : Hid (TxBd 1048576 rs ws) := HM.out.2.2 (by omega)
  have x2 := fun o => row_cell (KV.out _ q2.out).1 o
  have y2 := fun o => row_cell (KV.out _ q2.out).2.1 o
  clear HM hmz
  go_wp2_with fail
  go_cut [6, 7] from 22 to 29 (fun u0 u1 wx => u0 = .bool (confR l now st rs ws) ∧ u1 = .int .i64 (txC l now st rs ws) ∧ Below w2.heap.size w2 wx)
  case first =>
    go_region_with (first
      | (go_at_call 12
         refine Calls.mono (to_store a c l now _ (KV.out _ q2.out.drew).2.2.1 HE.out) ?_
         rintro e v3 ⟨a3, b3, rfl, r3, hb3⟩
         have R3 : Hid (ChRow 0 v3.heap.size v3 a3 l) := ChRow.wide r3.row (Nat.zero_le _) (Nat.le_refl _)
         have p3 : Hid (Below w2.heap.size w2 v3) := (Below.refl _ _).drew.trans (hb3.mono (Nat.le_refl _))
         have y3 := fun o => row_cell (KV.out _ (q2.out.trans (p3.out.mono (by omega)))).2.1 o
         clear r3 hb3)
      | (go_at_call 13
         refine Calls.mono (to_txn ra wa rq wq st rs ws _ (KV.out _ (q2.out.trans (p3.out.mono (by omega)))).2.2.2.1 HT.out) ?_
         rintro e v4 ⟨r4, w4', rfl, o4, hb4⟩
         have R4 : Hid (ChRow 0 v4.heap.size v4 a3 l) := ChRow.up R3.out hb4
         have O4 : Hid (TxRow 0 v4.heap.size v4 r4 w4' rs ws) := TxRow.wide o4.row (Nat.zero_le _) (Nat.le_refl _)
         have p4 : Hid (Below w2.heap.size w2 v4) := p3.out.trans (hb4.mono p3.out.size)
         clear o4 hb4)
      | (go_at_call 27
         refine Calls.mono (spec_conflicts a3 r4 w4' _ _ _ l now st rs ws _ R4.out HE.out O4.out HT.out (Nat.le_refl _)) ?_
         rintro e v5 ⟨rfl, hb5⟩
         have p5 : Hid (Below w2.heap.size w2 v5) := p4.out.trans (hb5.mono p4.out.size)
         clear hb5))
    all_goals (try go_wp2_with fail)
    all_goals go_meet
    all_goals exact ⟨rfl, rfl, p5.out⟩
  obtain ⟨rfl, rfl, hb3⟩ := hcut
  obtain ⟨w3, rfl⟩ : ∃ x, x = wc := ⟨_, rfl⟩
  have q3 : Hid (Below V.heap.size V w3) := q2.out.trans (hb3.mono (by have := q2.out.size; omega))
  have z3 := hb3.size
  have x3 := fun o => row_cell (KV.out _ q3.out).1 o
  clear hb3 x2 y2
  go_wp2_with fail
  refine (to_store a c l now _ (KV.out _ q3.out).2.2.1 HE.out).mono ?_
  rintro e w4 ⟨aX, bX, rfl, r4, hb4⟩
  have z4 := hb4.size
  have q4 : Hid (Below V.heap.size V w4) := q3.out.trans (hb4.mono (by omega))
  have R4 : Hid (ChRow 0 w4.heap.size w4 aX l) := ChRow.wide r4.row (Nat.zero_le _) (Nat.le_refl _)
  have A4 := (KV.out _ q4.out).2.1
  have p0 := fun ob => (World.cell?_alloc_past (w := w4) ob (w.heap.size + 1) 0 (by omega)).trans (row_cell A4 0)
  have p1 := fun ob => (World.cell?_alloc_past (w := w4) ob (w.heap.size + 1) 1 (by omega)).trans (row_cell A4 1)
  have p2 := fun ob => (World.cell?_alloc_past (w := w4) ob (w.heap.size + 1) 2 (by omega)).trans (row_cell A4 2)
  clear hb4 r4 x3 A4
  go_wp2_with fail
  clear p0 p1 p2
  obtain ⟨vb, hvb⟩ : ∃ W, W = w4.alloc (.cells #[.slice aX l.length l.length, .int .i64 now] 34) := ⟨_, rfl⟩
  rw [← hvb]
  have zvb : w4.heap.size + 1 ≤ vb.heap.size := by rw [hvb]; simp
  have bvb : Below w4.heap.size w4 vb := by rw [hvb]; exact (Below.refl _ _).alloc (Nat.le_refl _) _
  have cvb : vb.heap[w4.heap.size]? = some (.cells #[.slice aX l.length l.length, .int .i64 now] 34 (0, 0)) := by rw [hvb]; exact heap_alloc_new _ _
  have KB : Hid (∀ W, Below vb.heap.size vb W → ChRow 0 W.heap.size W aX l ∧ W.heap[w4.heap.size]? = some (.cells #[.slice aX l.length l.length, .int .i64 now] 34 (0, 0)) ∧ Below V.heap.size V W) := fun W h =>
    ⟨ChRow.up (ChRow.up R4.out bvb) h, (h.block _ (by omega)).trans cvb, (q4.out.trans (bvb.mono (by omega))).trans (h.mono (by omega))⟩
  clear hvb cvb bvb R4 q4
  refine (to_txn ra wa rq wq st rs ws _ (KV.out _ (KB.out _ (Below.refl _ _)).2.2).2.2.2.1 HT.out).mono ?_
  rintro e w5 ⟨rX, wX, rfl, o5, hb5⟩
  have z5 := hb5.size
  have q5 : Hid (Below vb.heap.size vb w5) := hb5
  have O5 : Hid (TxRow 0 w5.heap.size w5 rX wX rs ws) := TxRow.wide o5.row (Nat.zero_le _) (Nat.le_refl _)
  have A5 := (KB.out _ hb5).2.1
  have p0 := fun ob => (World.cell?_alloc_past (w := w5) ob w4.heap.size 0 (by omega)).trans (row_cell A5 0)
  have p1 := fun ob => (World.cell?_alloc_past (w := w5) ob w4.heap.size 1 (by omega)).trans (row_cell A5 1)
  clear hb5 o5 A5
  go_wp2_with fail
  clear p0 p1
  obtain ⟨vc, hvc⟩ : ∃ W, W = w5.alloc (.cells #[.int .i64 st, .slice rX rs.length rs.length, .slice wX ws.length ws.length] 38) := ⟨_, rfl⟩
  rw [← hvc]
  have zvc : w5.heap.size + 1 ≤ vc.heap.size := by rw [hvc]; simp
  have bvc : Below w5.heap.size w5 vc := by rw [hvc]; exact (Below.refl _ _).alloc (Nat.le_refl _) _
  have cvc : vc.heap[w5.heap.size]? = some (.cells #[.int .i64 st, .slice rX rs.length rs.length, .slice wX ws.length ws.length] 38 (0, 0)) := by rw [hvc]; exact heap_alloc_new _ _
  have KC : Hid (∀ W, Below vc.heap.size vc W → TxRow 0 W.heap.size W rX wX rs ws ∧ W.heap[w5.heap.size]? = some (.cells #[.int .i64 st, .slice rX rs.length rs.length, .slice wX ws.length ws.length] 38 (0, 0)) ∧ Below vb.heap.size vb W) := fun W h =>
    ⟨TxRow.up (TxRow.up O5.out bvc) h, (h.block _ (by omega)).trans cvc, (q5.out.trans (bvc.mono (by omega))).trans (h.mono (by omega))⟩
  clear hvc cvc bvc O5 q5
  have T6 := KC.out _ (Below.refl _ _)
  refine (impl_conflicts aX rX wX _ _ _ l now st rs ws _ (KB.out _ T6.2.2).1 HE.out T6.1 HT.out (Nat.le_refl _)).mono ?_
  clear T6
  rintro e w6 ⟨rfl, hb6⟩
  have q6 : Hid (Below vc.heap.size vc w6) := hb6
  have z6 := hb6.size
  have T6 := KC.out _ hb6
  have x6 := fun o => row_cell (KB.out _ T6.2.2).2.1 o
  have c6 := fun o => row_cell (KV.out _ (KB.out _ T6.2.2).2.2).1 o
  clear hb6 T6
  generalize confR l now st rs ws = BB
  generalize txC l now st rs ws = CC
  go_wp2_with fail
  go_cut [52] from 48 to 52 (fun u wx => u = .bool false ∧ Below w6.heap.size w6 wx)
  case first =>
    go_region_with (first
      | (go_at_call 12
         refine Calls.mono (to_store a c l now _ (KV.out _ (KB.out _ (KC.out _ q6.out.drew).2.2).2.2).2.2.1 HE.out) ?_
         rintro e v6 ⟨a6, b6, rfl, r6, hb6⟩
         have e6 := fun o => (hb6.cell (p := ⟨w4.heap.size, o, none⟩) (show w4.heap.size < w6.heap.size by omega)).trans (x6 o)
         have R6 : Hid (ChRow 0 v6.heap.size v6 a6 l) := ChRow.wide r6.row (Nat.zero_le _) (Nat.le_refl _)
         have p6 : Hid (Below w6.heap.size w6 v6) := (Below.refl _ _).drew.trans (hb6.mono (Nat.le_refl _))
         clear r6 hb6)
      | (go_at_call 15
         refine (eq_store aX _ _ _ l now _ (KB.out _ (KC.out _ (q6.out.trans (p6.out.mono (by omega)))).2.2).1 R6.out HE.out).mono ?_
         rintro e v7 ⟨rfl, hb7⟩
         have p7 : Hid (Below w6.heap.size w6 v7) := p6.out.trans (hb7.mono (by have := p6.out.size; omega))))
    all_goals (try go_wp2_with fail)
    all_goals go_meet
    all_goals exact ⟨rfl, p7.out⟩
  obtain ⟨w7, rfl⟩ : ∃ x, x = wc := ⟨_, rfl⟩
  obtain ⟨rfl, hb7⟩ := hcut
  have z7 := hb7.size
  have q7 : Hid (Below vc.heap.size vc w7) := q6.out.trans (hb7.mono (by omega))
  have T7 := KC.out _ q7.out
  have x7 := fun o => row_cell T7.2.1 o
  have c7 := fun o => row_cell (KV.out _ (KB.out _ T7.2.2).2.2).2.1 o
  clear hb7 T7 x6 c6 q6
  go_wp2_with fail
  go_cut [57] from 53 to 57 (fun u wx => u = .bool false ∧ Below w7.heap.size w7 wx)
  case first =>
    go_region_with (first
      | (go_at_call 13
         refine Calls.mono (to_txn ra wa rq wq st rs ws _ (KV.out _ (KB.out _ (KC.out _ q7.out.drew).2.2).2.2).2.2.2.1 HT.out) ?_
         rintro e v8 ⟨r8, w8', rfl, o8, hb8⟩
         have e8 := fun o => (hb8.cell (p := ⟨w5.heap.size, o, none⟩) (show w5.heap.size < w7.heap.size by omega)).trans (x7 o)
         have O8 : Hid (TxRow 0 v8.heap.size v8 r8 w8' rs ws) := TxRow.wide o8.row (Nat.zero_le _) (Nat.le_refl _)
         have p8 : Hid (Below w7.heap.size w7 v8) := (Below.refl _ _).drew.trans (hb8.mono (Nat.le_refl _))
         clear o8 hb8)
      | (go_at_call 16
         refine (eq_txn rX wX _ _ _ _ _ _ st rs ws _ (KC.out _ (q7.out.trans (p8.out.mono (by omega)))).1 O8.out HT.out).mono ?_
         rintro e v9 ⟨rfl, hb9⟩
         have p9 : Hid (Below w7.heap.size w7 v9) := p8.out.trans (hb9.mono (by have := p8.out.size; omega))))
    all_goals (try go_wp2_with fail)
    all_goals go_meet
    all_goals exact ⟨rfl, p9.out⟩
  obtain ⟨rfl, hb8⟩ := hcut
  have Q8 : Hid (Below w.heap.size w wc) := (KV.out _ (KB.out _ (KC.out _ (q7.out.trans (hb8.mono (by omega)))).2.2).2.2).2.2.2.2
  clear hb8 x7 c7
  go_wp2_with fail
  go_ret
  exact ⟨rfl, Q8.out⟩

set_option maxRecDepth 100000 in
theorem lifted (os : Os) (started : os.Started) (H : Type) (enc : TypeId × Value → H) :
    ReturnsInHanded {} Try.checked os 7 .any (Rows.fnExactConflictsSpec.pre6 enc Try.prog Try.f7 Rows.fnExactConflictsRow.domain false) (Rows.fnExactConflictsSpec.post enc Try.prog Try.f7 false true false false) := by
  refine returnsInHanded_of_change (C := Try.checked) own started (by kernel_rfl) Try.func7
    (ChangeSpec.witness6 (enc := enc) (C := Try.checked) false ⟨#[], #[.agg #[.slice none 0 0, .int .i64 0], .agg #[.int .i64 0, .slice none 0 0, .slice none 0 0]], []⟩ 8 (by kernel_rfl) (by kernel_rfl) (by kernel_rfl) (by kernel_rfl)) ?_
  intro W base args ds gs before hval0 hW hcnd _
  have hval : ∀ (j : Nat) t v, Try.f7.params[j]? = some t → args[j]? = some v → Value.okWide Try.prog W .any base t v := hval0
  have hW' := hW
  obtain ⟨p, q, hA0, hV, rfl, hfz, hnd⟩ := hW
  have hA : DataW.TrodAll enc Try.prog W 0 (fun _ => true) true Try.f7.params.toList args.toList ds p := hA0
  rw [Try.params7] at hA hval
  obtain ⟨v0, vs0, d0, ds0, p0, q0, hargs, rfl, rfl, h0, r0⟩ := trodAll_cons hA
  obtain ⟨v1, vs1, d1, ds1, p1, q1, rfl, rfl, rfl, h1, r1⟩ := trodAll_cons r0
  obtain ⟨rfl, rfl, rfl⟩ := trodAll_nil r1
  obtain rfl : args = #[v0, v1] := by cases args; simp_all
  obtain ⟨rfl, rfl⟩ := trodVars_none hV
  have g0 := h0
  have lt0 : ∀ x ∈ p0, x.block < W.heap.size := by obtain ⟨m, hm⟩ := g0; exact DataW.trod_lt m _ _ _ hm
  obtain ⟨a0, c0, l0, n0, rfl, hb0, hr0⟩ : ∃ a c, ∃ l : Chs, ∃ n : Int, v0 = .agg #[.slice a l.length c, .int .i64 n] ∧ ChsBd maxLen l ∧ ChRow 0 W.heap.size W a l := by
    obtain ⟨cs, rfl, hsz⟩ := okWide_struct Try.underlying24 (hval 0 24 v0 rfl rfl)
    obtain ⟨fuel, hf⟩ := h0
    obtain ⟨y0, y1, n, hx, hlen, h1, h2⟩ := trod_struct2 Try.underlying24 hf
    have cd : Try.prog.cellsOf 24 = 2 := by kernel_rfl
    have c1 : Try.prog.cellsOf 22 = 1 := by kernel_rfl
    have ci : Try.prog.cellsOf 3 = 1 := by kernel_rfl
    obtain ⟨u⟩ := cs
    have hu : u.length = 2 := by rw [cd] at hsz; simpa using hsz
    obtain ⟨q0, q1, rfl⟩ := listTwo hu
    obtain ⟨a, c, l, e, hb, hr⟩ := Chs_open (by simpa [Value.cells, c1] using h1)
    obtain ⟨z, e2, _, _⟩ := DataW.trod_int Try.underlying3 h2
    simp [Value.cells, ci] at e e2
    subst e e2
    exact ⟨a, c, l, z, rfl, hb, hr⟩
  have g1 := h1
  have lt1 : ∀ x ∈ p1, x.block < W.heap.size := by obtain ⟨m, hm⟩ := g1; exact DataW.trod_lt m _ _ _ hm
  obtain ⟨st1, ta1, rc1, rs1, tw1, wc1, ws1, rfl, hb1, hr1⟩ : ∃ (st : Int) (ra : Option Addr) (rc : Nat) (rs : List Int) (wa : Option Addr) (wc : Nat) (ws : List Ve), v1 = .agg #[.int .i64 st, .slice ra rs.length rc, .slice wa ws.length wc] ∧ TxBd maxLen rs ws ∧ TxRow 0 W.heap.size W ra wa rs ws := by
    obtain ⟨cs, rfl, hsz⟩ := okWide_struct Try.underlying28 (hval 1 28 v1 rfl rfl)
    obtain ⟨fuel, hf⟩ := h1
    have cd : Try.prog.cellsOf 28 = 3 := by kernel_rfl
    have ci : Try.prog.cellsOf 3 = 1 := by kernel_rfl
    have c1 : Try.prog.cellsOf 25 = 1 := by kernel_rfl
    have c2 : Try.prog.cellsOf 26 = 1 := by kernel_rfl
    obtain ⟨u⟩ := cs
    have hu : u.length = 3 := by rw [cd] at hsz; simpa using hsz
    obtain ⟨u0, u1, u2, rfl⟩ := listThree hu
    obtain ⟨xs, n', rfl, hx, _, hxl, hf⟩ := DataW.trod_struct Try.underlying28 hf
    obtain ⟨y0, y1, y2, rfl⟩ := listThree hxl
    obtain ⟨k, e0, _, _⟩ := DataW.trod_int Try.underlying3 (hf 0 _ rfl)
    obtain ⟨a1, k1, l1, e1, b1, d1⟩ := Nus_open (hf 1 _ rfl)
    obtain ⟨a2, k2, l2, e2, _, b2, d2⟩ := Pus_open (hf 2 _ rfl)
    simp [Value.cells, ci, c1, c2] at e0 e1 e2
    subst e0 e1 e2
    exact ⟨k, a1, k1, l1, a2, k2, l2, rfl, ⟨b1, b2⟩, d1, d2⟩
  clear hA0 hval0
  refine (walk a0 c0 l0 n0 ta1 tw1 rc1 wc1 st1 rs1 ws1 W hr0 hb0 hr1 hb1).mono fun e W' ⟨he, bel⟩ => ?_
  subst he
  exact ⟨_, rfl, _, _, _, [], _, [], hW', trodAll_mk1 (shut_bool Try.underlying4 _), (trodAll_cons_mk (Below.trod laidOut (by kernel_rfl) (of_decide_eq_true (by kernel_rfl)) g0 bel lt0) (trodAll_cons_mk (Below.trod laidOut (by kernel_rfl) (of_decide_eq_true (by kernel_rfl)) g1 bel lt1) trodAll_mk0)), rfl, bel.frame _, fun h => by cases h⟩

theorem over : Rows.fnExactConflictsRow.holds Try.pinned (OpenSpec.ofChange Rows.fnExactConflictsSpec) :=
  OpenClaim.holds_of_wide 7 Try.f7 rfl rfl rfl rfl rfl rfl rfl ⟨rfl, rfl, rfl, rfl, rfl⟩ rfl rfl rfl rfl rfl (by kernel_rfl) Try.func7 (by kernel_rfl)
    (of_decide_eq_true (by kernel_rfl)) (by unfold Func.isWrapper; first | (rw [if_pos (by decide +kernel)]; kernel_rfl) | (rw [if_neg (by decide +kernel)]; exact ⟨rfl, rfl⟩))
    (fun os started H enc _ => lifted os started H enc)
end Go.Proofs.Ytgffplbcpofkmaa.fnExactConflicts
namespace Go.Proofs.Ytgffplbcpofkmaa
theorem conflicts_holds : Rows.FnExactConflictsSaid := fnExactConflicts.over
#print axioms conflicts_holds
end Go.Proofs.Ytgffplbcpofkmaa
