/- Proved: at every store, transaction and number the law FnExactReadTxn returns true, and its arguments read afterwards as they read before. No conditions beyond the row's own. -/
import Derived.Test.YtlfcjhiojbcijaaStTxImplRt
import Derived.Test.YtlfcjhiojbcijaaStTxSpecThree
import Derived.Test.YtlfcjhiojbcijaaStAnsT
import Derived.Test.YtlfcjhiojbcijaaStHad
import Derived.Test.YtlfcjhiojbcijaaStSz
import Derived.Test.YtlfcjhiojbcijaaStTo
import Derived.Test.YtlfcjhiojbcijaaStEq
import Derived.WalkKit
import Derived.ProofKit
import Derived.OpenShut
import Derived.ShutString
import Derived.ChangeOld
import Derived.Below
import Derived.Lib.SmallJoins
import Derived.Deep.CutRange
namespace Go.Proofs.Ytlfcjhiojbcijaa.fnExactReadTxn
open Go.ChangeShapes Go.WideShapes Go.ChangeAt Go.RowKit
open Go.ChangeMaps (open_string shut_string)
open Go.Proofs.Ytlfcjhiojbcijaa.G
set_option linter.unusedVariables false

theorem own : ownKnob Try.prog.godebug = none := by kernel_rfl
theorem laidOut : laidOutB Try.prog = true := by kernel_rfl

set_option maxHeartbeats 16000000 in
set_option maxRecDepth 40000 in
theorem walk (a : Option Addr) (c : Nat) (l : Chs) (now : Int) (ra wa : Option Addr) (rq wq : Nat) (st : Int) (rs : List Int) (ws : List Ve) (key : Int) (w : World) (hr : ChRow 0 w.heap.size w a l) (hb : ChsBd maxLen l) (hp : TxRow 0 w.heap.size w ra wa rs ws) (hpb : TxBd maxLen rs ws) :
    Calls Try.prog 3 #[.agg #[.slice a l.length c, .int .i64 now], .agg #[.int .i64 st, .slice ra rs.length rq, .slice wa ws.length wq], .int .i64 key] w fun e w' => e = .returned (.bool true) ∧ Below w.heap.size w w' := by
  obtain ⟨V, hV⟩ : ∃ V, V = (w.alloc (.cells #[.slice a l.length c, .int .i64 now] 24)).alloc (.cells #[.int .i64 st, .slice ra rs.length rq, .slice wa ws.length wq] 28) := ⟨_, rfl⟩
  have bV : Below w.heap.size w V := by
    rw [hV]
    repeat (first | exact Below.refl _ _ | refine Below.alloc ?_ (by first | omega | (simp <;> omega)) _)
  have zV : w.heap.size + 2 ≤ V.heap.size := by rw [hV]; simp
  have c0 : V.heap[w.heap.size]? = some (.cells #[.slice a l.length c, .int .i64 now] 24 (0, 0)) := by
    rw [hV, Below.heap_alloc _ _ _ (by simp)]; exact heap_alloc_new _ _
  have c1 : V.heap[w.heap.size + 1]? = some (.cells #[.int .i64 st, .slice ra rs.length rq, .slice wa ws.length wq] 28 (0, 0)) := by
    rw [hV]
    have := heap_alloc_new (w.alloc (.cells #[.slice a l.length c, .int .i64 now] 24)) (.cells #[.int .i64 st, .slice ra rs.length rq, .slice wa ws.length wq] 28)
    simpa using this
  have KV : Hid (∀ W, Below V.heap.size V W → W.heap[w.heap.size]? = some (.cells #[.slice a l.length c, .int .i64 now] 24 (0, 0)) ∧ W.heap[w.heap.size + 1]? = some (.cells #[.int .i64 st, .slice ra rs.length rq, .slice wa ws.length wq] 28 (0, 0)) ∧ ChRow 0 W.heap.size W a l ∧ TxRow 0 W.heap.size W ra wa rs ws ∧ Below w.heap.size w W) := fun W h =>
    have hw := bV.trans (h.mono (by omega))
    ⟨(h.block _ (by omega)).trans c0, (h.block _ (by omega)).trans c1, ChRow.up hr hw, TxRow.up hp hw, hw⟩
  have HD : Hid (ChsBd maxLen l) := hb
  have HPB : Hid (TxBd maxLen rs ws) := hpb
  skip
  clear hr hb hp hpb bV c0 c1
  go_enter Try.func3, Try.ntmps3
  go_wp2_with fail
  rw [← hV]
  clear hV
  refine (sz_store a c l now 1048576 _ (KV.out _ (Below.refl _ _)).2.2.1 HD.out (by omega) (by omega)).mono ?_
  rintro e w1 ⟨mz, rfl, hm, hb1⟩
  have HM : Hid (Sz 1048576 mz (ChsBd 1048576 l)) := hm
  have q1 : Hid (Below V.heap.size V w1) := hb1
  have z1 := hb1.size
  clear hm hb1
  by_cases hneg : mz < 0
  · go_wp2_with fail
    go_ret
    exact ⟨rfl, (KV.out _ q1.out).2.2.2.2⟩
  have HE : Hid (ChsBd 1048576 l) := HM.out.2.2 (by omega)
  have hmz : mz ≤ 1048576 := HM.out.1
  have x1 := fun o => row_cell (KV.out _ q1.out).2.1 o
  clear HM
  go_wp2_with fail
  refine (sz_txn ra wa rq wq st rs ws mz _ HPB.out (by omega) hmz).mono ?_
  rintro e w2 ⟨mp, rfl, hm, hb2⟩
  have HM : Hid (Sz mz mp (TxBd 1048576 rs ws)) := hm
  have q2 : Hid (Below V.heap.size V w2) := q1.out.trans (hb2.mono (by omega))
  have z2 := hb2.size
  clear hm hb2 x1
  by_cases hneg2 : mp < 0
  · go_wp2_with fail
    go_ret
    exact ⟨rfl, (KV.out _ q2.out).2.2.2.2⟩
  have HT : Hid (TxBd 1048576 rs ws) := HM.out.2.2 (by omega)
  have hT1 := HT.out.1
  have hT2 := HT.out.2
  have x2 := fun o => row_cell (KV.out _ q2.out).1 o
  have y2 := fun o => row_cell (KV.out _ q2.out).2.1 o
  clear HM hmz
  obtain ⟨sa, ra', wa', vv, cd, hy, hy2⟩ := rtIs l now st rs ws key HT.out
  have HY : Hid (RtIs l now st rs ws key sa ra' wa' vv cd) := hy
  have HF : Hid (TxBd 1048576 ra' wa') := hy2
  have hF1 := hy2.1
  have hF2 := hy2.2
  clear hy hy2
  have HSZ : Hid (sizeN l ≤ 1099511627776) := by have := sizeN_le HE.out.2; have := HE.out.1; unfold Hid; exact Nat.le_trans ‹_› (Nat.mul_le_mul_right 1048576 this)
  go_wp2_with fail
  go_cut [8, 9, 10] from 32 to 41 (fun p u v wx => ∃ B rS cS wS dS, p = .pointer (some ⟨B, 0, none⟩) ∧ u = .int .i64 vv ∧ v = .int .i64 cd ∧ Hid (wx.heap[B]? = some (.cells #[.int .i64 sa, .slice rS ra'.length cS, .slice wS wa'.length dS] 33 (0, 0))) ∧ w2.heap.size ≤ B ∧ B < wx.heap.size ∧ Hid (TxRow 0 wx.heap.size wx rS wS ra' wa') ∧ Hid (Below w2.heap.size w2 wx))
  case first =>
    refine region_rel5 (n := 13) (k := 1) (by omega) (by kernel_rfl) (by kernel_rfl) (by kernel_rfl) (fun u => ⟨#[.agg #[.slice a l.length c, .int .i64 now], .agg #[.int .i64 st, .slice ra rs.length rq, .slice wa ws.length wq], .int .i64 key, .pointer (some ⟨w.heap.size, 0, none⟩), .pointer (some ⟨w.heap.size + 1, 0, none⟩), undef, .bool false, .int .i64 mp, u 8, u 9, undef, undef, undef, undef, undef, undef, undef, undef, undef, undef, undef, undef, .agg #[.slice a l.length c, .int .i64 now], .int .i64 1048576, .int .i64 mz, .int .i64 mz, .bool (decide (mz < 0)), .agg #[.int .i64 st, .slice ra rs.length rq, .slice wa ws.length wq], .int .i64 mz, .int .i64 mp, .int .i64 mp, .bool (decide (mp < 0)), u 32, u 33, u 34, u 35, u 36, u 37, u 38, u 39, u 40, u 41, undef, undef, undef, undef, undef, undef, undef, undef, undef, undef, undef, undef, undef, undef, undef, undef, undef, undef, undef, undef, undef, undef, undef, undef, undef, undef, undef, undef, undef, undef, undef, undef, undef, undef, undef, undef, undef, undef, undef, undef, undef, undef, undef, undef, undef, undef, undef, undef, undef, undef, undef, undef, undef, undef, undef, undef, undef, undef, undef, undef, undef, undef, undef, undef, undef, undef, undef, undef, undef, undef, undef, undef, undef, undef, undef, undef, undef, undef, undef, undef, undef, undef, undef, undef, undef, undef, undef, undef, undef, undef, undef, undef, undef, undef, undef, undef, undef, undef, undef, undef, undef, undef, undef], []⟩) (fun _ => undef) (fun i => match i with | 0 => 33 | 1 => 34 | 2 => 35 | 3 => 36 | 4 => 37 | 5 => 38 | 6 => 32 | 7 => 39 | 8 => 40 | 9 => 41 | 10 => 8 | 12 => 9 | _ => 400) (fun i j hi hj hh => by
        have h1 : i = 0 ∨ i = 1 ∨ i = 2 ∨ i = 3 ∨ i = 4 ∨ i = 5 ∨ i = 6 ∨ i = 7 ∨ i = 8 ∨ i = 9 ∨ i = 10 ∨ i = 11 ∨ i = 12 := by omega
        have h2 : j = 0 ∨ j = 1 ∨ j = 2 ∨ j = 3 ∨ j = 4 ∨ j = 5 ∨ j = 6 ∨ j = 7 ∨ j = 8 ∨ j = 9 ∨ j = 10 ∨ j = 11 ∨ j = 12 := by omega
        rcases h1 with rfl | rfl | rfl | rfl | rfl | rfl | rfl | rfl | rfl | rfl | rfl | rfl | rfl <;> rcases h2 with rfl | rfl | rfl | rfl | rfl | rfl | rfl | rfl | rfl | rfl | rfl | rfl | rfl <;> first | rfl | (simp at hh))
      (fun i y W => match i with | 0 => y = .agg #[.slice a l.length c, .int .i64 now] | 1 => ∃ a3 bs, y = .agg #[.slice a3 l.length l.length, .int .i64 now] ∧ StOwn 0 W.heap.size W a3 l bs | 2 => y = .agg #[.int .i64 st, .slice ra rs.length rq, .slice wa ws.length wq] | 3 => ∃ r3 w3, y = .agg #[.int .i64 st, .slice r3 rs.length rs.length, .slice w3 ws.length ws.length] ∧ TxOwn 0 W.heap.size W r3 w3 rs ws | 4 => y = .int .i64 key | 5 => ∃ x z, y = .tuple #[.agg #[.int .i64 sa, x, z], .int .i64 vv, .int .i64 cd] ∧ AnsT ra' wa' x z W | 6 => ∃ x z, y = .tuple #[.agg #[.int .i64 sa, x, z], .int .i64 vv, .int .i64 cd] ∧ AnsT ra' wa' x z W | 7 => ∃ x z, y = .agg #[.int .i64 sa, x, z] ∧ AnsT ra' wa' x z W | 8 => y = .int .i64 vv | 9 => y = .int .i64 cd | 10 => ∃ B cs, y = .pointer (some ⟨B, 0, none⟩) ∧ w2.heap.size ≤ B ∧ W.heap[B]? = some (.cells cs 33 (0, 0)) ∧ cs.size = 3 | 11 => True | _ => y = .int .i64 vv) (AtJ 11 10 8 sa ra' wa' w2) AtJ.start ?step ?last
    case step =>
      intro L u W i hi hLs hLi hj hdep
      have hzj := hj.1.size
      have qW : Hid (Below V.heap.size V W) := q2.out.trans (hj.1.mono q2.out.size)
      obtain ⟨t0, t1, t2, t3, t4⟩ := KV.out _ qW.out
      have e0 := fun o => row_cell t0 o
      have e1 := fun o => row_cell t1 o
      have TS : Hid _ := t2
      have TX : Hid _ := t3
      clear t0 t1 t2 t3 t4
      have up : ∀ {W' : World}, KeptT 33 W W' → ∀ (j : Nat) (y : Value), (fun i y W => match i with | 0 => y = .agg #[.slice a l.length c, .int .i64 now] | 1 => ∃ a3 bs, y = .agg #[.slice a3 l.length l.length, .int .i64 now] ∧ StOwn 0 W.heap.size W a3 l bs | 2 => y = .agg #[.int .i64 st, .slice ra rs.length rq, .slice wa ws.length wq] | 3 => ∃ r3 w3, y = .agg #[.int .i64 st, .slice r3 rs.length rs.length, .slice w3 ws.length ws.length] ∧ TxOwn 0 W.heap.size W r3 w3 rs ws | 4 => y = .int .i64 key | 5 => ∃ x z, y = .tuple #[.agg #[.int .i64 sa, x, z], .int .i64 vv, .int .i64 cd] ∧ AnsT ra' wa' x z W | 6 => ∃ x z, y = .tuple #[.agg #[.int .i64 sa, x, z], .int .i64 vv, .int .i64 cd] ∧ AnsT ra' wa' x z W | 7 => ∃ x z, y = .agg #[.int .i64 sa, x, z] ∧ AnsT ra' wa' x z W | 8 => y = .int .i64 vv | 9 => y = .int .i64 cd | 10 => ∃ B cs, y = .pointer (some ⟨B, 0, none⟩) ∧ w2.heap.size ≤ B ∧ W.heap[B]? = some (.cells cs 33 (0, 0)) ∧ cs.size = 3 | 11 => True | _ => y = .int .i64 vv) j y W → (fun i y W => match i with | 0 => y = .agg #[.slice a l.length c, .int .i64 now] | 1 => ∃ a3 bs, y = .agg #[.slice a3 l.length l.length, .int .i64 now] ∧ StOwn 0 W.heap.size W a3 l bs | 2 => y = .agg #[.int .i64 st, .slice ra rs.length rq, .slice wa ws.length wq] | 3 => ∃ r3 w3, y = .agg #[.int .i64 st, .slice r3 rs.length rs.length, .slice w3 ws.length ws.length] ∧ TxOwn 0 W.heap.size W r3 w3 rs ws | 4 => y = .int .i64 key | 5 => ∃ x z, y = .tuple #[.agg #[.int .i64 sa, x, z], .int .i64 vv, .int .i64 cd] ∧ AnsT ra' wa' x z W | 6 => ∃ x z, y = .tuple #[.agg #[.int .i64 sa, x, z], .int .i64 vv, .int .i64 cd] ∧ AnsT ra' wa' x z W | 7 => ∃ x z, y = .agg #[.int .i64 sa, x, z] ∧ AnsT ra' wa' x z W | 8 => y = .int .i64 vv | 9 => y = .int .i64 cd | 10 => ∃ B cs, y = .pointer (some ⟨B, 0, none⟩) ∧ w2.heap.size ≤ B ∧ W.heap[B]? = some (.cells cs 33 (0, 0)) ∧ cs.size = 3 | 11 => True | _ => y = .int .i64 vv) j y W' := fun {W'} hk j y hy => by
        match j, hy with
        | 0, hy => exact hy
        | 1, ⟨a3, bs, e, ho⟩ => exact ⟨a3, bs, e, ho.kept hk (by decide) (by decide)⟩
        | 2, hy => exact hy
        | 3, ⟨r3, w3, e, ho⟩ => exact ⟨r3, w3, e, ho.kept hk (by decide) (by decide)⟩
        | 4, hy => exact hy
        | 5, ⟨x, z, e, ho⟩ => exact ⟨x, z, e, ho.kept hk⟩
        | 6, ⟨x, z, e, ho⟩ => exact ⟨x, z, e, ho.kept hk⟩
        | 7, ⟨x, z, e, ho⟩ => exact ⟨x, z, e, ho.kept hk⟩
        | 8, hy => exact hy
        | 9, hy => exact hy
        | 10, ⟨B, cs, e, h1, h2, h3⟩ =>
          obtain ⟨cs', g1, g2, _⟩ := hk.2 B _ cs h2
          exact ⟨B, cs', e, h1, g1, by omega⟩
        | 11, _ => trivial
        | j + 12, hy => exact hy
      have UP : Hid _ := @up
      clear up
      have hcase : i = 0 ∨ i = 1 ∨ i = 2 ∨ i = 3 ∨ i = 4 ∨ i = 5 ∨ i = 6 ∨ i = 7 ∨ i = 8 ∨ i = 9 ∨ i = 10 ∨ i = 11 ∨ i = 12 := by omega
      rcases hcase with rfl | rfl | rfl | rfl | rfl | rfl | rfl | rfl | rfl | rfl | rfl | rfl | rfl
      · refine wpOp_step rfl (fun K hK => ?_)
        clear hdep
        go_simp
        exact hK _ _ ⟨_, rfl, UP.out (KeptT.refl _ _), rfl, hj.step (Below.refl _ _) (by omega) (fun _ => by decide)⟩
      · have d0 : u 33 = .agg #[.slice a l.length c, .int .i64 now] := (hdep _ rfl ⟨0, .data⟩ (by simp) rfl).2
        refine wpOp_step rfl (fun K hK => ?_)
        clear hdep e0 e1
        go_simp
        refine (to_store a c l now _ TS.out HE.out).mono ?_
        rintro e v3 ⟨a3, b3, rfl, r3, hb3⟩
        exact hK _ _ ⟨.agg #[.slice a3 l.length l.length, .int .i64 now], by simp [upd, d0], UP.out (KeptT.of hb3), ⟨a3, b3, rfl, StOwn.wide r3 (Nat.zero_le _) (Nat.le_refl _)⟩, hj.step hb3 (by omega) (fun _ => by decide)⟩
      · refine wpOp_step rfl (fun K hK => ?_)
        clear hdep
        go_simp
        exact hK _ _ ⟨_, rfl, UP.out (KeptT.refl _ _), rfl, hj.step (Below.refl _ _) (by omega) (fun _ => by decide)⟩
      · have d2 : u 35 = .agg #[.int .i64 st, .slice ra rs.length rq, .slice wa ws.length wq] := (hdep _ rfl ⟨2, .data⟩ (by simp) rfl).2
        refine wpOp_step rfl (fun K hK => ?_)
        clear hdep e0 e1
        go_simp
        refine (to_txn ra wa rq wq st rs ws _ TX.out HT.out).mono ?_
        rintro e v3 ⟨r3, w3, rfl, o3, hb3⟩
        exact hK _ _ ⟨.agg #[.int .i64 st, .slice r3 rs.length rs.length, .slice w3 ws.length ws.length], by simp [upd, d2], UP.out (KeptT.of hb3), ⟨r3, w3, rfl, TxOwn.wide o3 (Nat.zero_le _) (Nat.le_refl _)⟩, hj.step hb3 (by omega) (fun _ => by decide)⟩
      · refine wpOp_step rfl (fun K hK => ?_)
        clear hdep
        go_simp
        exact hK _ _ ⟨_, rfl, UP.out (KeptT.refl _ _), rfl, hj.step (Below.refl _ _) (by omega) (fun _ => by decide)⟩
      · obtain ⟨a3, b3, d1, o1⟩ : ∃ a3 bs, u 34 = .agg #[.slice a3 l.length l.length, .int .i64 now] ∧ StOwn 0 W.heap.size W a3 l bs := (hdep _ rfl ⟨1, .data⟩ (by simp) rfl).2
        obtain ⟨r3, w3, d3, o3⟩ : ∃ r3 w3, u 36 = .agg #[.int .i64 st, .slice r3 rs.length rs.length, .slice w3 ws.length ws.length] ∧ TxOwn 0 W.heap.size W r3 w3 rs ws := (hdep _ rfl ⟨3, .data⟩ (by simp) rfl).2
        have d4 : u 37 = .int .i64 key := (hdep _ rfl ⟨4, .data⟩ (by simp) rfl).2
        refine wpOp_step rfl (fun K hK => ?_)
        clear hdep e0 e1
        go_simp
        refine (spec_rt a3 r3 w3 _ _ _ l now st rs ws key _ o1.row HE.out o3.row HT.out (Nat.le_refl _) HY.out).mono ?_
        rintro e v5 ⟨⟨r5, c5, w5, d5, rfl, ox⟩, hb5⟩
        exact hK _ _ ⟨.tuple #[.agg #[.int .i64 sa, .slice r5 ra'.length c5, .slice w5 wa'.length d5], .int .i64 vv, .int .i64 cd], by simp [upd, d1, d3, d4], UP.out (KeptT.of hb5), ⟨_, _, rfl, r5, c5, w5, d5, rfl, rfl, _, ox⟩, hj.step hb5 (by omega) (fun _ => by decide)⟩
      · obtain ⟨x, z, d5, ax⟩ : ∃ x z, u 38 = .tuple #[.agg #[.int .i64 sa, x, z], .int .i64 vv, .int .i64 cd] ∧ AnsT ra' wa' x z W := (hdep _ rfl ⟨5, .data⟩ (by simp) rfl).2
        refine wpOp_step rfl (fun K hK => ?_)
        clear hdep
        go_simp
        exact hK _ _ ⟨_, by simp [upd, d5], UP.out (KeptT.refl _ _), ⟨x, z, rfl, ax⟩, hj.step (Below.refl _ _) (by omega) (fun _ => by decide)⟩
      · obtain ⟨x, z, d6, ax⟩ : ∃ x z, u 32 = .tuple #[.agg #[.int .i64 sa, x, z], .int .i64 vv, .int .i64 cd] ∧ AnsT ra' wa' x z W := (hdep _ rfl ⟨6, .data⟩ (by simp) rfl).2
        refine wpOp_step rfl (fun K hK => ?_)
        clear hdep
        go_simp
        exact hK _ _ ⟨_, by simp [upd, d6], UP.out (KeptT.refl _ _), ⟨x, z, rfl, ax⟩, hj.step (Below.refl _ _) (by omega) (fun _ => by decide)⟩
      · obtain ⟨x, z, d6, ax⟩ : ∃ x z, u 32 = .tuple #[.agg #[.int .i64 sa, x, z], .int .i64 vv, .int .i64 cd] ∧ AnsT ra' wa' x z W := (hdep _ rfl ⟨6, .data⟩ (by simp) rfl).2
        refine wpOp_step rfl (fun K hK => ?_)
        clear hdep
        go_simp
        exact hK _ _ ⟨_, by simp [upd, d6], UP.out (KeptT.refl _ _), rfl, hj.step (Below.refl _ _) (by omega) (fun _ => by decide)⟩
      · obtain ⟨x, z, d6, ax⟩ : ∃ x z, u 32 = .tuple #[.agg #[.int .i64 sa, x, z], .int .i64 vv, .int .i64 cd] ∧ AnsT ra' wa' x z W := (hdep _ rfl ⟨6, .data⟩ (by simp) rfl).2
        refine wpOp_step rfl (fun K hK => ?_)
        clear hdep
        go_simp
        exact hK _ _ ⟨_, by simp [upd, d6], UP.out (KeptT.refl _ _), rfl, hj.step (Below.refl _ _) (by omega) (fun _ => by decide)⟩
      · have l10 : L.getD 11 false = false := by
          cases h8 : L.getD 11 false
          · rfl
          · have h9 := hj.2.2 h8
            rw [getD_both (by omega) h9] at hLi; cases hLi
        have bA : Below W.heap.size W (W.alloc (.cells #[.int .i64 0, .slice none 0 0, .slice none 0 0] 33)) := (Below.refl _ _).alloc (Nat.le_refl _) _
        refine wpOp_step rfl (fun K hK => ?_)
        clear hdep e0 e1
        go_simp
        exact hK _ _ ⟨.pointer (some ⟨W.heap.size, 0, none⟩), by simp [upd], UP.out (KeptT.of bA), ⟨W.heap.size, _, rfl, hzj, heap_alloc_new _ _, rfl⟩, hj.step bA (by omega) (fun h => by rw [l10] at h; cases h)⟩
      · obtain ⟨B, cs, d9, hB1, hB2, hB3⟩ : ∃ B cs, u 8 = .pointer (some ⟨B, 0, none⟩) ∧ w2.heap.size ≤ B ∧ W.heap[B]? = some (.cells cs 33 (0, 0)) ∧ cs.size = 3 := (hdep _ rfl ⟨10, .data⟩ (by simp) rfl).2
        have l9 := (hdep _ rfl ⟨10, .data⟩ (by simp) rfl).1
        obtain ⟨x, z, d6, ax⟩ : ∃ x z, u 39 = .agg #[.int .i64 sa, x, z] ∧ AnsT ra' wa' x z W := (hdep _ rfl ⟨7, .data⟩ (by simp) rfl).2
        have ax2 := ax
        obtain ⟨rS, cS, wS, dS, rfl, rfl, _⟩ := ax2
        obtain ⟨c0, c1, c2, rfl⟩ : ∃ c0 c1 c2, cs = #[c0, c1, c2] := by
          obtain ⟨cl⟩ := cs
          obtain ⟨c0, c1, c2, rfl⟩ := listThree (by simpa using hB3)
          exact ⟨c0, c1, c2, rfl⟩
        have q2 := fun o => row_cell hB2 o
        have f2 := fun o => row_frozen hB2 o
        have s1 := row_set hB2 0 (.int .i64 sa)
        have s2 := row_set s1 1 (.slice rS ra'.length cS)
        have s3 := row_set s2 2 (.slice wS wa'.length dS)
        have kk : KeptT 33 W (((W.setCell ⟨B, 0, none⟩ (.int .i64 sa)).setCell ⟨B, 1, none⟩ (.slice rS ra'.length cS)).setCell ⟨B, 2, none⟩ (.slice wS wa'.length dS)) := ((KeptT.set hB2).trans (KeptT.set s1)).trans (KeptT.set s2)
        have S2 : Hid ((((W.setCell ⟨B, 0, none⟩ (.int .i64 sa)).setCell ⟨B, 1, none⟩ (.slice rS ra'.length cS)).setCell ⟨B, 2, none⟩ (.slice wS wa'.length dS)).heap[B]? = some (.cells #[.int .i64 sa, .slice rS ra'.length cS, .slice wS wa'.length dS] 33 (0, 0))) := by rw [Hid]; simpa using s3
        have KK : Hid _ := kk
        have HJ : Hid _ := hj
        have AX : Hid (AnsT ra' wa' (.slice rS ra'.length cS) (.slice wS wa'.length dS) W) := ax
        clear s1 s2 s3 kk hj ax e0 e1 hB2
        refine wpOp_step rfl (fun K hK => ?_)
        clear hdep
        go_simp
        refine hK _ _ ⟨undef, by simp [upd, d9, d6], UP.out KK.out, trivial, ?_⟩
        refine ⟨?_, fun _ => ⟨B, rS, cS, wS, dS, by rw [upd_ne _ _ (by decide)]; exact d9, hB1, S2.out, AX.out.kept KK.out⟩, fun _ => getD_upT l9⟩
        exact ((HJ.out.1.setCell (by exact hB1) _).setCell (by exact hB1) _).setCell (by exact hB1) _
      · have d7 : u 40 = .int .i64 vv := (hdep _ rfl ⟨8, .data⟩ (by simp) rfl).2
        refine wpOp_step rfl (fun K hK => ?_)
        clear hdep
        go_simp
        exact hK _ _ ⟨_, by simp [upd, d7], UP.out (KeptT.refl _ _), rfl, hj.step (Below.refl _ _) (by omega) (fun _ => by decide)⟩
    case last =>
      intro L u W hLs hL hj hp
      have d8 : u 41 = .int .i64 cd := hp 9 (by omega)
      have d11 : u 9 = .int .i64 vv := hp 12 (by omega)
      obtain ⟨B, rB, cB, wB', dB', d9, hB1, hB2, aX⟩ := hj.2.1 (hL 11 (by omega))
      have AX : Hid (AnsT ra' wa' (.slice rB ra'.length cB) (.slice wB' wa'.length dB') W) := aX
      have HB2 : Hid _ := hB2
      have BJ : Hid _ := hj.1
      clear hp hj hB2 aX
      unfold wpTail
      refine wpOp_step rfl (fun K hK => ?_)
      go_simp
      refine hK _ _ ?_
      clear hK
      unfold wpTail
      go_wp2_with fail
      go_meet
      exact ⟨B, rB, cB, wB', dB', by first | rfl | exact d9, by first | rfl | exact d11, by first | rfl | exact d8, HB2, hB1, (Array.getElem?_eq_some_iff.1 HB2.out).1, AX.out.row, BJ⟩
  obtain ⟨w3, rfl⟩ : ∃ x, x = wc := ⟨_, rfl⟩
  obtain ⟨B3, rS, cS, wS, dS, rfl, rfl, rfl, C3, hB2, hB3, R3, P3⟩ := hcut
  have q3 : Hid (Below V.heap.size V w3) := q2.out.trans (P3.out.mono q2.out.size)
  have z3 := P3.out.size
  have zv3 := q3.out.size
  have KA : Hid (∀ W, Below w3.heap.size w3 W → TxRow 0 W.heap.size W rS wS ra' wa' ∧ W.heap[B3]? = some (.cells #[.int .i64 sa, .slice rS ra'.length cS, .slice wS wa'.length dS] 33 (0, 0)) ∧ Below V.heap.size V W) := fun W h =>
    ⟨TxRow.up R3.out h, (h.block _ hB3).trans C3.out, q3.out.trans (h.mono (by omega))⟩
  have x3 := fun o => row_cell (KV.out _ q3.out).1 o
  clear x2 y2 C3 R3 P3
  go_wp2_with fail
  refine (to_store a c l now _ (KV.out _ q3.out).2.2.1 HE.out).mono ?_
  rintro e w4 ⟨aX, bX, rfl, r4, hb4⟩
  have z4 := hb4.size
  have O4 : Hid (StOwn w3.heap.size w4.heap.size w4 aX l bX) := r4
  have q4 : Hid (Below w3.heap.size w3 w4) := hb4
  have A4 := (KV.out _ (KA.out _ hb4).2.2).2.1
  have p0 := fun ob => (World.cell?_alloc_past (w := w4) ob (w.heap.size + 1) 0 (by omega)).trans (row_cell A4 0)
  have p1 := fun ob => (World.cell?_alloc_past (w := w4) ob (w.heap.size + 1) 1 (by omega)).trans (row_cell A4 1)
  have p2 := fun ob => (World.cell?_alloc_past (w := w4) ob (w.heap.size + 1) 2 (by omega)).trans (row_cell A4 2)
  clear hb4 r4 x3 A4
  go_wp2_with fail
  clear p0 p1 p2
  obtain ⟨vb, hvb⟩ : ∃ W, W = w4.alloc (.cells #[.slice aX l.length l.length, .int .i64 now] 38) := ⟨_, rfl⟩
  rw [← hvb]
  have zvb : w4.heap.size + 1 ≤ vb.heap.size := by rw [hvb]; simp
  have bvb : Below w4.heap.size w4 vb := by rw [hvb]; exact (Below.refl _ _).alloc (Nat.le_refl _) _
  have cvb : vb.heap[w4.heap.size]? = some (.cells #[.slice aX l.length l.length, .int .i64 now] 38 (0, 0)) := by rw [hvb]; exact heap_alloc_new _ _
  have KB : Hid (∀ W, Below vb.heap.size vb W → StOwn w3.heap.size w4.heap.size W aX l bX ∧ W.heap[w4.heap.size]? = some (.cells #[.slice aX l.length l.length, .int .i64 now] 38 (0, 0)) ∧ Below w3.heap.size w3 W) := fun W h =>
    ⟨StOwn.keep (StOwn.keep O4.out (agree bvb (Nat.le_refl _))) (agree h (by omega)), (h.block _ (by omega)).trans cvb, (q4.out.trans (bvb.mono (by omega))).trans (h.mono (by omega))⟩
  clear hvb cvb bvb O4 q4
  refine (to_txn ra wa rq wq st rs ws _ (KV.out _ (KA.out _ (KB.out _ (Below.refl _ _)).2.2).2.2).2.2.2.1 HT.out).mono ?_
  rintro e w5 ⟨rX, wX, rfl, o5, hb5⟩
  have z5 := hb5.size
  have q5 : Hid (Below vb.heap.size vb w5) := hb5
  have O5 : Hid (TxOwn vb.heap.size w5.heap.size w5 rX wX rs ws) := o5
  have A5 := (KB.out _ hb5).2.1
  have p0 := fun ob => (World.cell?_alloc_past (w := w5) ob w4.heap.size 0 (by omega)).trans (row_cell A5 0)
  have p1 := fun ob => (World.cell?_alloc_past (w := w5) ob w4.heap.size 1 (by omega)).trans (row_cell A5 1)
  clear hb5 o5 A5
  go_wp2_with fail
  clear p0 p1
  obtain ⟨vc, hvc⟩ : ∃ W, W = w5.alloc (.cells #[.int .i64 st, .slice rX rs.length rs.length, .slice wX ws.length ws.length] 33) := ⟨_, rfl⟩
  rw [← hvc]
  have zvc : w5.heap.size + 1 ≤ vc.heap.size := by rw [hvc]; simp
  have bvc : Below w5.heap.size w5 vc := by rw [hvc]; exact (Below.refl _ _).alloc (Nat.le_refl _) _
  have cvc : vc.heap[w5.heap.size]? = some (.cells #[.int .i64 st, .slice rX rs.length rs.length, .slice wX ws.length ws.length] 33 (0, 0)) := by rw [hvc]; exact heap_alloc_new _ _
  have KC : Hid (∀ W, Below vc.heap.size vc W → TxOwn vb.heap.size w5.heap.size W rX wX rs ws ∧ W.heap[w5.heap.size]? = some (.cells #[.int .i64 st, .slice rX rs.length rs.length, .slice wX ws.length ws.length] 33 (0, 0)) ∧ Below vb.heap.size vb W) := fun W h =>
    ⟨TxOwn.keep (TxOwn.keep O5.out (agree bvc (Nat.le_refl _))) (agree h (by omega)), (h.block _ (by omega)).trans cvc, (q5.out.trans (bvc.mono (by omega))).trans (h.mono (by omega))⟩
  clear hvc cvc bvc O5 q5
  have T6 := KC.out _ (Below.refl _ _)
  refine (impl_rt aX rX wX _ _ _ l now st rs ws key sa ra' wa' vv cd _ (ChRow.wide (KB.out _ T6.2.2).1.row (Nat.zero_le _) (by omega)) HE.out (TxRow.wide T6.1.row (Nat.zero_le _) (by omega)) HT.out HY.out).mono ?_
  clear T6
  rintro e w6 ⟨rG, cG, wG, dG, rfl, r6, hb6⟩
  have O6 : Hid (TxOwn vc.heap.size w6.heap.size w6 rG wG ra' wa') := r6
  have z6 := hb6.size
  have q6 : Hid (Below vc.heap.size vc w6) := hb6
  have A6 := (KA.out _ (KB.out _ (KC.out _ hb6).2.2).2.2).2.1
  have p0 := fun ob => (World.cell?_alloc_past (w := w6) ob B3 0 (by omega)).trans (row_cell A6 0)
  have p1 := fun ob => (World.cell?_alloc_past (w := w6) ob B3 1 (by omega)).trans (row_cell A6 1)
  have p2 := fun ob => (World.cell?_alloc_past (w := w6) ob B3 2 (by omega)).trans (row_cell A6 2)
  clear r6 hb6 A6
  go_wp2_with fail
  clear p0 p1 p2
  obtain ⟨vd, hvd⟩ : ∃ W, W = w6.alloc (.cells #[.int .i64 sa, .slice rG ra'.length cG, .slice wG wa'.length dG] 33) := ⟨_, rfl⟩
  rw [← hvd]
  have zvd : w6.heap.size + 1 ≤ vd.heap.size := by rw [hvd]; simp
  have bvd : Below w6.heap.size w6 vd := by rw [hvd]; exact (Below.refl _ _).alloc (Nat.le_refl _) _
  have cvd : vd.heap[w6.heap.size]? = some (.cells #[.int .i64 sa, .slice rG ra'.length cG, .slice wG wa'.length dG] 33 (0, 0)) := by rw [hvd]; exact heap_alloc_new _ _
  have KD : Hid (∀ W, Below vd.heap.size vd W → TxOwn vc.heap.size w6.heap.size W rG wG ra' wa' ∧ W.heap[w6.heap.size]? = some (.cells #[.int .i64 sa, .slice rG ra'.length cG, .slice wG wa'.length dG] 33 (0, 0)) ∧ Below vc.heap.size vc W) := fun W h =>
    ⟨TxOwn.keep (TxOwn.keep O6.out (agree bvd (Nat.le_refl _))) (agree h (by omega)), (h.block _ (by omega)).trans cvd, (q6.out.trans (bvd.mono (by omega))).trans (h.mono (by omega))⟩
  clear hvd cvd bvd O6 q6
  have D0 := KD.out _ (Below.refl _ _)
  refine (eq_txn rG wG rS wS cG dG cS dS sa ra' wa' _ (TxRow.wide D0.1.row (Nat.zero_le _) (by omega)) (KA.out _ (KB.out _ (KC.out _ D0.2.2).2.2).2.2).1 HF.out).mono ?_
  clear D0
  rintro e w7 ⟨rfl, hb7⟩
  have q7 : Hid (Below vd.heap.size vd w7) := hb7
  have z7 := hb7.size
  have T7 := KC.out _ (KD.out _ hb7).2.2
  have x7 := fun o => row_cell (KB.out _ T7.2.2).2.1 o
  have c7 := fun o => row_cell (KV.out _ (KA.out _ (KB.out _ T7.2.2).2.2).2.2).1 o
  clear hb7 T7
  go_wp2_with fail
  go_cut [72] from 68 to 72 (fun u wx => u = .bool false ∧ Below w7.heap.size w7 wx)
  case first =>
    go_region_with (first
      | (go_at_call 8
         refine Calls.mono (to_store a c l now _ (KV.out _ (KA.out _ (KB.out _ (KC.out _ (KD.out _ q7.out.drew).2.2).2.2).2.2).2.2).2.2.1 HE.out) ?_
         rintro e v6 ⟨a6, b6, rfl, r6, hb6⟩
         have e6 := fun o => (hb6.cell (p := ⟨w4.heap.size, o, none⟩) (show w4.heap.size < w7.heap.size by omega)).trans (x7 o)
         have R6 : Hid (ChRow 0 v6.heap.size v6 a6 l) := ChRow.wide r6.row (Nat.zero_le _) (Nat.le_refl _)
         have p6 : Hid (Below w7.heap.size w7 v6) := (Below.refl _ _).drew.trans (hb6.mono (Nat.le_refl _))
         clear r6 hb6)
      | (go_at_call 12
         refine (eq_store aX _ _ _ l now _ (ChRow.wide (KB.out _ (KC.out _ (KD.out _ (q7.out.trans (p6.out.mono (by omega)))).2.2).2.2).1.row (Nat.zero_le _) (by have := p6.out.size; omega)) R6.out HE.out).mono ?_
         rintro e v7 ⟨rfl, hb7⟩
         have p7 : Hid (Below w7.heap.size w7 v7) := p6.out.trans (hb7.mono (by have := p6.out.size; omega))))
    all_goals (try go_wp2_with fail)
    all_goals go_meet
    all_goals exact ⟨rfl, p7.out⟩
  obtain ⟨w8, rfl⟩ : ∃ x, x = wc := ⟨_, rfl⟩
  obtain ⟨rfl, hb8⟩ := hcut
  have z8 := hb8.size
  have q8 : Hid (Below vd.heap.size vd w8) := q7.out.trans (hb8.mono (by omega))
  have T8 := KC.out _ (KD.out _ q8.out).2.2
  have x8 := fun o => row_cell T8.2.1 o
  have c8 := fun o => row_cell (KV.out _ (KA.out _ (KB.out _ T8.2.2).2.2).2.2).2.1 o
  clear hb8 T8 x7 c7 q7
  go_wp2_with fail
  go_cut [77] from 73 to 77 (fun u wx => u = .bool false ∧ Below w8.heap.size w8 wx)
  case first =>
    go_region_with (first
      | (go_at_call 9
         refine Calls.mono (to_txn ra wa rq wq st rs ws _ (KV.out _ (KA.out _ (KB.out _ (KC.out _ (KD.out _ q8.out.drew).2.2).2.2).2.2).2.2).2.2.2.1 HT.out) ?_
         rintro e v8 ⟨r8, w8', rfl, o8, hb8⟩
         have e8 := fun o => (hb8.cell (p := ⟨w5.heap.size, o, none⟩) (show w5.heap.size < w8.heap.size by omega)).trans (x8 o)
         have O8 : Hid (TxRow 0 v8.heap.size v8 r8 w8' rs ws) := TxRow.wide o8.row (Nat.zero_le _) (Nat.le_refl _)
         have p8 : Hid (Below w8.heap.size w8 v8) := (Below.refl _ _).drew.trans (hb8.mono (Nat.le_refl _))
         clear o8 hb8)
      | (go_at_call 11
         refine (eq_txn rX wX _ _ _ _ _ _ st rs ws _ (TxRow.wide (KC.out _ (KD.out _ (q8.out.trans (p8.out.mono (by omega)))).2.2).1.row (Nat.zero_le _) (by have := p8.out.size; omega)) O8.out HT.out).mono ?_
         rintro e v9 ⟨rfl, hb9⟩
         have p9 : Hid (Below w8.heap.size w8 v9) := p8.out.trans (hb9.mono (by have := p8.out.size; omega))))
    all_goals (try go_wp2_with fail)
    all_goals go_meet
    all_goals exact ⟨rfl, p9.out⟩
  obtain ⟨w9, rfl⟩ : ∃ x, x = wc := ⟨_, rfl⟩
  obtain ⟨rfl, hb9⟩ := hcut
  have z9 := hb9.size
  have q9 : Hid (Below vd.heap.size vd w9) := q8.out.trans (hb9.mono (by omega))
  have T9 := KC.out _ (KD.out _ q9.out).2.2
  have x9 := fun o => row_cell (KB.out _ T9.2.2).2.1 o
  clear hb9 T9 x8 c8 q8
  go_wp2_with fail
  clear x9
  have T9 := KC.out _ (KD.out _ q9.out).2.2
  refine (mark_has aX _ l now w3.heap.size w4.heap.size bX 1 _ (.inr (KB.out _ T9.2.2).1) HE.out HSZ.out (by omega) (by omega) (by omega)).mono ?_
  clear T9
  rintro e wE ⟨rE, rfl, hrE, _, kE⟩
  have zE := kE.size
  have TD := KD.out _ q9.out
  have TC := KC.out _ TD.2.2
  have UE : Hid (Below w3.heap.size w3 wE) := (KB.out _ TC.2.2).2.2.trans (kE.below (by omega) (Nat.le_refl _))
  have OE : Hid (TxOwn vc.heap.size w6.heap.size wE rG wG ra' wa') := TxOwn.keep TD.1 (kE.agree (by omega) (.inr (by omega)))
  have GE : Hid (wE.heap[w6.heap.size]? = some (.cells #[.int .i64 sa, .slice rG ra'.length cG, .slice wG wa'.length dG] 33 (0, 0))) := (kE.block _ (by omega) (by omega)).trans TD.2.1
  have XE : Hid (TxOwn vb.heap.size w5.heap.size wE rX wX rs ws) := TxOwn.keep TC.1 (kE.agree (by omega) (.inr (by omega)))
  have x10 := fun o => row_cell ((kE.block w5.heap.size (by omega) (by omega)).trans TC.2.1) o
  have hrE1 : 0 ≤ rE := by omega
  have hrE2 : rE ≤ 3298534883328 := by have := HSZ.out; omega
  clear TD TC hrE kE q9
  go_wp2_with fail
  clear x10
  refine (mark_txn rX wX _ _ st rs ws vb.heap.size w5.heap.size rE _ XE.out HT.out (by omega) hrE1 hrE2).mono ?_
  rintro e wM ⟨rM, rfl, hrM, _, kM⟩
  have hr0 : ¬ rM < 0 := by omega
  have zM := kM.size
  have UM : Hid (Below w3.heap.size w3 wM) := UE.out.trans (kM.below (by omega) (by omega))
  have OM : Hid (TxOwn vc.heap.size w6.heap.size wM rG wG ra' wa') := TxOwn.keep OE.out (kM.agree (by omega) (.inr (by omega)))
  have GM : Hid (wM.heap[w6.heap.size]? = some (.cells #[.int .i64 sa, .slice rG ra'.length cG, .slice wG wa'.length dG] 33 (0, 0))) := (kM.block _ (by omega) (by omega)).trans GE.out
  clear hrM kM UE OE GE XE hrE1 hrE2
  have KE : Hid (∀ W, Below wM.heap.size wM W → TxOwn vc.heap.size w6.heap.size W rG wG ra' wa' ∧ W.heap[w6.heap.size]? = some (.cells #[.int .i64 sa, .slice rG ra'.length cG, .slice wG wa'.length dG] 33 (0, 0)) ∧ Below w3.heap.size w3 W) := fun W h =>
    ⟨TxOwn.keep OM.out (agree h (by omega)), (h.block _ (by omega)).trans GM.out, UM.out.trans (h.mono (by omega))⟩
  clear OM GM UM KD KC KB
  have T8 := KE.out _ (Below.refl _ _)
  have x8 := fun o => row_cell T8.2.1 o
  have s8 := fun o => row_cell (KA.out _ T8.2.2).2.1 o
  clear T8
  go_wp2_with fail
  have T8 := KE.out _ (Below.refl _ _)
  refine (eq_txn rG wG rS wS cG dG cS dS sa ra' wa' _ (TxRow.wide T8.1.row (Nat.zero_le _) (by omega)) (KA.out _ T8.2.2).1 HF.out).mono ?_
  clear T8 x8 s8
  rintro e w10 ⟨rfl, hb10⟩
  have Q10 : Hid (Below wM.heap.size wM w10) := hb10
  have z10 := hb10.size
  have x10 := fun o => row_cell (KE.out _ hb10).2.1 o
  clear hb10
  go_wp2_with fail
  clear x10
  refine (mark_txn rG wG _ _ sa ra' wa' vc.heap.size w6.heap.size 1 _ (KE.out _ Q10.out).1 HF.out (by omega) (by omega) (by omega)).mono ?_
  rintro e wA ⟨rA, rfl, hrA, mA, kA⟩
  have zA := kA.size
  have MA : Hid (TxMk vc.heap.size w6.heap.size wA rG wG ra'.length wa'.length 1) := mA
  have GA : Hid (wA.heap[w6.heap.size]? = some (.cells #[.int .i64 sa, .slice rG ra'.length cG, .slice wG wa'.length dG] 33 (0, 0))) := (kA.block _ (by omega) (by omega)).trans (KE.out _ Q10.out).2.1
  have UA : Hid (Below w3.heap.size w3 wA) := (KE.out _ Q10.out).2.2.trans (kA.below (by omega) (by omega))
  have HRA : Hid (rA = 1 + ra'.length + 2 * wa'.length) := hrA
  clear mA kA KE hrA
  have KF : Hid (∀ W, Below wA.heap.size wA W → TxMk vc.heap.size w6.heap.size W rG wG ra'.length wa'.length 1 ∧ W.heap[w6.heap.size]? = some (.cells #[.int .i64 sa, .slice rG ra'.length cG, .slice wG wa'.length dG] 33 (0, 0)) ∧ Below w3.heap.size w3 W) := fun W h =>
    ⟨TxMk.keep MA.out (agree h (by omega)), (h.block _ (by omega)).trans GA.out, UA.out.trans (h.mono (by omega))⟩
  have xA := fun o => row_cell GA.out o
  clear MA GA UA
  go_wp2_with fail
  clear xA
  refine (held_txn rG wG _ _ ra'.length wa'.length sa vc.heap.size w6.heap.size 1 _ (KF.out _ (Below.refl _ _)).1 hF1 hF2 (by omega) (by omega) (by omega)).mono ?_
  rintro e wB ⟨rB, rfl, hrB, hbB⟩
  obtain rfl : rA = rB := by rw [hrB]; exact HRA.out
  have hrp : ¬ rA < 0 := by have := HRA.out; omega
  have QB : Hid (Below wA.heap.size wA wB) := hbB
  have zB := hbB.size
  have qB : Hid (Below V.heap.size V wB) := (KA.out _ (KF.out _ hbB).2.2).2.2
  have cB := fun o => row_cell (KV.out _ qB.out).1 o
  have dB := fun o => row_cell (KV.out _ qB.out).2.1 o
  clear hrB hbB
  go_wp2_with fail
  clear cB dB
  go_cut [19, 20, 21] from 113 to 122 (fun p u v wx => ∃ B rS cS wS dS, p = .pointer (some ⟨B, 0, none⟩) ∧ u = .int .i64 vv ∧ v = .int .i64 cd ∧ Hid (wx.heap[B]? = some (.cells #[.int .i64 sa, .slice rS ra'.length cS, .slice wS wa'.length dS] 33 (0, 0))) ∧ wB.heap.size ≤ B ∧ B < wx.heap.size ∧ Hid (TxRow 0 wx.heap.size wx rS wS ra' wa') ∧ Hid (Below wB.heap.size wB wx))
  case first =>
    refine region_rel5 (n := 13) (k := 1) (by omega) (by kernel_rfl) (by kernel_rfl) (by kernel_rfl) (fun u => ⟨#[.agg #[.slice a (List.length l) c, .int .i64 now], .agg #[.int .i64 st, .slice ra rs.length rq, .slice wa ws.length wq], .int .i64 key, .pointer (some ⟨w.heap.size, 0, none⟩), .pointer (some ⟨w.heap.size + 1, 0, none⟩), undef, .bool false, .int .i64 mp, .pointer (some ⟨B3, 0, none⟩), .int .i64 vv, .int .i64 cd, .pointer (some ⟨w4.heap.size, 0, none⟩), .pointer (some ⟨w5.heap.size, 0, none⟩), .pointer (some ⟨w6.heap.size, 0, none⟩), .int .i64 vv, .int .i64 cd, .int .i64 rM, .int .i64 rA, .int .i64 rA, u 19, u 20, undef, .agg #[.slice a (List.length l) c, .int .i64 now], .int .i64 1048576, .int .i64 mz, .int .i64 mz, .bool (decide (mz < 0)), .agg #[.int .i64 st, .slice ra rs.length rq, .slice wa ws.length wq], .int .i64 mz, .int .i64 mp, .int .i64 mp, .bool (decide (mp < 0)), u32, u33, u34, u35, u36, u37, u38, u39, u40, u41, .agg #[.slice a (List.length l) c, .int .i64 now], .agg #[.slice aX (List.length l) (List.length l), .int .i64 now], .agg #[.int .i64 st, .slice ra rs.length rq, .slice wa ws.length wq], .agg #[.int .i64 st, .slice rX rs.length rs.length, .slice wX ws.length ws.length], .tuple #[.agg #[.int .i64 sa, .slice rG ra'.length cG, .slice wG wa'.length dG], .int .i64 vv, .int .i64 cd], .agg #[.slice aX (List.length l) (List.length l), .int .i64 now], .agg #[.int .i64 st, .slice rX rs.length rs.length, .slice wX ws.length ws.length], .int .i64 key, .tuple #[.agg #[.int .i64 sa, .slice rG ra'.length cG, .slice wG wa'.length dG], .int .i64 vv, .int .i64 cd], .agg #[.int .i64 sa, .slice rG ra'.length cG, .slice wG wa'.length dG], .int .i64 vv, .int .i64 cd, .agg #[.int .i64 sa, .slice rG ra'.length cG, .slice wG wa'.length dG], .agg #[.int .i64 sa, .slice rS ra'.length cS, .slice wS wa'.length dS], .bool true, .bool false, .bool false, .int .i64 vv, .int .i64 vv, .bool false, .bool false, .bool false, .int .i64 cd, .int .i64 cd, .bool false, .bool false, u68, u69, u70, u71, .bool false, u73, u74, u75, u76, .bool false, .agg #[.slice aX (List.length l) (List.length l), .int .i64 now], .int .i64 1, .int .i64 rE, .agg #[.int .i64 st, .slice rX rs.length rs.length, .slice wX ws.length ws.length], .int .i64 rE, .int .i64 rM, .int .i64 rM, .bool (decide (rM < 0)), .bool (decide (rM < 0)), .agg #[.int .i64 sa, .slice rG ra'.length cG, .slice wG wa'.length dG], .agg #[.int .i64 sa, .slice rS ra'.length cS, .slice wS wa'.length dS], .bool true, .bool false, .bool (decide (rM < 0)), .bool (decide (rM < 0)), .int .i64 vv, .int .i64 vv, .bool false, .bool (decide (rM < 0)), .bool (decide (rM < 0)), .int .i64 cd, .int .i64 cd, .bool false, .bool (decide (rM < 0)), .agg #[.int .i64 sa, .slice rG ra'.length cG, .slice wG wa'.length dG], .int .i64 1, .int .i64 rA, .agg #[.int .i64 sa, .slice rG ra'.length cG, .slice wG wa'.length dG], .int .i64 1, .int .i64 rA, .int .i64 rA, .bool (decide (rA < 0)), .int .i64 rA, .int .i64 rA, .bool false, u 113, u 114, u 115, u 116, u 117, u 118, u 119, u 120, u 121, u 122, undef, undef, undef, undef, undef, undef, undef, undef, undef, undef, undef, undef, undef, undef, undef, undef, undef, undef, undef, undef, undef, undef], []⟩) (fun _ => undef) (fun i => match i with | 0 => 114 | 1 => 115 | 2 => 116 | 3 => 117 | 4 => 118 | 5 => 119 | 6 => 113 | 7 => 120 | 8 => 121 | 9 => 122 | 10 => 19 | 12 => 20 | _ => 400) (fun i j hi hj hh => by
        have h1 : i = 0 ∨ i = 1 ∨ i = 2 ∨ i = 3 ∨ i = 4 ∨ i = 5 ∨ i = 6 ∨ i = 7 ∨ i = 8 ∨ i = 9 ∨ i = 10 ∨ i = 11 ∨ i = 12 := by omega
        have h2 : j = 0 ∨ j = 1 ∨ j = 2 ∨ j = 3 ∨ j = 4 ∨ j = 5 ∨ j = 6 ∨ j = 7 ∨ j = 8 ∨ j = 9 ∨ j = 10 ∨ j = 11 ∨ j = 12 := by omega
        rcases h1 with rfl | rfl | rfl | rfl | rfl | rfl | rfl | rfl | rfl | rfl | rfl | rfl | rfl <;> rcases h2 with rfl | rfl | rfl | rfl | rfl | rfl | rfl | rfl | rfl | rfl | rfl | rfl | rfl <;> first | rfl | (simp at hh))
      (fun i y W => match i with | 0 => y = .agg #[.slice a l.length c, .int .i64 now] | 1 => ∃ a3 bs, y = .agg #[.slice a3 l.length l.length, .int .i64 now] ∧ StOwn 0 W.heap.size W a3 l bs | 2 => y = .agg #[.int .i64 st, .slice ra rs.length rq, .slice wa ws.length wq] | 3 => ∃ r3 w3, y = .agg #[.int .i64 st, .slice r3 rs.length rs.length, .slice w3 ws.length ws.length] ∧ TxOwn 0 W.heap.size W r3 w3 rs ws | 4 => y = .int .i64 key | 5 => ∃ x z, y = .tuple #[.agg #[.int .i64 sa, x, z], .int .i64 vv, .int .i64 cd] ∧ AnsT ra' wa' x z W | 6 => ∃ x z, y = .tuple #[.agg #[.int .i64 sa, x, z], .int .i64 vv, .int .i64 cd] ∧ AnsT ra' wa' x z W | 7 => ∃ x z, y = .agg #[.int .i64 sa, x, z] ∧ AnsT ra' wa' x z W | 8 => y = .int .i64 vv | 9 => y = .int .i64 cd | 10 => ∃ B cs, y = .pointer (some ⟨B, 0, none⟩) ∧ wB.heap.size ≤ B ∧ W.heap[B]? = some (.cells cs 33 (0, 0)) ∧ cs.size = 3 | 11 => True | _ => y = .int .i64 vv) (AtJ 11 10 19 sa ra' wa' wB) AtJ.start ?step ?last
    case step =>
      intro L u W i hi hLs hLi hj hdep
      have hzj := hj.1.size
      have qW : Hid (Below V.heap.size V W) := qB.out.trans (hj.1.mono qB.out.size)
      obtain ⟨t0, t1, t2, t3, t4⟩ := KV.out _ qW.out
      have e0 := fun o => row_cell t0 o
      have e1 := fun o => row_cell t1 o
      have TS : Hid _ := t2
      have TX : Hid _ := t3
      clear t0 t1 t2 t3 t4
      have up : ∀ {W' : World}, KeptT 33 W W' → ∀ (j : Nat) (y : Value), (fun i y W => match i with | 0 => y = .agg #[.slice a l.length c, .int .i64 now] | 1 => ∃ a3 bs, y = .agg #[.slice a3 l.length l.length, .int .i64 now] ∧ StOwn 0 W.heap.size W a3 l bs | 2 => y = .agg #[.int .i64 st, .slice ra rs.length rq, .slice wa ws.length wq] | 3 => ∃ r3 w3, y = .agg #[.int .i64 st, .slice r3 rs.length rs.length, .slice w3 ws.length ws.length] ∧ TxOwn 0 W.heap.size W r3 w3 rs ws | 4 => y = .int .i64 key | 5 => ∃ x z, y = .tuple #[.agg #[.int .i64 sa, x, z], .int .i64 vv, .int .i64 cd] ∧ AnsT ra' wa' x z W | 6 => ∃ x z, y = .tuple #[.agg #[.int .i64 sa, x, z], .int .i64 vv, .int .i64 cd] ∧ AnsT ra' wa' x z W | 7 => ∃ x z, y = .agg #[.int .i64 sa, x, z] ∧ AnsT ra' wa' x z W | 8 => y = .int .i64 vv | 9 => y = .int .i64 cd | 10 => ∃ B cs, y = .pointer (some ⟨B, 0, none⟩) ∧ wB.heap.size ≤ B ∧ W.heap[B]? = some (.cells cs 33 (0, 0)) ∧ cs.size = 3 | 11 => True | _ => y = .int .i64 vv) j y W → (fun i y W => match i with | 0 => y = .agg #[.slice a l.length c, .int .i64 now] | 1 => ∃ a3 bs, y = .agg #[.slice a3 l.length l.length, .int .i64 now] ∧ StOwn 0 W.heap.size W a3 l bs | 2 => y = .agg #[.int .i64 st, .slice ra rs.length rq, .slice wa ws.length wq] | 3 => ∃ r3 w3, y = .agg #[.int .i64 st, .slice r3 rs.length rs.length, .slice w3 ws.length ws.length] ∧ TxOwn 0 W.heap.size W r3 w3 rs ws | 4 => y = .int .i64 key | 5 => ∃ x z, y = .tuple #[.agg #[.int .i64 sa, x, z], .int .i64 vv, .int .i64 cd] ∧ AnsT ra' wa' x z W | 6 => ∃ x z, y = .tuple #[.agg #[.int .i64 sa, x, z], .int .i64 vv, .int .i64 cd] ∧ AnsT ra' wa' x z W | 7 => ∃ x z, y = .agg #[.int .i64 sa, x, z] ∧ AnsT ra' wa' x z W | 8 => y = .int .i64 vv | 9 => y = .int .i64 cd | 10 => ∃ B cs, y = .pointer (some ⟨B, 0, none⟩) ∧ wB.heap.size ≤ B ∧ W.heap[B]? = some (.cells cs 33 (0, 0)) ∧ cs.size = 3 | 11 => True | _ => y = .int .i64 vv) j y W' := fun {W'} hk j y hy => by
        match j, hy with
        | 0, hy => exact hy
        | 1, ⟨a3, bs, e, ho⟩ => exact ⟨a3, bs, e, ho.kept hk (by decide) (by decide)⟩
        | 2, hy => exact hy
        | 3, ⟨r3, w3, e, ho⟩ => exact ⟨r3, w3, e, ho.kept hk (by decide) (by decide)⟩
        | 4, hy => exact hy
        | 5, ⟨x, z, e, ho⟩ => exact ⟨x, z, e, ho.kept hk⟩
        | 6, ⟨x, z, e, ho⟩ => exact ⟨x, z, e, ho.kept hk⟩
        | 7, ⟨x, z, e, ho⟩ => exact ⟨x, z, e, ho.kept hk⟩
        | 8, hy => exact hy
        | 9, hy => exact hy
        | 10, ⟨B, cs, e, h1, h2, h3⟩ =>
          obtain ⟨cs', g1, g2, _⟩ := hk.2 B _ cs h2
          exact ⟨B, cs', e, h1, g1, by omega⟩
        | 11, _ => trivial
        | j + 12, hy => exact hy
      have UP : Hid _ := @up
      clear up
      have hcase : i = 0 ∨ i = 1 ∨ i = 2 ∨ i = 3 ∨ i = 4 ∨ i = 5 ∨ i = 6 ∨ i = 7 ∨ i = 8 ∨ i = 9 ∨ i = 10 ∨ i = 11 ∨ i = 12 := by omega
      rcases hcase with rfl | rfl | rfl | rfl | rfl | rfl | rfl | rfl | rfl | rfl | rfl | rfl | rfl
      · refine wpOp_step rfl (fun K hK => ?_)
        clear hdep
        go_simp
        exact hK _ _ ⟨_, rfl, UP.out (KeptT.refl _ _), rfl, hj.step (Below.refl _ _) (by omega) (fun _ => by decide)⟩
      · have d0 : u 114 = .agg #[.slice a l.length c, .int .i64 now] := (hdep _ rfl ⟨0, .data⟩ (by simp) rfl).2
        refine wpOp_step rfl (fun K hK => ?_)
        clear hdep e0 e1
        go_simp
        refine (to_store a c l now _ TS.out HE.out).mono ?_
        rintro e v3 ⟨a3, b3, rfl, r3, hb3⟩
        exact hK _ _ ⟨.agg #[.slice a3 l.length l.length, .int .i64 now], by simp [upd, d0], UP.out (KeptT.of hb3), ⟨a3, b3, rfl, StOwn.wide r3 (Nat.zero_le _) (Nat.le_refl _)⟩, hj.step hb3 (by omega) (fun _ => by decide)⟩
      · refine wpOp_step rfl (fun K hK => ?_)
        clear hdep
        go_simp
        exact hK _ _ ⟨_, rfl, UP.out (KeptT.refl _ _), rfl, hj.step (Below.refl _ _) (by omega) (fun _ => by decide)⟩
      · have d2 : u 116 = .agg #[.int .i64 st, .slice ra rs.length rq, .slice wa ws.length wq] := (hdep _ rfl ⟨2, .data⟩ (by simp) rfl).2
        refine wpOp_step rfl (fun K hK => ?_)
        clear hdep e0 e1
        go_simp
        refine (to_txn ra wa rq wq st rs ws _ TX.out HT.out).mono ?_
        rintro e v3 ⟨r3, w3, rfl, o3, hb3⟩
        exact hK _ _ ⟨.agg #[.int .i64 st, .slice r3 rs.length rs.length, .slice w3 ws.length ws.length], by simp [upd, d2], UP.out (KeptT.of hb3), ⟨r3, w3, rfl, TxOwn.wide o3 (Nat.zero_le _) (Nat.le_refl _)⟩, hj.step hb3 (by omega) (fun _ => by decide)⟩
      · refine wpOp_step rfl (fun K hK => ?_)
        clear hdep
        go_simp
        exact hK _ _ ⟨_, rfl, UP.out (KeptT.refl _ _), rfl, hj.step (Below.refl _ _) (by omega) (fun _ => by decide)⟩
      · obtain ⟨a3, b3, d1, o1⟩ : ∃ a3 bs, u 115 = .agg #[.slice a3 l.length l.length, .int .i64 now] ∧ StOwn 0 W.heap.size W a3 l bs := (hdep _ rfl ⟨1, .data⟩ (by simp) rfl).2
        obtain ⟨r3, w3, d3, o3⟩ : ∃ r3 w3, u 117 = .agg #[.int .i64 st, .slice r3 rs.length rs.length, .slice w3 ws.length ws.length] ∧ TxOwn 0 W.heap.size W r3 w3 rs ws := (hdep _ rfl ⟨3, .data⟩ (by simp) rfl).2
        have d4 : u 118 = .int .i64 key := (hdep _ rfl ⟨4, .data⟩ (by simp) rfl).2
        refine wpOp_step rfl (fun K hK => ?_)
        clear hdep e0 e1
        go_simp
        refine (impl_rt a3 r3 w3 _ _ _ l now st rs ws key sa ra' wa' vv cd _ o1.row HE.out o3.row HT.out HY.out).mono ?_
        rintro e v5 ⟨r5, c5, w5, d5, rfl, ox, hb5⟩
        exact hK _ _ ⟨.tuple #[.agg #[.int .i64 sa, .slice r5 ra'.length c5, .slice w5 wa'.length d5], .int .i64 vv, .int .i64 cd], by simp [upd, d1, d3, d4], UP.out (KeptT.of hb5), ⟨_, _, rfl, r5, c5, w5, d5, rfl, rfl, _, ox⟩, hj.step hb5 (by omega) (fun _ => by decide)⟩
      · obtain ⟨x, z, d5, ax⟩ : ∃ x z, u 119 = .tuple #[.agg #[.int .i64 sa, x, z], .int .i64 vv, .int .i64 cd] ∧ AnsT ra' wa' x z W := (hdep _ rfl ⟨5, .data⟩ (by simp) rfl).2
        refine wpOp_step rfl (fun K hK => ?_)
        clear hdep
        go_simp
        exact hK _ _ ⟨_, by simp [upd, d5], UP.out (KeptT.refl _ _), ⟨x, z, rfl, ax⟩, hj.step (Below.refl _ _) (by omega) (fun _ => by decide)⟩
      · obtain ⟨x, z, d6, ax⟩ : ∃ x z, u 113 = .tuple #[.agg #[.int .i64 sa, x, z], .int .i64 vv, .int .i64 cd] ∧ AnsT ra' wa' x z W := (hdep _ rfl ⟨6, .data⟩ (by simp) rfl).2
        refine wpOp_step rfl (fun K hK => ?_)
        clear hdep
        go_simp
        exact hK _ _ ⟨_, by simp [upd, d6], UP.out (KeptT.refl _ _), ⟨x, z, rfl, ax⟩, hj.step (Below.refl _ _) (by omega) (fun _ => by decide)⟩
      · obtain ⟨x, z, d6, ax⟩ : ∃ x z, u 113 = .tuple #[.agg #[.int .i64 sa, x, z], .int .i64 vv, .int .i64 cd] ∧ AnsT ra' wa' x z W := (hdep _ rfl ⟨6, .data⟩ (by simp) rfl).2
        refine wpOp_step rfl (fun K hK => ?_)
        clear hdep
        go_simp
        exact hK _ _ ⟨_, by simp [upd, d6], UP.out (KeptT.refl _ _), rfl, hj.step (Below.refl _ _) (by omega) (fun _ => by decide)⟩
      · obtain ⟨x, z, d6, ax⟩ : ∃ x z, u 113 = .tuple #[.agg #[.int .i64 sa, x, z], .int .i64 vv, .int .i64 cd] ∧ AnsT ra' wa' x z W := (hdep _ rfl ⟨6, .data⟩ (by simp) rfl).2
        refine wpOp_step rfl (fun K hK => ?_)
        clear hdep
        go_simp
        exact hK _ _ ⟨_, by simp [upd, d6], UP.out (KeptT.refl _ _), rfl, hj.step (Below.refl _ _) (by omega) (fun _ => by decide)⟩
      · have l10 : L.getD 11 false = false := by
          cases h8 : L.getD 11 false
          · rfl
          · have h9 := hj.2.2 h8
            rw [getD_both (by omega) h9] at hLi; cases hLi
        have bA : Below W.heap.size W (W.alloc (.cells #[.int .i64 0, .slice none 0 0, .slice none 0 0] 33)) := (Below.refl _ _).alloc (Nat.le_refl _) _
        refine wpOp_step rfl (fun K hK => ?_)
        clear hdep e0 e1
        go_simp
        exact hK _ _ ⟨.pointer (some ⟨W.heap.size, 0, none⟩), by simp [upd], UP.out (KeptT.of bA), ⟨W.heap.size, _, rfl, hzj, heap_alloc_new _ _, rfl⟩, hj.step bA (by omega) (fun h => by rw [l10] at h; cases h)⟩
      · obtain ⟨B, cs, d9, hB1, hB2, hB3⟩ : ∃ B cs, u 19 = .pointer (some ⟨B, 0, none⟩) ∧ wB.heap.size ≤ B ∧ W.heap[B]? = some (.cells cs 33 (0, 0)) ∧ cs.size = 3 := (hdep _ rfl ⟨10, .data⟩ (by simp) rfl).2
        have l9 := (hdep _ rfl ⟨10, .data⟩ (by simp) rfl).1
        obtain ⟨x, z, d6, ax⟩ : ∃ x z, u 120 = .agg #[.int .i64 sa, x, z] ∧ AnsT ra' wa' x z W := (hdep _ rfl ⟨7, .data⟩ (by simp) rfl).2
        have ax2 := ax
        obtain ⟨rS, cS, wS, dS, rfl, rfl, _⟩ := ax2
        obtain ⟨c0, c1, c2, rfl⟩ : ∃ c0 c1 c2, cs = #[c0, c1, c2] := by
          obtain ⟨cl⟩ := cs
          obtain ⟨c0, c1, c2, rfl⟩ := listThree (by simpa using hB3)
          exact ⟨c0, c1, c2, rfl⟩
        have q2 := fun o => row_cell hB2 o
        have f2 := fun o => row_frozen hB2 o
        have s1 := row_set hB2 0 (.int .i64 sa)
        have s2 := row_set s1 1 (.slice rS ra'.length cS)
        have s3 := row_set s2 2 (.slice wS wa'.length dS)
        have kk : KeptT 33 W (((W.setCell ⟨B, 0, none⟩ (.int .i64 sa)).setCell ⟨B, 1, none⟩ (.slice rS ra'.length cS)).setCell ⟨B, 2, none⟩ (.slice wS wa'.length dS)) := ((KeptT.set hB2).trans (KeptT.set s1)).trans (KeptT.set s2)
        have S2 : Hid ((((W.setCell ⟨B, 0, none⟩ (.int .i64 sa)).setCell ⟨B, 1, none⟩ (.slice rS ra'.length cS)).setCell ⟨B, 2, none⟩ (.slice wS wa'.length dS)).heap[B]? = some (.cells #[.int .i64 sa, .slice rS ra'.length cS, .slice wS wa'.length dS] 33 (0, 0))) := by rw [Hid]; simpa using s3
        have KK : Hid _ := kk
        have HJ : Hid _ := hj
        have AX : Hid (AnsT ra' wa' (.slice rS ra'.length cS) (.slice wS wa'.length dS) W) := ax
        clear s1 s2 s3 kk hj ax e0 e1 hB2
        refine wpOp_step rfl (fun K hK => ?_)
        clear hdep
        go_simp
        refine hK _ _ ⟨undef, by simp [upd, d9, d6], UP.out KK.out, trivial, ?_⟩
        refine ⟨?_, fun _ => ⟨B, rS, cS, wS, dS, by rw [upd_ne _ _ (by decide)]; exact d9, hB1, S2.out, AX.out.kept KK.out⟩, fun _ => getD_upT l9⟩
        exact ((HJ.out.1.setCell (by exact hB1) _).setCell (by exact hB1) _).setCell (by exact hB1) _
      · have d7 : u 121 = .int .i64 vv := (hdep _ rfl ⟨8, .data⟩ (by simp) rfl).2
        refine wpOp_step rfl (fun K hK => ?_)
        clear hdep
        go_simp
        exact hK _ _ ⟨_, by simp [upd, d7], UP.out (KeptT.refl _ _), rfl, hj.step (Below.refl _ _) (by omega) (fun _ => by decide)⟩
    case last =>
      intro L u W hLs hL hj hp
      have d8 : u 122 = .int .i64 cd := hp 9 (by omega)
      have d11 : u 20 = .int .i64 vv := hp 12 (by omega)
      obtain ⟨B, rB, cB, wB', dB', d9, hB1, hB2, aX⟩ := hj.2.1 (hL 11 (by omega))
      have AX : Hid (AnsT ra' wa' (.slice rB ra'.length cB) (.slice wB' wa'.length dB') W) := aX
      have HB2 : Hid _ := hB2
      have BJ : Hid _ := hj.1
      clear hp hj hB2 aX
      unfold wpTail
      refine wpOp_step rfl (fun K hK => ?_)
      go_simp
      refine hK _ _ ?_
      clear hK
      unfold wpTail
      go_wp2_with fail
      go_meet
      exact ⟨B, rB, cB, wB', dB', by first | rfl | exact d9, by first | rfl | exact d11, by first | rfl | exact d8, HB2, hB1, (Array.getElem?_eq_some_iff.1 HB2.out).1, AX.out.row, BJ⟩
  obtain ⟨wH, rfl⟩ : ∃ x, x = wc := ⟨_, rfl⟩
  obtain ⟨BH, rH, cH, wH', dH, rfl, rfl, rfl, CH, hBH, hBH2, RH, PH⟩ := hcut
  have QH : Hid (Below wA.heap.size wA wH) := QB.out.trans (PH.out.mono (by omega))
  have zH := PH.out.size
  have xh := fun o => row_cell CH.out o
  have xs := fun o => row_cell (KA.out _ (KF.out _ QH.out).2.2).2.1 o
  clear PH CH
  go_wp2_with fail
  clear xh xs
  refine (eq_txn rH wH' rS wS cH dH cS dS sa ra' wa' _ RH.out (KA.out _ (KF.out _ QH.out).2.2).1 HF.out).mono ?_
  rintro e wI ⟨rfl, hbI⟩
  have QI : Hid (Below wA.heap.size wA wI) := QH.out.trans (hbI.mono (by omega))
  have zI := hbI.size
  have xI := fun o => row_cell (KF.out _ QI.out).2.1 o
  clear hbI RH
  go_wp2_with fail
  clear xI
  refine (held_txn rG wG _ _ ra'.length wa'.length sa vc.heap.size w6.heap.size 1 _ (KF.out _ QI.out).1 hF1 hF2 (by omega) (by omega) (by omega)).mono ?_
  rintro e wF ⟨rF, rfl, hrF, hbF⟩
  obtain rfl : rA = rF := by rw [hrF]; exact HRA.out
  have QF : Hid (Below w.heap.size w wF) := (KV.out _ (KA.out _ (KF.out _ (QI.out.trans (hbF.mono (by omega)))).2.2).2.2).2.2.2.2
  clear hrF hbF
  go_wp2_with fail
  go_ret
  exact ⟨rfl, QF.out⟩

set_option maxRecDepth 100000 in
theorem lifted (os : Os) (started : os.Started) (H : Type) (enc : TypeId × Value → H) :
    ReturnsInHanded {} Try.checked os 3 .any (Rows.fnExactReadTxnSpec.pre6 enc Try.prog Try.f3 Rows.fnExactReadTxnRow.domain false) (Rows.fnExactReadTxnSpec.post enc Try.prog Try.f3 false true false false) := by
  refine returnsInHanded_of_change (C := Try.checked) own started (by kernel_rfl) Try.func3
    (ChangeSpec.witness6 (enc := enc) (C := Try.checked) false ⟨#[], #[.agg #[.slice none 0 0, .int .i64 0], .agg #[.int .i64 0, .slice none 0 0, .slice none 0 0], .int .i64 0], []⟩ 8 (by kernel_rfl) (by kernel_rfl) (by kernel_rfl) (by kernel_rfl)) ?_
  intro W base args ds gs before hval0 hW hcnd _
  have hval : ∀ (j : Nat) t v, Try.f3.params[j]? = some t → args[j]? = some v → Value.okWide Try.prog W .any base t v := hval0
  have hW' := hW
  obtain ⟨p, q, hA0, hV, rfl, hfz, hnd⟩ := hW
  have hA : DataW.TrodAll enc Try.prog W 0 (fun _ => true) true Try.f3.params.toList args.toList ds p := hA0
  rw [Try.params3] at hA hval
  obtain ⟨v0, vs0, d0, ds0, p0, q0, hargs, rfl, rfl, h0, r0⟩ := trodAll_cons hA
  obtain ⟨v1, vs1, d1, ds1, p1, q1, rfl, rfl, rfl, h1, r1⟩ := trodAll_cons r0
  obtain ⟨v2, vs2, d2, ds2, p2, q2, rfl, rfl, rfl, h2, r2⟩ := trodAll_cons r1
  obtain ⟨rfl, rfl, rfl⟩ := trodAll_nil r2
  obtain rfl : args = #[v0, v1, v2] := by cases args; simp_all
  obtain ⟨rfl, rfl⟩ := trodVars_none hV
  have g0 := h0
  have lt0 : ∀ x ∈ p0, x.block < W.heap.size := by obtain ⟨m, hm⟩ := g0; exact DataW.trod_lt m _ _ _ hm
  obtain ⟨a0, c0, l0, n0, rfl, hb0, hr0⟩ : ∃ a c, ∃ l : Chs, ∃ n : Int, v0 = .agg #[.slice a l.length c, .int .i64 n] ∧ ChsBd maxLen l ∧ ChRow 0 W.heap.size W a l := by
    obtain ⟨cs, rfl, hsz⟩ := okWide_struct Try.underlying24 (hval 0 24 v0 rfl rfl)
    obtain ⟨fuel, hf⟩ := h0
    obtain ⟨y0, y1, n, hx, hlen, h1, h2⟩ := trod_struct2 Try.underlying24 hf
    have cd : Try.prog.cellsOf 24 = 2 := by kernel_rfl
    have c1 : Try.prog.cellsOf 22 = 1 := by kernel_rfl
    have ci : Try.prog.cellsOf 3 = 1 := by kernel_rfl
    obtain ⟨u⟩ := cs
    have hu : u.length = 2 := by rw [cd] at hsz; simpa using hsz
    obtain ⟨q0, q1, rfl⟩ := listTwo hu
    obtain ⟨a, c, l, e, hb, hr⟩ := Chs_open (by simpa [Value.cells, c1] using h1)
    obtain ⟨z, e2, _, _⟩ := DataW.trod_int Try.underlying3 h2
    simp [Value.cells, ci] at e e2
    subst e e2
    exact ⟨a, c, l, z, rfl, hb, hr⟩
  have g1 := h1
  have lt1 : ∀ x ∈ p1, x.block < W.heap.size := by obtain ⟨m, hm⟩ := g1; exact DataW.trod_lt m _ _ _ hm
  obtain ⟨st1, ta1, rc1, rs1, tw1, wc1, ws1, rfl, hb1, hr1⟩ : ∃ (st : Int) (ra : Option Addr) (rc : Nat) (rs : List Int) (wa : Option Addr) (wc : Nat) (ws : List Ve), v1 = .agg #[.int .i64 st, .slice ra rs.length rc, .slice wa ws.length wc] ∧ TxBd maxLen rs ws ∧ TxRow 0 W.heap.size W ra wa rs ws := by
    obtain ⟨cs, rfl, hsz⟩ := okWide_struct Try.underlying28 (hval 1 28 v1 rfl rfl)
    obtain ⟨fuel, hf⟩ := h1
    have cd : Try.prog.cellsOf 28 = 3 := by kernel_rfl
    have ci : Try.prog.cellsOf 3 = 1 := by kernel_rfl
    have c1 : Try.prog.cellsOf 25 = 1 := by kernel_rfl
    have c2 : Try.prog.cellsOf 26 = 1 := by kernel_rfl
    obtain ⟨u⟩ := cs
    have hu : u.length = 3 := by rw [cd] at hsz; simpa using hsz
    obtain ⟨u0, u1, u2, rfl⟩ := listThree hu
    obtain ⟨xs, n', rfl, hx, _, hxl, hf⟩ := DataW.trod_struct Try.underlying28 hf
    obtain ⟨y0, y1, y2, rfl⟩ := listThree hxl
    obtain ⟨k, e0, _, _⟩ := DataW.trod_int Try.underlying3 (hf 0 _ rfl)
    obtain ⟨a1, k1, l1, e1, b1, d1⟩ := Nus_open (hf 1 _ rfl)
    obtain ⟨a2, k2, l2, e2, _, b2, d2⟩ := Pus_open (hf 2 _ rfl)
    simp [Value.cells, ci, c1, c2] at e0 e1 e2
    subst e0 e1 e2
    exact ⟨k, a1, k1, l1, a2, k2, l2, rfl, ⟨b1, b2⟩, d1, d2⟩
  have g2 := h2
  have lt2 : ∀ x ∈ p2, x.block < W.heap.size := by obtain ⟨m, hm⟩ := g2; exact DataW.trod_lt m _ _ _ hm
  obtain ⟨x2, rfl, _, _, w2⟩ := open_int Try.underlying3 (hval 2 3 v2 rfl rfl) h2
  clear hA0 hval0
  refine (walk a0 c0 l0 n0 ta1 tw1 rc1 wc1 st1 rs1 ws1 x2 W hr0 hb0 hr1 hb1).mono fun e W' ⟨he, bel⟩ => ?_
  subst he
  exact ⟨_, rfl, _, _, _, [], _, [], hW', trodAll_mk1 (shut_bool Try.underlying4 _), (trodAll_cons_mk (Below.trod laidOut (by kernel_rfl) (of_decide_eq_true (by kernel_rfl)) g0 bel lt0) (trodAll_cons_mk (Below.trod laidOut (by kernel_rfl) (of_decide_eq_true (by kernel_rfl)) g1 bel lt1) (trodAll_cons_mk (Below.trod laidOut (by kernel_rfl) (of_decide_eq_true (by kernel_rfl)) g2 bel lt2) trodAll_mk0))), rfl, bel.frame _, fun h => by cases h⟩

theorem over : Rows.fnExactReadTxnRow.holds Try.pinned (OpenSpec.ofChange Rows.fnExactReadTxnSpec) :=
  OpenClaim.holds_of_wide 3 Try.f3 rfl rfl rfl rfl rfl rfl rfl ⟨rfl, rfl, rfl, rfl, rfl⟩ rfl rfl rfl rfl rfl (by kernel_rfl) Try.func3 (by kernel_rfl)
    (of_decide_eq_true (by kernel_rfl)) (by unfold Func.isWrapper; first | (rw [if_pos (by decide +kernel)]; kernel_rfl) | (rw [if_neg (by decide +kernel)]; exact ⟨rfl, rfl⟩))
    (fun os started H enc _ => lifted os started H enc)
end Go.Proofs.Ytlfcjhiojbcijaa.fnExactReadTxn
namespace Go.Proofs.Ytlfcjhiojbcijaa
theorem readTxn_holds : Rows.FnExactReadTxnSaid := fnExactReadTxn.over
#print axioms readTxn_holds
end Go.Proofs.Ytlfcjhiojbcijaa
