/- AnswerOf, the program's side. -/
import Derived.Test.YtnkaoeijcdchiaaGreatDoorRunAns
import Derived.Test.YtnkaoeijcdchiaaGreatDoorDtImplTwo
import Derived.Test.YtnkaoeijcdchiaaGreatDoorGRegion
namespace Go.Proofs.YtnkaoeijcdchiaaGreatDoor.G
open Go.ChangeShapes Go.WideShapes Go.ChangeAt Go.RowKit
set_option linter.unusedVariables false

/-- The value that is told of a run. -/
def datB (l : List De) (r : Rn) : Bool := mutB l && decide (0 < r.es.length)
def datV (l : List De) (r : Rn) (p : RnA) : Value := bif datB l r then .agg #[.int .i64 0, .int .i64 0, .string ⟨#[]⟩, .slice none 0 0, .slice none 0 0] else .agg #[.int .i64 r.h.k, .int .i64 r.h.n, .string r.h.t, .slice p.a1 r.h.keys.length p.c1, .slice p.a2 r.sub.len p.c2]
theorem datV_as (l : List De) (r : Rn) (p : RnA) (hc : r.h.keys.length ≤ p.c1) (ho : outB 20 r.h r.sub = true) : ∃ hh ss b1 b2 f1 f2, datV l r p = .agg #[.int .i64 hh.k, .int .i64 hh.n, .string hh.t, .slice b1 hh.keys.length f1, .slice b2 ss.len f2] ∧ outB 20 hh ss = true ∧ hh.keys.length ≤ f1 ∧ (∀ W, RunRow 0 W.heap.size W p r → KeRow 0 W.heap.size W b1 hh.keys ∧ OuRow 0 W.heap.size W b2 ss) ∧ ansT l r = dataT (outT hh ss) r.es := by
  unfold datV ansT
  cases hM : datB l r with
  | true =>
    refine ⟨ohZ, .nil, none, none, 0, 0, rfl, ohZ_ok, Nat.zero_le _, fun W _ => ⟨.inl rfl, .inl rfl⟩, ?_⟩
    unfold datB at hM
    rw [if_pos hM]
  | false =>
    refine ⟨r.h, r.sub, p.a1, p.a2, p.c1, p.c2, rfl, ho, hc, fun W h => ⟨h.2.2.1, h.2.2.2.1⟩, ?_⟩
    unfold datB at hM
    rw [if_neg (by rw [hM]; decide)]
theorem PlR.one {l : List De} {p y : Int} (h : PlR l p y) (h0 : opCode l = 0) : ∃ j, ∃ hj : j < l.length, p = j ∧ l[j] = opL l := by
  have hy := h.code
  rw [h0] at hy
  rcases h with ⟨_, _, rfl⟩ | ⟨_, ⟨_, _, rfl⟩ | ⟨_, _, rfl⟩ | ⟨_, _, h2⟩⟩
  · cases hy
  · cases hy
  · cases hy
  · exact h2
set_option maxHeartbeats 4000000 in
theorem impl_dataOf (a : Option Addr) (c : Nat) (l : List De) (r : Rn) (p : RnA) (w : World) (hd : DeRow 0 w.heap.size w a l) (hdb : DefsBd 1048576 l) (hr : RunRow 0 w.heap.size w p r) (h0 : opCode l = 0) :
    Calls Tryz.prog 34 #[.agg #[.slice a l.length c], .agg #[.int .i64 r.need, .slice p.ra r.rs.length p.rc, .slice p.wa r.ws.length p.wc, .int .i64 r.h.k, .int .i64 r.h.n, .string r.h.t, .slice p.a1 r.h.keys.length p.c1, .slice p.a2 r.sub.len p.c2, .slice p.ea r.es.length p.ec]] w fun e w' => e = .returned (datV l r p) ∧ Below w.heap.size w w' := by
  have HOP : Hid _ := h0
  clear h0
  obtain ⟨V, hV⟩ : ∃ V, V = ((w.alloc (.cells #[.slice a l.length c] 39)).alloc (.cells #[.int .i64 r.need, .slice p.ra r.rs.length p.rc, .slice p.wa r.ws.length p.wc, .int .i64 r.h.k, .int .i64 r.h.n, .string r.h.t, .slice p.a1 r.h.keys.length p.c1, .slice p.a2 r.sub.len p.c2, .slice p.ea r.es.length p.ec] 46)).alloc (.cells #[.int .i64 0, .int .i64 0, .string ⟨#[]⟩, .slice none 0 0, .slice none 0 0] 44) := ⟨_, rfl⟩
  have bV : Below w.heap.size w V := by
    rw [hV]
    repeat (first | exact Below.refl _ _ | refine Below.alloc ?_ (by first | omega | (simp <;> omega)) _)
  have c0 : V.heap[w.heap.size]? = some (.cells #[.slice a l.length c] 39 (0, 0)) := by
    rw [hV, Below.heap_alloc _ _ _ (by simp <;> omega), Below.heap_alloc _ _ _ (by simp)]; exact heap_alloc_new _ _
  have c1 : V.heap[w.heap.size + 1]? = some (.cells #[.int .i64 r.need, .slice p.ra r.rs.length p.rc, .slice p.wa r.ws.length p.wc, .int .i64 r.h.k, .int .i64 r.h.n, .string r.h.t, .slice p.a1 r.h.keys.length p.c1, .slice p.a2 r.sub.len p.c2, .slice p.ea r.es.length p.ec] 46 (0, 0)) := by
    rw [hV, Below.heap_alloc _ _ _ (by simp)]
    have := heap_alloc_new (w.alloc (.cells #[.slice a l.length c] 39)) (.cells #[.int .i64 r.need, .slice p.ra r.rs.length p.rc, .slice p.wa r.ws.length p.wc, .int .i64 r.h.k, .int .i64 r.h.n, .string r.h.t, .slice p.a1 r.h.keys.length p.c1, .slice p.a2 r.sub.len p.c2, .slice p.ea r.es.length p.ec] 46)
    simpa using this
  have c2 : V.heap[w.heap.size + 1 + 1]? = some (.cells #[.int .i64 0, .int .i64 0, .string ⟨#[]⟩, .slice none 0 0, .slice none 0 0] 44 (0, 0)) := by
    rw [hV]
    have := heap_alloc_new ((w.alloc (.cells #[.slice a l.length c] 39)).alloc (.cells #[.int .i64 r.need, .slice p.ra r.rs.length p.rc, .slice p.wa r.ws.length p.wc, .int .i64 r.h.k, .int .i64 r.h.n, .string r.h.t, .slice p.a1 r.h.keys.length p.c1, .slice p.a2 r.sub.len p.c2, .slice p.ea r.es.length p.ec] 46)) (.cells #[.int .i64 0, .int .i64 0, .string ⟨#[]⟩, .slice none 0 0, .slice none 0 0] 44)
    simpa using this
  have z0 := (Array.getElem?_eq_some_iff.1 c0).1
  have z1 := (Array.getElem?_eq_some_iff.1 c1).1
  have z2 := (Array.getElem?_eq_some_iff.1 c2).1
  have T : Hid (∀ W, Below V.heap.size V W → W.heap[w.heap.size]? = some (.cells #[.slice a l.length c] 39 (0, 0)) ∧ W.heap[w.heap.size + 1]? = some (.cells #[.int .i64 r.need, .slice p.ra r.rs.length p.rc, .slice p.wa r.ws.length p.wc, .int .i64 r.h.k, .int .i64 r.h.n, .string r.h.t, .slice p.a1 r.h.keys.length p.c1, .slice p.a2 r.sub.len p.c2, .slice p.ea r.es.length p.ec] 46 (0, 0)) ∧ DeRow 0 W.heap.size W a l ∧ RunRow 0 W.heap.size W p r ∧ Below w.heap.size w W ∧ W.heap[w.heap.size + 1 + 1]? = some (.cells #[.int .i64 0, .int .i64 0, .string ⟨#[]⟩, .slice none 0 0, .slice none 0 0] 44 (0, 0))) := fun W hW =>
    have hw := bV.trans (hW.mono bV.size)
    ⟨(hW.block _ z0).trans c0, (hW.block _ z1).trans c1, hd.up hw, hr.up hw, hw, (hW.block _ z2).trans c2⟩
  have HDB : Hid _ := hdb
  have x0 := fun o => row_cell c0 o
  have x1 := fun o => row_cell c1 o
  have zV := bV.size
  clear hd hr hdb c0 c1 c2 bV z0 z1 z2
  go_enter Tryz.func34, Tryz.ntmps34
  go_upto_region 1 with fail
  rw [← hV]
  clear hV
  have T0 : Hid _ := T.out _ (Below.refl _ _)
  go_wp2_with fail
  refine (op_place a c l _ T0.out.2.2.1 HDB.out).mono ?_
  rintro e w1 ⟨q, y, rfl, hp, bq⟩
  obtain ⟨j, hj, rfl, hx⟩ := PlR.one hp HOP.out
  have HK : Hid (l[j].k = (opL l).k) := by rw [hx]; rfl
  have T1 : Hid _ := T.out _ bq
  have hl : l.length ≤ 1048576 := HDB.out.1
  clear bq hp hx x0 x1 T0
  have x0 := fun o => row_cell T1.out.1 o
  have x1 := fun o => row_cell T1.out.2.1 o
  have kr := fun o => row_cell T1.out.2.2.2.2.2 o
  have jr := fun o => row_frozen T1.out.2.2.2.2.2 o
  obtain ⟨b, o, a3, c3, ha, _, hbl, d0, d1, d2, d3, r3⟩ := DeRow.cells T1.out.2.2.1 j hj
  subst ha
  have hj' : (j : Int) < l.length := by omega
  clear r3
  cases hM : (l[j].k == 2) with
  | false =>
    have HV : Hid (datV l r p = .agg #[.int .i64 r.h.k, .int .i64 r.h.n, .string r.h.t, .slice p.a1 r.h.keys.length p.c1, .slice p.a2 r.sub.len p.c2]) := by unfold Hid datV datB mutB; rw [← HK.out, hM]; rfl
    go_wp2_with fail
    refine bodyPost_ret (v := .agg #[.int .i64 r.h.k, .int .i64 r.h.n, .string r.h.t, .slice p.a1 r.h.keys.length p.c1, .slice p.a2 r.sub.len p.c2]) (by simp [results, Tryz.results34, go_sem, kr]) rfl ⟨by rw [HV.out], ?_⟩
    repeat (first | exact T1.out.2.2.2.2.1 | refine Below.setCell ?_ (by first | omega | (simp <;> omega)) _ | refine Below.alloc ?_ (by first | omega | (simp <;> omega)) _)
  | true =>
  by_cases h0 : 0 < r.es.length
  · have HV : Hid (datV l r p = .agg #[.int .i64 0, .int .i64 0, .string ⟨#[]⟩, .slice none 0 0, .slice none 0 0]) := by unfold Hid datV datB mutB; rw [← HK.out, hM, decide_eq_true h0]; rfl
    have h0' : (0 : Int) < r.es.length := by omega
    go_wp2_with fail
    refine bodyPost_ret (v := .agg #[.int .i64 0, .int .i64 0, .string ⟨#[]⟩, .slice none 0 0, .slice none 0 0]) (by simp [results, Tryz.results34, go_sem, kr]) rfl ⟨by rw [HV.out], ?_⟩
    repeat (first | exact T1.out.2.2.2.2.1 | refine Below.setCell ?_ (by first | omega | (simp <;> omega)) _ | refine Below.alloc ?_ (by first | omega | (simp <;> omega)) _)
  · have HV : Hid (datV l r p = .agg #[.int .i64 r.h.k, .int .i64 r.h.n, .string r.h.t, .slice p.a1 r.h.keys.length p.c1, .slice p.a2 r.sub.len p.c2]) := by unfold Hid datV datB mutB; rw [← HK.out, hM, decide_eq_false h0]; rfl
    have h0' : ¬ (0 : Int) < r.es.length := by omega
    have h0'' : decide ((0 : Int) < r.es.length) = false := decide_eq_false h0'
    clear h0
    go_wp2_with fail
    refine bodyPost_ret (v := .agg #[.int .i64 r.h.k, .int .i64 r.h.n, .string r.h.t, .slice p.a1 r.h.keys.length p.c1, .slice p.a2 r.sub.len p.c2]) (by simp [results, Tryz.results34, go_sem, kr]) rfl ⟨by rw [HV.out], ?_⟩
    repeat (first | exact T1.out.2.2.2.2.1 | refine Below.setCell ?_ (by first | omega | (simp <;> omega)) _ | refine Below.alloc ?_ (by first | omega | (simp <;> omega)) _)
set_option maxHeartbeats 4000000 in
theorem impl_answerOf (a : Option Addr) (c : Nat) (l : List De) (r : Rn) (p : RnA) (w : World) (hd : DeRow 0 w.heap.size w a l) (hr : RunRow 0 w.heap.size w p r) (hc : r.h.keys.length ≤ p.c1) (hv : Vars w) (hdb : DefsBd 1048576 l) (hrb : RnSm r) :
    Calls Tryz.prog 10 #[.agg #[.slice a l.length c], .agg #[.int .i64 r.need, .slice p.ra r.rs.length p.rc, .slice p.wa r.ws.length p.wc, .int .i64 r.h.k, .int .i64 r.h.n, .string r.h.t, .slice p.a1 r.h.keys.length p.c1, .slice p.a2 r.sub.len p.c2, .slice p.ea r.es.length p.ec]] w fun e w' => e = ansE l r ∧ Below w.heap.size w w' := by
  have HRB : Hid _ := hrb
  clear hrb
  obtain ⟨V, hV⟩ : ∃ V, V = (w.alloc (.cells #[.slice a l.length c] 39)).alloc (.cells #[.int .i64 r.need, .slice p.ra r.rs.length p.rc, .slice p.wa r.ws.length p.wc, .int .i64 r.h.k, .int .i64 r.h.n, .string r.h.t, .slice p.a1 r.h.keys.length p.c1, .slice p.a2 r.sub.len p.c2, .slice p.ea r.es.length p.ec] 46) := ⟨_, rfl⟩
  have bV : Below w.heap.size w V := by
    rw [hV]
    repeat (first | exact Below.refl _ _ | refine Below.alloc ?_ (by first | omega | (simp <;> omega)) _)
  have c0 : V.heap[w.heap.size]? = some (.cells #[.slice a l.length c] 39 (0, 0)) := by
    rw [hV, Below.heap_alloc _ _ _ (by simp)]; exact heap_alloc_new _ _
  have c1 : V.heap[w.heap.size + 1]? = some (.cells #[.int .i64 r.need, .slice p.ra r.rs.length p.rc, .slice p.wa r.ws.length p.wc, .int .i64 r.h.k, .int .i64 r.h.n, .string r.h.t, .slice p.a1 r.h.keys.length p.c1, .slice p.a2 r.sub.len p.c2, .slice p.ea r.es.length p.ec] 46 (0, 0)) := by
    rw [hV]
    have := heap_alloc_new (w.alloc (.cells #[.slice a l.length c] 39)) (.cells #[.int .i64 r.need, .slice p.ra r.rs.length p.rc, .slice p.wa r.ws.length p.wc, .int .i64 r.h.k, .int .i64 r.h.n, .string r.h.t, .slice p.a1 r.h.keys.length p.c1, .slice p.a2 r.sub.len p.c2, .slice p.ea r.es.length p.ec] 46)
    simpa using this
  have z0 := (Array.getElem?_eq_some_iff.1 c0).1
  have z1 := (Array.getElem?_eq_some_iff.1 c1).1
  have T : Hid (∀ W, Below V.heap.size V W → W.heap[w.heap.size]? = some (.cells #[.slice a l.length c] 39 (0, 0)) ∧ W.heap[w.heap.size + 1]? = some (.cells #[.int .i64 r.need, .slice p.ra r.rs.length p.rc, .slice p.wa r.ws.length p.wc, .int .i64 r.h.k, .int .i64 r.h.n, .string r.h.t, .slice p.a1 r.h.keys.length p.c1, .slice p.a2 r.sub.len p.c2, .slice p.ea r.es.length p.ec] 46 (0, 0)) ∧ DeRow 0 W.heap.size W a l ∧ RunRow 0 W.heap.size W p r ∧ Below w.heap.size w W ∧ Vars W) := fun W hW =>
    have hw := bV.trans (hW.mono bV.size)
    ⟨(hW.block _ z0).trans c0, (hW.block _ z1).trans c1, hd.up hw, hr.up hw, hw, hv.up hw⟩
  have HDB : Hid _ := hdb
  have x0 := fun o => row_cell c0 o
  have x1 := fun o => row_cell c1 o
  have zV := bV.size
  clear hd hr hdb c0 c1 bV z0 z1 hv
  go_enter Tryz.func10, Tryz.ntmps10
  go_upto_region 1 with fail
  rw [← hV]
  clear hV
  have T0 : Hid _ := T.out _ (Below.refl _ _)
  go_wp2_with fail
  refine (impl_end a c l r p _ T0.out.2.2.1 HDB.out T0.out.2.2.2.1 hc HRB.out T0.out.2.2.2.2.2).mono ?_
  rintro e w1 ⟨rfl, bq⟩
  have Q1 : Hid _ := bq
  have T1 : Hid _ := T.out _ bq
  clear bq x0 x1 T0
  generalize hRC : runC l r = rc
  have HRC : Hid (runC l r = rc) := hRC
  clear hRC
  cases hb0 : (rc != 0) with
  | true =>
    have HW : Hid (ansE l r = .returned (.tuple #[.string ⟨#[]⟩, .int .i64 rc])) := by unfold Hid ansE; rw [HRC.out, if_neg (by simpa [bne] using hb0)]
    go_wp2_with fail
    go_ret2
    exact ⟨HW.out.symm, T1.out.2.2.2.2.1⟩
  | false =>
  have hz : rc = 0 := by simpa [bne] using hb0
  subst hz
  have hg' := (runC_zero HRC.out).1
  unfold runGood at hg'
  simp only [Bool.and_eq_true, beq_iff_eq] at hg'
  have HOP : Hid (opCode l = 0) := hg'.1.1.1.2
  have HOK : Hid (outB 20 r.h r.sub = true) := hg'.1.1.2
  have hle : r.es.length ≤ 1048576 := HRB.out.1.2.2.2.1
  have hsm : sumW r.es ≤ 1048576 := HRB.out.2.2
  have HLE : Hid _ := hle
  have HSM : Hid _ := hsm
  clear hle hsm hg'
  have x0 := fun o => row_cell T1.out.1 o
  have x1 := fun o => row_cell T1.out.2.1 o
  obtain ⟨hh, ss, b1, b2, f1, f2, hV5, hO5, hK5, hR5, hA5⟩ := datV_as l r p hc HOK.out
  have HW : Hid (ansE l r = .returned (.tuple #[.string (dataT (outT hh ss) r.es), .int .i64 0])) := by unfold Hid ansE; rw [if_pos HRC.out, hA5]
  have HQ : Hid (∀ W, Below V.heap.size V W → Calls Tryz.prog 34 #[.agg #[.slice a l.length c], .agg #[.int .i64 r.need, .slice p.ra r.rs.length p.rc, .slice p.wa r.ws.length p.wc, .int .i64 r.h.k, .int .i64 r.h.n, .string r.h.t, .slice p.a1 r.h.keys.length p.c1, .slice p.a2 r.sub.len p.c2, .slice p.ea r.es.length p.ec]] W fun e w' => e = .returned (.agg #[.int .i64 hh.k, .int .i64 hh.n, .string hh.t, .slice b1 hh.keys.length f1, .slice b2 ss.len f2]) ∧ Below W.heap.size W w') := fun W hW => by
    have := impl_dataOf a c l r p W (T.out W hW).2.2.1 HDB.out (T.out W hW).2.2.2.1 HOP.out
    rwa [hV5] at this
  have HS : Hid (∀ W, Below V.heap.size V W → Calls Tryz.prog 33 #[.agg #[.int .i64 hh.k, .int .i64 hh.n, .string hh.t, .slice b1 hh.keys.length f1, .slice b2 ss.len f2], .slice p.ea r.es.length p.ec] W fun e w' => e = .returned (.string (dataT (outT hh ss) r.es)) ∧ Below W.heap.size W w') := fun W hW =>
    have t := T.out W hW
    impl_dataTextIn hh ss b1 b2 p.ea f1 f2 p.ec r.es W (hR5 W t.2.2.2.1).1 hK5 (hR5 W t.2.2.2.1).2 hO5 t.2.2.2.1.2.2.2.2 HLE.out HSM.out t.2.2.2.2.2
  generalize dataT (outT hh ss) r.es = tx at *
  clear hV5 hO5 hK5 hR5 hA5 x0 x1
  go_upto_region 4 with fail
  refine region_rel (n := 7) (by kernel_rfl) (by kernel_rfl) (by kernel_rfl) (fun u => ⟨#[.agg #[.slice a l.length c], .agg #[.int .i64 r.need, .slice p.ra r.rs.length p.rc, .slice p.wa r.ws.length p.wc, .int .i64 r.h.k, .int .i64 r.h.n, .string r.h.t, .slice p.a1 r.h.keys.length p.c1, .slice p.a2 r.sub.len p.c2, .slice p.ea r.es.length p.ec], .pointer (some ⟨w.heap.size, 0, none⟩), .pointer (some ⟨w.heap.size + 1, 0, none⟩), u 4, .int .i64 0, .int .i64 0, .agg #[.slice a l.length c], .agg #[.int .i64 r.need, .slice p.ra r.rs.length p.rc, .slice p.wa r.ws.length p.wc, .int .i64 r.h.k, .int .i64 r.h.n, .string r.h.t, .slice p.a1 r.h.keys.length p.c1, .slice p.a2 r.sub.len p.c2, .slice p.ea r.es.length p.ec], .int .i64 0, .int .i64 0, .bool false, undef, u 13, u 14, u 15, u 16, u 17, u 18], []⟩) (fun n => match n with | 4 => .string ⟨#[]⟩ | _ => undef) (fun i => if i = 6 then 4 else i + 13) (fun i j hi hj h => by split at h <;> split at h <;> omega) (fun i v w2 => match i with | 0 => v = .agg #[.slice a l.length c] | 1 => v = .agg #[.int .i64 r.need, .slice p.ra r.rs.length p.rc, .slice p.wa r.ws.length p.wc, .int .i64 r.h.k, .int .i64 r.h.n, .string r.h.t, .slice p.a1 r.h.keys.length p.c1, .slice p.a2 r.sub.len p.c2, .slice p.ea r.es.length p.ec] | 2 => v = .agg #[.int .i64 hh.k, .int .i64 hh.n, .string hh.t, .slice b1 hh.keys.length f1, .slice b2 ss.len f2] | 3 => v = .pointer (some ⟨w.heap.size + 1, 8, none⟩) | 4 => v = .slice p.ea r.es.length p.ec | 5 => v = .string tx | 6 => v = .string tx | _ => True) (fun _ _ => True) ?up trivial ?step ?last
  case up =>
    intro i v w2 w3 hv hbb
    split at hv <;> exact hv
  case step =>
    intro u w2 i hi hbw _ hdep
    have TW : Hid (Below V.heap.size V w2) := Q1.out.trans (hbw.mono Q1.out.size)
    have y0 := fun o => row_cell (T.out _ TW.out).1 o
    have y1 := fun o => row_cell (T.out _ TW.out).2.1 o
    have hcase : i = 0 ∨ i = 1 ∨ i = 2 ∨ i = 3 ∨ i = 4 ∨ i = 5 ∨ i = 6 := by omega
    clear hi hbw
    rcases hcase with rfl | rfl | rfl | rfl | rfl | rfl | rfl
    · refine wpOp_step rfl (fun K hK => ?_)
      clear hdep
      go_simp
      exact hK _ _ ⟨_, rfl, Below.refl _ _, rfl, trivial⟩
    · refine wpOp_step rfl (fun K hK => ?_)
      clear hdep
      go_simp
      exact hK _ _ ⟨_, rfl, Below.refl _ _, rfl, trivial⟩
    · have d0 : u 13 = .agg #[.slice a l.length c] := hdep _ rfl ⟨0, .data⟩ (by simp) rfl
      have d1 : u 14 = .agg #[.int .i64 r.need, .slice p.ra r.rs.length p.rc, .slice p.wa r.ws.length p.wc, .int .i64 r.h.k, .int .i64 r.h.n, .string r.h.t, .slice p.a1 r.h.keys.length p.c1, .slice p.a2 r.sub.len p.c2, .slice p.ea r.es.length p.ec] := hdep _ rfl ⟨1, .data⟩ (by simp) rfl
      clear hdep y0 y1
      refine wpOp_step rfl (fun K hK => ?_)
      go_simp
      refine (HQ.out w2 TW.out).mono ?_
      rintro e w8 ⟨rfl, hb8⟩
      exact hK _ _ ⟨_, by simp [upd, d0, d1], hb8, rfl, trivial⟩
    · refine wpOp_step rfl (fun K hK => ?_)
      clear hdep
      go_simp
      exact hK _ _ ⟨_, rfl, Below.refl _ _, rfl, trivial⟩
    · have d3 : u 16 = .pointer (some ⟨w.heap.size + 1, 8, none⟩) := hdep _ rfl ⟨3, .data⟩ (by simp) rfl
      clear hdep
      refine wpOp_step rfl (fun K hK => ?_)
      go_simp
      exact hK _ _ ⟨_, by simp [upd, d3], Below.refl _ _, rfl, trivial⟩
    · have d2 : u 15 = .agg #[.int .i64 hh.k, .int .i64 hh.n, .string hh.t, .slice b1 hh.keys.length f1, .slice b2 ss.len f2] := hdep _ rfl ⟨2, .data⟩ (by simp) rfl
      have d4 : u 17 = .slice p.ea r.es.length p.ec := hdep _ rfl ⟨4, .data⟩ (by simp) rfl
      clear hdep y0 y1
      refine wpOp_step rfl (fun K hK => ?_)
      go_simp
      refine (HS.out w2 TW.out).mono ?_
      rintro e w8 ⟨rfl, hb8⟩
      exact hK _ _ ⟨_, by simp [upd, d2, d4], hb8, rfl, trivial⟩
    · have d5 : u 18 = .string tx := hdep _ rfl ⟨5, .data⟩ (by simp) rfl
      clear hdep
      refine wpOp_step rfl (fun K hK => ?_)
      go_simp
      exact hK _ _ ⟨_, by simp [upd, d5], Below.refl _ _, rfl, trivial⟩
  case last =>
    intro u w2 hbw _ hp2
    have d6 : u 4 = .string tx := hp2 6 (by omega)
    have TW : Hid (Below w.heap.size w w2) := (T.out _ (Q1.out.trans (hbw.mono Q1.out.size))).2.2.2.2.1
    clear hp2 hbw
    refine wpOp_step rfl (fun K hK => ?_)
    go_simp
    refine hK _ _ ?_
    clear hK K
    go_wp2_with fail
    go_ret2
    exact ⟨HW.out.symm, TW.out⟩
end Go.Proofs.YtnkaoeijcdchiaaGreatDoor.G
