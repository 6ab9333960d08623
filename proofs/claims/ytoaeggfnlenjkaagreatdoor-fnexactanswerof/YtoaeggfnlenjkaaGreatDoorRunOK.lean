/- What is told of a run ahead of its answer and its writes, on both sides. -/
import Derived.Test.YtoaeggfnlenjkaaGreatDoorRunSz
import Derived.Test.YtoaeggfnlenjkaaGreatDoorDocOpAny
import Derived.Test.YtoaeggfnlenjkaaGreatDoorDocSpecOK
import Derived.Test.YtoaeggfnlenjkaaGreatDoorOuTextBoth
import Derived.Test.YtoaeggfnlenjkaaGreatDoorOuSpec
import Derived.Test.YtoaeggfnlenjkaaGreatDoorStPutsOK
import Derived.Test.YtoaeggfnlenjkaaGreatDoorDtImpl
namespace Go.Proofs.YtoaeggfnlenjkaaGreatDoor.G
open Go.ChangeShapes Go.WideShapes Go.ChangeAt Go.RowKit
set_option linter.unusedVariables false

/-- The run is right, and so is the document. -/
def runGood (l : List De) (r : Rn) : Bool := docB l && (opCode l == 0) && outB 20 r.h r.sub && putsB r.ws && pathsB r.es
def runC (l : List De) (r : Rn) : Int := if runGood l r = false then 1 else if r.need = -1 then 0 else 5
theorem runC_bad {l : List De} {r : Rn} (h : runGood l r = false) : runC l r = 1 := by unfold runC; rw [if_pos h]
theorem runC_good {l : List De} {r : Rn} (h : runGood l r = true) (hn : r.need = -1) : runC l r = 0 := by unfold runC; rw [if_neg (by rw [h]; decide), if_pos hn]
theorem runC_need {l : List De} {r : Rn} (h : runGood l r = true) (hn : r.need ≠ -1) : runC l r = 5 := by unfold runC; rw [if_neg (by rw [h]; decide), if_neg hn]
theorem runC_zero {l : List De} {r : Rn} (h : runC l r = 0) : runGood l r = true ∧ r.need = -1 := by
  unfold runC at h
  split at h
  · cases h
  · split at h
    · rename_i h1 h2; exact ⟨by simpa using h1, h2⟩
    · cases h
set_option maxHeartbeats 4000000 in
theorem impl_end (a : Option Addr) (c : Nat) (l : List De) (r : Rn) (p : RnA) (w : World) (hd : DeRow 0 w.heap.size w a l) (hdb : DefsBd 1048576 l) (hr : RunRow 0 w.heap.size w p r) (hc : r.h.keys.length ≤ p.c1) (hrb : RnSm r) (hv : Vars w) :
    Calls Tryz.prog 64 #[.agg #[.slice a l.length c], .agg #[.int .i64 r.need, .slice p.ra r.rs.length p.rc, .slice p.wa r.ws.length p.wc, .int .i64 r.h.k, .int .i64 r.h.n, .string r.h.t, .slice p.a1 r.h.keys.length p.c1, .slice p.a2 r.sub.len p.c2, .slice p.ea r.es.length p.ec]] w fun e w' => e = .returned (.int .i64 (runC l r)) ∧ Below w.heap.size w w' := by
  obtain ⟨V, hV⟩ : ∃ V, V = (w.alloc (.cells #[.slice a l.length c] 60)).alloc (.cells #[.int .i64 r.need, .slice p.ra r.rs.length p.rc, .slice p.wa r.ws.length p.wc, .int .i64 r.h.k, .int .i64 r.h.n, .string r.h.t, .slice p.a1 r.h.keys.length p.c1, .slice p.a2 r.sub.len p.c2, .slice p.ea r.es.length p.ec] 64) := ⟨_, rfl⟩
  have bV : Below w.heap.size w V := by
    rw [hV]
    repeat (first | exact Below.refl _ _ | refine Below.alloc ?_ (by first | omega | (simp <;> omega)) _)
  have c0 : V.heap[w.heap.size]? = some (.cells #[.slice a l.length c] 60 (0, 0)) := by
    rw [hV, Below.heap_alloc _ _ _ (by simp)]; exact heap_alloc_new _ _
  have c1 : V.heap[w.heap.size + 1]? = some (.cells #[.int .i64 r.need, .slice p.ra r.rs.length p.rc, .slice p.wa r.ws.length p.wc, .int .i64 r.h.k, .int .i64 r.h.n, .string r.h.t, .slice p.a1 r.h.keys.length p.c1, .slice p.a2 r.sub.len p.c2, .slice p.ea r.es.length p.ec] 64 (0, 0)) := by
    rw [hV]
    have := heap_alloc_new (w.alloc (.cells #[.slice a l.length c] 60)) (.cells #[.int .i64 r.need, .slice p.ra r.rs.length p.rc, .slice p.wa r.ws.length p.wc, .int .i64 r.h.k, .int .i64 r.h.n, .string r.h.t, .slice p.a1 r.h.keys.length p.c1, .slice p.a2 r.sub.len p.c2, .slice p.ea r.es.length p.ec] 64)
    simpa using this
  have z0 := (Array.getElem?_eq_some_iff.1 c0).1
  have z1 := (Array.getElem?_eq_some_iff.1 c1).1
  have T : Hid (∀ W, Below V.heap.size V W → W.heap[w.heap.size]? = some (.cells #[.slice a l.length c] 60 (0, 0)) ∧ W.heap[w.heap.size + 1]? = some (.cells #[.int .i64 r.need, .slice p.ra r.rs.length p.rc, .slice p.wa r.ws.length p.wc, .int .i64 r.h.k, .int .i64 r.h.n, .string r.h.t, .slice p.a1 r.h.keys.length p.c1, .slice p.a2 r.sub.len p.c2, .slice p.ea r.es.length p.ec] 64 (0, 0)) ∧ DeRow 0 W.heap.size W a l ∧ RunRow 0 W.heap.size W p r ∧ Below w.heap.size w W ∧ Vars W) := fun W hW =>
    have hw := bV.trans (hW.mono bV.size)
    ⟨(hW.block _ z0).trans c0, (hW.block _ z1).trans c1, hd.up hw, hr.up hw, hw, hv.up hw⟩
  have HDB : Hid _ := hdb
  have HRB : Hid _ := hrb
  have x0 := fun o => row_cell c0 o
  have x1 := fun o => row_cell c1 o
  clear hd hr hdb hrb c0 c1 bV z0 z1 hv
  go_enter Tryz.func64, Tryz.ntmps64
  go_upto_region 1 with fail
  rw [← hV]
  clear hV
  have Q0 : Hid (Below V.heap.size V V) := Below.refl _ _
  have T0 : Hid _ := T.out _ Q0.out
  cases hB1 : docB l with
  | false =>
    have hq := impl_doc a c l _ T0.out.2.2.1 HDB.out.1 HDB.out.2
    rw [hB1] at hq
    have HQ : Hid _ := hq
    have HC : Hid (runC l r = 1) := runC_bad (by unfold runGood; rw [hB1]; rfl)
    clear hq
    go_wp2_with fail
    refine Calls.mono HQ.out ?_
    rintro e y ⟨rfl, bq⟩
    have QB : Hid (Below w.heap.size w y) := (T.out _ (Q0.out.trans (bq.mono Q0.out.size))).2.2.2.2.1
    clear bq x0 x1
    go_wp2_with fail
    go_ret
    exact ⟨by rw [HC.out]; rfl, QB.out⟩
  | true =>
  have hq := impl_doc a c l _ T0.out.2.2.1 HDB.out.1 HDB.out.2
  rw [hB1] at hq
  have HQ : Hid _ := hq
  clear hq
  go_wp2_with fail
  refine Calls.mono HQ.out ?_
  rintro e w1 ⟨rfl, bq⟩
  have Q1 : Hid (Below V.heap.size V w1) := Q0.out.trans (bq.mono Q0.out.size)
  have T1 : Hid _ := T.out _ Q1.out
  clear bq x0 x1 HQ
  have x0 := fun o => row_cell T1.out.1 o
  have x1 := fun o => row_cell T1.out.2.1 o
  have HB1 : Hid (docB l = true) := hB1
  clear hB1
  have hq := impl_opFault a c l _ T1.out.2.2.1 HDB.out
  have HQ : Hid _ := hq
  clear hq
  go_wp2_with fail
  refine Calls.mono HQ.out ?_
  rintro e w2 ⟨rfl, bq⟩
  have Q2 : Hid (Below V.heap.size V w2) := Q1.out.trans (bq.mono Q1.out.size)
  have T2 : Hid _ := T.out _ Q2.out
  clear bq x0 x1 HQ
  have x0 := fun o => row_cell T2.out.1 o
  have x1 := fun o => row_cell T2.out.2.1 o
  generalize hOP : opCode l = y
  have HOP : Hid (opCode l = y) := hOP
  clear hOP
  cases hB2 : (y != 0) with
  | true =>
    have HC : Hid (runC l r = 1) := runC_bad (by unfold runGood; rw [HOP.out, show (y == 0) = false by simpa [bne] using hB2]; simp)
    go_wp2_with fail
    go_ret
    exact ⟨by rw [HC.out]; rfl, T2.out.2.2.2.2.1⟩
  | false =>
  have HB2 : Hid ((opCode l == 0) = true) := by rw [Hid, HOP.out]; simpa [bne] using hB2
  cases hB3 : outB 20 r.h r.sub with
  | false =>
    have hq := impl_outOK r.h r.sub p.a1 p.a2 p.c1 p.c2 _ T2.out.2.2.2.1.2.2.1 hc T2.out.2.2.2.1.2.2.2.1 HRB.out.1.2.2.1.1 HRB.out.1.2.2.1.2.1 HRB.out.1.2.2.1.2.2
    rw [hB3] at hq
    have HQ : Hid _ := hq
    have HC : Hid (runC l r = 1) := runC_bad (by unfold runGood; rw [hB3]; simp)
    clear hq
    go_wp2_with fail
    refine Calls.mono HQ.out ?_
    rintro e y ⟨rfl, bq⟩
    have QB : Hid (Below w.heap.size w y) := (T.out _ (Q2.out.trans (bq.mono Q2.out.size))).2.2.2.2.1
    clear bq x0 x1
    go_wp2_with fail
    go_ret
    exact ⟨by rw [HC.out]; rfl, QB.out⟩
  | true =>
  have hq := impl_outOK r.h r.sub p.a1 p.a2 p.c1 p.c2 _ T2.out.2.2.2.1.2.2.1 hc T2.out.2.2.2.1.2.2.2.1 HRB.out.1.2.2.1.1 HRB.out.1.2.2.1.2.1 HRB.out.1.2.2.1.2.2
  rw [hB3] at hq
  have HQ : Hid _ := hq
  clear hq
  go_wp2_with fail
  refine Calls.mono HQ.out ?_
  rintro e w3 ⟨rfl, bq⟩
  have Q3 : Hid (Below V.heap.size V w3) := Q2.out.trans (bq.mono Q2.out.size)
  have T3 : Hid _ := T.out _ Q3.out
  clear bq x0 x1 HQ
  have x0 := fun o => row_cell T3.out.1 o
  have x1 := fun o => row_cell T3.out.2.1 o
  have HB3 : Hid (outB 20 r.h r.sub = true) := hB3
  clear hB3
  cases hB4 : putsB r.ws with
  | false =>
    have hq := impl_putsOK p.wa p.wc r.ws _ T3.out.2.2.2.1.2.1 HRB.out.1.2.1
    rw [hB4] at hq
    have HQ : Hid _ := hq
    have HC : Hid (runC l r = 1) := runC_bad (by unfold runGood; rw [hB4]; simp)
    clear hq
    go_wp2_with fail
    refine Calls.mono HQ.out ?_
    rintro e y ⟨rfl, bq⟩
    have QB : Hid (Below w.heap.size w y) := (T.out _ (Q3.out.trans (bq.mono Q3.out.size))).2.2.2.2.1
    clear bq x0 x1
    go_wp2_with fail
    go_ret
    exact ⟨by rw [HC.out]; rfl, QB.out⟩
  | true =>
  have hq := impl_putsOK p.wa p.wc r.ws _ T3.out.2.2.2.1.2.1 HRB.out.1.2.1
  rw [hB4] at hq
  have HQ : Hid _ := hq
  clear hq
  go_wp2_with fail
  refine Calls.mono HQ.out ?_
  rintro e w4 ⟨rfl, bq⟩
  have Q4 : Hid (Below V.heap.size V w4) := Q3.out.trans (bq.mono Q3.out.size)
  have T4 : Hid _ := T.out _ Q4.out
  clear bq x0 x1 HQ
  have x0 := fun o => row_cell T4.out.1 o
  have x1 := fun o => row_cell T4.out.2.1 o
  have HB4 : Hid (putsB r.ws = true) := hB4
  clear hB4
  cases hB5 : pathsB r.es with
  | false =>
    have hq := impl_paths p.ea p.ec r.es _ T4.out.2.2.2.1.2.2.2.2 HRB.out.2.2 T4.out.2.2.2.2.2
    rw [hB5] at hq
    have HQ : Hid _ := hq
    have HC : Hid (runC l r = 1) := runC_bad (by unfold runGood; rw [hB5]; simp)
    clear hq
    go_wp2_with fail
    refine Calls.mono HQ.out ?_
    rintro e y ⟨rfl, bq⟩
    have QB : Hid (Below w.heap.size w y) := (T.out _ (Q4.out.trans (bq.mono Q4.out.size))).2.2.2.2.1
    clear bq x0 x1
    go_wp2_with fail
    go_ret
    exact ⟨by rw [HC.out]; rfl, QB.out⟩
  | true =>
  have hq := impl_paths p.ea p.ec r.es _ T4.out.2.2.2.1.2.2.2.2 HRB.out.2.2 T4.out.2.2.2.2.2
  rw [hB5] at hq
  have HQ : Hid _ := hq
  clear hq
  go_wp2_with fail
  refine Calls.mono HQ.out ?_
  rintro e w5 ⟨rfl, bq⟩
  have Q5 : Hid (Below V.heap.size V w5) := Q4.out.trans (bq.mono Q4.out.size)
  have T5 : Hid _ := T.out _ Q5.out
  clear bq x0 x1 HQ
  have x0 := fun o => row_cell T5.out.1 o
  have x1 := fun o => row_cell T5.out.2.1 o
  have HB5 : Hid (pathsB r.es = true) := hB5
  clear hB5
  have HG : Hid (runGood l r = true) := by unfold Hid runGood; rw [HB1.out, HB2.out, HB3.out, HB4.out, HB5.out]; rfl
  have QB : Hid (Below w.heap.size w w5) := T5.out.2.2.2.2.1
  cases hN : (r.need != -1) with
  | true =>
    have HC : Hid (runC l r = 5) := runC_need HG.out (by simpa [bne] using hN)
    go_wp2_with fail
    go_ret
    exact ⟨by rw [HC.out]; rfl, QB.out⟩
  | false =>
    have HC : Hid (runC l r = 0) := runC_good HG.out (by simpa [bne] using hN)
    go_wp2_with fail
    go_ret
    exact ⟨by rw [HC.out]; rfl, QB.out⟩
set_option maxHeartbeats 4000000 in
theorem spec_endA (a : Option Addr) (c : Nat) (l : List De) (r : Rn) (p : RnA) (ea : Option Addr) (hea : p.ea = ea) (w : World) (hd : DeRow 0 w.heap.size w a l) (hdb : DefsBd 1048576 l) (hr : RunRow 0 w.heap.size w p r) (hc : r.h.keys.length ≤ p.c1) (hrb : RnSm r) :
    Calls Tryz.prog 59 #[.agg #[.slice a l.length c], .agg #[.int .i64 r.need, .slice p.ra r.rs.length p.rc, .slice p.wa r.ws.length p.wc, .int .i64 r.h.k, .int .i64 r.h.n, .string r.h.t, .slice p.a1 r.h.keys.length p.c1, .slice p.a2 r.sub.len p.c2, .slice ea r.es.length p.ec]] w fun e w' => e = .returned (.int .i64 (runC l r)) ∧ Below w.heap.size w w' := by
  have HEA : Hid _ := hea
  clear hea
  obtain ⟨V, hV⟩ : ∃ V, V = (w.alloc (.cells #[.slice a l.length c] 60)).alloc (.cells #[.int .i64 r.need, .slice p.ra r.rs.length p.rc, .slice p.wa r.ws.length p.wc, .int .i64 r.h.k, .int .i64 r.h.n, .string r.h.t, .slice p.a1 r.h.keys.length p.c1, .slice p.a2 r.sub.len p.c2, .slice ea r.es.length p.ec] 64) := ⟨_, rfl⟩
  have bV : Below w.heap.size w V := by
    rw [hV]
    repeat (first | exact Below.refl _ _ | refine Below.alloc ?_ (by first | omega | (simp <;> omega)) _)
  have c0 : V.heap[w.heap.size]? = some (.cells #[.slice a l.length c] 60 (0, 0)) := by
    rw [hV, Below.heap_alloc _ _ _ (by simp)]; exact heap_alloc_new _ _
  have c1 : V.heap[w.heap.size + 1]? = some (.cells #[.int .i64 r.need, .slice p.ra r.rs.length p.rc, .slice p.wa r.ws.length p.wc, .int .i64 r.h.k, .int .i64 r.h.n, .string r.h.t, .slice p.a1 r.h.keys.length p.c1, .slice p.a2 r.sub.len p.c2, .slice ea r.es.length p.ec] 64 (0, 0)) := by
    rw [hV]
    have := heap_alloc_new (w.alloc (.cells #[.slice a l.length c] 60)) (.cells #[.int .i64 r.need, .slice p.ra r.rs.length p.rc, .slice p.wa r.ws.length p.wc, .int .i64 r.h.k, .int .i64 r.h.n, .string r.h.t, .slice p.a1 r.h.keys.length p.c1, .slice p.a2 r.sub.len p.c2, .slice ea r.es.length p.ec] 64)
    simpa using this
  have z0 := (Array.getElem?_eq_some_iff.1 c0).1
  have z1 := (Array.getElem?_eq_some_iff.1 c1).1
  have T : Hid (∀ W, Below V.heap.size V W → W.heap[w.heap.size]? = some (.cells #[.slice a l.length c] 60 (0, 0)) ∧ W.heap[w.heap.size + 1]? = some (.cells #[.int .i64 r.need, .slice p.ra r.rs.length p.rc, .slice p.wa r.ws.length p.wc, .int .i64 r.h.k, .int .i64 r.h.n, .string r.h.t, .slice p.a1 r.h.keys.length p.c1, .slice p.a2 r.sub.len p.c2, .slice ea r.es.length p.ec] 64 (0, 0)) ∧ DeRow 0 W.heap.size W a l ∧ RunRow 0 W.heap.size W p r ∧ Below w.heap.size w W) := fun W hW =>
    have hw := bV.trans (hW.mono bV.size)
    ⟨(hW.block _ z0).trans c0, (hW.block _ z1).trans c1, hd.up hw, hr.up hw, hw⟩
  have HDB : Hid _ := hdb
  have HRB : Hid _ := hrb
  have x0 := fun o => row_cell c0 o
  have x1 := fun o => row_cell c1 o
  clear hd hr hdb hrb c0 c1 bV z0 z1
  go_enter Tryz.func59, Tryz.ntmps59
  go_upto_region 1 with fail
  rw [← hV]
  clear hV
  have Q00 : Hid (Below V.heap.size V V) := Below.refl _ _
  have T00 : Hid _ := T.out _ Q00.out
  go_wp2_with fail
  refine (spec_op_any a c l _ T00.out.2.2.1 HDB.out).mono ?_
  rintro e w9 ⟨⟨dx, y, a3, c3, rfl, hop, _⟩, bq⟩
  have HOP : Hid (y = opCode l) := hop.code
  have zq := bq.size
  unfold deV
  obtain ⟨w0, hw0⟩ : ∃ x : World, x = w9.alloc (.cells #[.int .i64 dx.k, .string dx.nm, .string dx.on, .slice a3 dx.sels.len c3] 127) := ⟨_, rfl⟩
  have b0 : Below w9.heap.size w9 w0 := by rw [hw0]; exact (Below.refl _ _).alloc (Nat.le_refl _) _
  have Q0 : Hid (Below V.heap.size V w0) := bq.trans (b0.mono zq)
  have T0 : Hid _ := T.out _ Q0.out
  clear bq x0 x1 hop zq b0
  have x0 := fun o => row_cell T0.out.1 o
  have x1 := fun o => row_cell T0.out.2.1 o
  go_upto_region 2 with fail
  rw [← hw0]
  clear hw0
  cases hB1 : docB l with
  | false =>
    have hq := spec_doc a c l _ T0.out.2.2.1 HDB.out.1 HDB.out.2
    rw [hB1] at hq
    have HQ : Hid _ := hq
    have HC : Hid (runC l r = 1) := runC_bad (by unfold runGood; rw [hB1]; rfl)
    clear hq
    go_wp2_with fail
    refine Calls.mono HQ.out ?_
    rintro e y ⟨rfl, bq⟩
    have QB : Hid (Below w.heap.size w y) := (T.out _ (Q0.out.trans (bq.mono Q0.out.size))).2.2.2.2
    clear bq x0 x1
    go_wp2_with fail
    go_ret
    exact ⟨by rw [HC.out]; rfl, QB.out⟩
  | true =>
  have hq := spec_doc a c l _ T0.out.2.2.1 HDB.out.1 HDB.out.2
  rw [hB1] at hq
  have HQ : Hid _ := hq
  clear hq
  go_wp2_with fail
  refine Calls.mono HQ.out ?_
  rintro e w1 ⟨rfl, bq⟩
  have Q1 : Hid (Below V.heap.size V w1) := Q0.out.trans (bq.mono Q0.out.size)
  have T1 : Hid _ := T.out _ Q1.out
  clear bq x0 x1 HQ
  have x0 := fun o => row_cell T1.out.1 o
  have x1 := fun o => row_cell T1.out.2.1 o
  have HB1 : Hid (docB l = true) := hB1
  clear hB1
  cases hB2 : (y != 0) with
  | true =>
    have HC : Hid (runC l r = 1) := runC_bad (by unfold runGood; rw [← HOP.out, show (y == 0) = false by simpa [bne] using hB2]; simp)
    go_wp2_with fail
    go_ret
    exact ⟨by rw [HC.out]; rfl, T1.out.2.2.2.2⟩
  | false =>
  have HB2 : Hid ((opCode l == 0) = true) := by rw [Hid, ← HOP.out]; simpa [bne] using hB2
  have Q2 := Q1
  have T2 := T1
  cases hB3 : outB 20 r.h r.sub with
  | false =>
    have hq := spec_outOK r.h r.sub p.a1 p.a2 p.c1 p.c2 _ T2.out.2.2.2.1.2.2.1 hc T2.out.2.2.2.1.2.2.2.1 HRB.out.1.2.2.1.1 HRB.out.1.2.2.1.2.1 HRB.out.1.2.2.1.2.2
    rw [hB3] at hq
    have HQ : Hid _ := hq
    have HC : Hid (runC l r = 1) := runC_bad (by unfold runGood; rw [hB3]; simp)
    clear hq
    go_wp2_with fail
    refine Calls.mono HQ.out ?_
    rintro e y ⟨rfl, bq⟩
    have QB : Hid (Below w.heap.size w y) := (T.out _ (Q2.out.trans (bq.mono Q2.out.size))).2.2.2.2
    clear bq x0 x1
    go_wp2_with fail
    go_ret
    exact ⟨by rw [HC.out]; rfl, QB.out⟩
  | true =>
  have hq := spec_outOK r.h r.sub p.a1 p.a2 p.c1 p.c2 _ T2.out.2.2.2.1.2.2.1 hc T2.out.2.2.2.1.2.2.2.1 HRB.out.1.2.2.1.1 HRB.out.1.2.2.1.2.1 HRB.out.1.2.2.1.2.2
  rw [hB3] at hq
  have HQ : Hid _ := hq
  clear hq
  go_wp2_with fail
  refine Calls.mono HQ.out ?_
  rintro e w3 ⟨rfl, bq⟩
  have Q3 : Hid (Below V.heap.size V w3) := Q2.out.trans (bq.mono Q2.out.size)
  have T3 : Hid _ := T.out _ Q3.out
  clear bq x0 x1 HQ
  have x0 := fun o => row_cell T3.out.1 o
  have x1 := fun o => row_cell T3.out.2.1 o
  have HB3 : Hid (outB 20 r.h r.sub = true) := hB3
  clear hB3
  cases hB4 : putsB r.ws with
  | false =>
    have hq := spec_puts p.wa p.wc r.ws _ T3.out.2.2.2.1.2.1 HRB.out.1.2.1
    rw [hB4] at hq
    have HQ : Hid _ := hq
    have HC : Hid (runC l r = 1) := runC_bad (by unfold runGood; rw [hB4]; simp)
    clear hq
    go_wp2_with fail
    refine Calls.mono HQ.out ?_
    rintro e y ⟨rfl, bq⟩
    have QB : Hid (Below w.heap.size w y) := (T.out _ (Q3.out.trans (bq.mono Q3.out.size))).2.2.2.2
    clear bq x0 x1
    go_wp2_with fail
    go_ret
    exact ⟨by rw [HC.out]; rfl, QB.out⟩
  | true =>
  have hq := spec_puts p.wa p.wc r.ws _ T3.out.2.2.2.1.2.1 HRB.out.1.2.1
  rw [hB4] at hq
  have HQ : Hid _ := hq
  clear hq
  go_wp2_with fail
  refine Calls.mono HQ.out ?_
  rintro e w4 ⟨rfl, bq⟩
  have Q4 : Hid (Below V.heap.size V w4) := Q3.out.trans (bq.mono Q3.out.size)
  have T4 : Hid _ := T.out _ Q4.out
  clear bq x0 x1 HQ
  have x0 := fun o => row_cell T4.out.1 o
  have x1 := fun o => row_cell T4.out.2.1 o
  have HB4 : Hid (putsB r.ws = true) := hB4
  clear hB4
  have hes : r.es.length ≤ 1048576 := HRB.out.1.2.2.2.1
  go_wp2_with fail
  clear x0 x1
  go_loopw [7] (fun i w' => ∃ k : Nat, k ≤ r.es.length ∧ i = .int .i64 k ∧ Hid (Below V.heap.size V w') ∧ Hid ((r.es.take k).all pathB = true)) (fun i _ => r.es.length - (intOf i).toNat)
  case atStart => exact ⟨0, Nat.zero_le _, rfl, Q4, by simp [Hid]⟩
  case round =>
    obtain ⟨wo, rfl⟩ : ∃ x, x = wr := ⟨_, rfl⟩
    obtain ⟨k, hk, rfl, QO, HA⟩ := hrel
    have TO : Hid _ := T.out _ QO.out
    have x1 := fun o => row_cell TO.out.2.1 o
    by_cases hlt : k < r.es.length
    · have hlt' : (k : Int) < r.es.length := by omega
      have hke : KeRow 0 wo.heap.size wo ea r.es := by have := TO.out.2.2.2.1.2.2.2.2; rw [HEA.out] at this; exact this
      obtain ⟨b, o, ha, _, hbl, d0⟩ := KeRow.cells hke k hlt
      subst ha
      have d0' : wo.cell? ⟨b, o + k, none⟩ = some (.string r.es[k]) := by simpa using d0
      have HS : Hid (r.es[k].size ≤ 1048576) := HRB.out.1.2.2.2.2 _ (List.getElem_mem hlt)
      have hq := spec_path r.es[k] wo HS.out
      cases hB : pathB r.es[k] with
      | false =>
        rw [hB] at hq
        have HQ : Hid _ := hq
        have HC : Hid (runC l r = 1) := runC_bad (by
          have : pathsB r.es = false := by
            unfold pathsB; rw [List.all_eq_false]; exact ⟨r.es[k], List.getElem_mem hlt, by simp [hB]⟩
          unfold runGood; rw [this]; simp)
        clear hq d0 hke
        go_wp2_with fail
        refine Calls.mono HQ.out ?_
        rintro e y1 ⟨rfl, bq⟩
        have QB : Hid (Below w.heap.size w y1) := (T.out _ (QO.out.trans (bq.mono QO.out.size))).2.2.2.2
        clear bq x1
        go_wp2_with fail
        go_ret
        exact ⟨by rw [HC.out]; rfl, QB.out⟩
      | true =>
        rw [hB] at hq
        have HQ : Hid _ := hq
        have HA2 : Hid ((r.es.take (k + 1)).all pathB = true) := all_take_b hlt HA.out hB
        clear hq d0 hke
        go_wp2_with fail
        refine Calls.mono HQ.out ?_
        rintro e y1 ⟨rfl, bq⟩
        have QB : Hid (Below V.heap.size V y1) := QO.out.trans (bq.mono QO.out.size)
        clear bq x1
        go_wp2_with fail
        go_roundw
        case rel => exact ⟨k + 1, by omega, by go_num, QB, HA2⟩
        case measure => simp [intOf]; omega
    · have hlt' : ¬ (k : Int) < r.es.length := by omega
      have HB5 : Hid (pathsB r.es = true) := by
        have h1 := HA.out
        rw [show k = r.es.length by omega, List.take_length] at h1
        exact h1
      have HG : Hid (runGood l r = true) := by unfold Hid runGood; rw [HB1.out, HB2.out, HB3.out, HB4.out, HB5.out]; rfl
      have QB : Hid (Below w.heap.size w wo) := TO.out.2.2.2.2
      cases hN : (r.need != -1) with
      | true =>
        have HC : Hid (runC l r = 5) := runC_need HG.out (by simpa [bne] using hN)
        go_wp2_with fail
        go_ret
        exact ⟨by rw [HC.out]; rfl, QB.out⟩
      | false =>
        have HC : Hid (runC l r = 0) := runC_good HG.out (by simpa [bne] using hN)
        go_wp2_with fail
        go_ret
        exact ⟨by rw [HC.out]; rfl, QB.out⟩
theorem spec_end (a : Option Addr) (c : Nat) (l : List De) (r : Rn) (p : RnA) (w : World) (hd : DeRow 0 w.heap.size w a l) (hdb : DefsBd 1048576 l) (hr : RunRow 0 w.heap.size w p r) (hc : r.h.keys.length ≤ p.c1) (hrb : RnSm r) :
    Calls Tryz.prog 59 #[.agg #[.slice a l.length c], .agg #[.int .i64 r.need, .slice p.ra r.rs.length p.rc, .slice p.wa r.ws.length p.wc, .int .i64 r.h.k, .int .i64 r.h.n, .string r.h.t, .slice p.a1 r.h.keys.length p.c1, .slice p.a2 r.sub.len p.c2, .slice p.ea r.es.length p.ec]] w fun e w' => e = .returned (.int .i64 (runC l r)) ∧ Below w.heap.size w w' :=
  spec_endA a c l r p p.ea rfl w hd hdb hr hc hrb
end Go.Proofs.YtoaeggfnlenjkaaGreatDoor.G
