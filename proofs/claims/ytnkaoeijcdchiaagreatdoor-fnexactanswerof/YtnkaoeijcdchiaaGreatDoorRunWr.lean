/- WritesOf, on both sides. -/
import Derived.Test.YtnkaoeijcdchiaaGreatDoorDocMath
import Derived.Test.YtnkaoeijcdchiaaGreatDoorDocOpAny
import Derived.Test.YtnkaoeijcdchiaaGreatDoorDocSpecOK
import Derived.Test.YtnkaoeijcdchiaaGreatDoorOuTakes
import Derived.Test.YtnkaoeijcdchiaaGreatDoorOuSpec
import Derived.Test.YtnkaoeijcdchiaaGreatDoorLexSpec
import Derived.Test.YtnkaoeijcdchiaaGreatDoorDtImpl
import Derived.Test.YtnkaoeijcdchiaaGreatDoorStMark
import Derived.Laws.CopyOwn
import Derived.Test.YtnkaoeijcdchiaaGreatDoorDtSpec
import Derived.Deep.AppendSrc
import Derived.Deep.Upon
namespace Go.Proofs.YtnkaoeijcdchiaaGreatDoor.G
open Go.ChangeShapes Go.WideShapes Go.ChangeAt Go.RowKit
set_option linter.unusedVariables false

/-- The run is right, and so is the document. -/
def runGood (l : List De) (r : Rn) : Bool := docB l && (opCode l == 0) && outB 20 r.h r.sub && putsB r.ws && pathsB r.es
def runC (l : List De) (r : Rn) : Int := if runGood l r = false then 1 else if r.need = -1 then 0 else 5
theorem runC_bad {l : List De} {r : Rn} (h : runGood l r = false) : runC l r = 1 := by unfold runC; rw [if_pos h]
theorem runC_good {l : List De} {r : Rn} (h : runGood l r = true) (hn : r.need = -1) : runC l r = 0 := by unfold runC; rw [if_neg (by rw [h]; decide), if_pos hn]
theorem runC_need {l : List De} {r : Rn} (h : runGood l r = true) (hn : r.need ≠ -1) : runC l r = 5 := by unfold runC; rw [if_neg (by rw [h]; decide), if_neg hn]
theorem runC_zero {l : List De} {r : Rn} (h : runC l r = 0) : runGood l r = true ∧ r.need = -1 := by
  unfold runC at h
  split at h
  · cases h
  · split at h
    · rename_i h1 h2; exact ⟨by simpa using h1, h2⟩
    · cases h
set_option maxHeartbeats 1000000 in
theorem impl_ended (r : Rn) (p : RnA) (w : World) :
    Calls Tryz.prog 63 #[.agg #[.int .i64 r.need, .slice p.ra r.rs.length p.rc, .slice p.wa r.ws.length p.wc, .int .i64 r.h.k, .int .i64 r.h.n, .string r.h.t, .slice p.a1 r.h.keys.length p.c1, .slice p.a2 r.sub.len p.c2, .slice p.ea r.es.length p.ec]] w fun e w' => e = .returned (.bool (r.need == -1)) ∧ Below w.heap.size w w' := by
  have B0 : Hid (Below w.heap.size w (w.alloc (.cells #[.int .i64 r.need, .slice p.ra r.rs.length p.rc, .slice p.wa r.ws.length p.wc, .int .i64 r.h.k, .int .i64 r.h.n, .string r.h.t, .slice p.a1 r.h.keys.length p.c1, .slice p.a2 r.sub.len p.c2, .slice p.ea r.es.length p.ec] 46))) := (Below.refl _ _).alloc (Nat.le_refl _) _
  go_enter Tryz.func63, Tryz.ntmps63
  go_wp2_with fail
  go_ret
  exact ⟨rfl, B0.out⟩
set_option maxHeartbeats 4000000 in
theorem impl_end (a : Option Addr) (c : Nat) (l : List De) (r : Rn) (p : RnA) (w : World) (hd : DeRow 0 w.heap.size w a l) (hdb : DefsBd 1048576 l) (hr : RunRow 0 w.heap.size w p r) (hc : r.h.keys.length ≤ p.c1) (hrb : RnSm r) (hv : Vars w) :
    Calls Tryz.prog 32 #[.agg #[.slice a l.length c], .agg #[.int .i64 r.need, .slice p.ra r.rs.length p.rc, .slice p.wa r.ws.length p.wc, .int .i64 r.h.k, .int .i64 r.h.n, .string r.h.t, .slice p.a1 r.h.keys.length p.c1, .slice p.a2 r.sub.len p.c2, .slice p.ea r.es.length p.ec]] w fun e w' => e = .returned (.int .i64 (runC l r)) ∧ Below w.heap.size w w' := by
  obtain ⟨V, hV⟩ : ∃ V, V = (w.alloc (.cells #[.slice a l.length c] 39)).alloc (.cells #[.int .i64 r.need, .slice p.ra r.rs.length p.rc, .slice p.wa r.ws.length p.wc, .int .i64 r.h.k, .int .i64 r.h.n, .string r.h.t, .slice p.a1 r.h.keys.length p.c1, .slice p.a2 r.sub.len p.c2, .slice p.ea r.es.length p.ec] 46) := ⟨_, rfl⟩
  have bV : Below w.heap.size w V := by
    rw [hV]
    repeat (first | exact Below.refl _ _ | refine Below.alloc ?_ (by first | omega | (simp <;> omega)) _)
  have c0 : V.heap[w.heap.size]? = some (.cells #[.slice a l.length c] 39 (0, 0)) := by
    rw [hV, Below.heap_alloc _ _ _ (by simp)]; exact heap_alloc_new _ _
  have c1 : V.heap[w.heap.size + 1]? = some (.cells #[.int .i64 r.need, .slice p.ra r.rs.length p.rc, .slice p.wa r.ws.length p.wc, .int .i64 r.h.k, .int .i64 r.h.n, .string r.h.t, .slice p.a1 r.h.keys.length p.c1, .slice p.a2 r.sub.len p.c2, .slice p.ea r.es.length p.ec] 46 (0, 0)) := by
    rw [hV]
    have := heap_alloc_new (w.alloc (.cells #[.slice a l.length c] 39)) (.cells #[.int .i64 r.need, .slice p.ra r.rs.length p.rc, .slice p.wa r.ws.length p.wc, .int .i64 r.h.k, .int .i64 r.h.n, .string r.h.t, .slice p.a1 r.h.keys.length p.c1, .slice p.a2 r.sub.len p.c2, .slice p.ea r.es.length p.ec] 46)
    simpa using this
  have z0 := (Array.getElem?_eq_some_iff.1 c0).1
  have z1 := (Array.getElem?_eq_some_iff.1 c1).1
  have T : Hid (∀ W, Below V.heap.size V W → W.heap[w.heap.size]? = some (.cells #[.slice a l.length c] 39 (0, 0)) ∧ W.heap[w.heap.size + 1]? = some (.cells #[.int .i64 r.need, .slice p.ra r.rs.length p.rc, .slice p.wa r.ws.length p.wc, .int .i64 r.h.k, .int .i64 r.h.n, .string r.h.t, .slice p.a1 r.h.keys.length p.c1, .slice p.a2 r.sub.len p.c2, .slice p.ea r.es.length p.ec] 46 (0, 0)) ∧ DeRow 0 W.heap.size W a l ∧ RunRow 0 W.heap.size W p r ∧ Below w.heap.size w W ∧ Vars W) := fun W hW =>
    have hw := bV.trans (hW.mono bV.size)
    ⟨(hW.block _ z0).trans c0, (hW.block _ z1).trans c1, hd.up hw, hr.up hw, hw, hv.up hw⟩
  have HDB : Hid _ := hdb
  have HRB : Hid _ := hrb
  have x0 := fun o => row_cell c0 o
  have x1 := fun o => row_cell c1 o
  clear hd hr hdb hrb c0 c1 bV z0 z1 hv
  go_enter Tryz.func32, Tryz.ntmps32
  go_upto_region 1 with fail
  rw [← hV]
  clear hV
  have Q0 : Hid (Below V.heap.size V V) := Below.refl _ _
  have T0 : Hid _ := T.out _ Q0.out
  cases hB1 : docB l with
  | false =>
    have hq := impl_doc a c l _ T0.out.2.2.1 HDB.out.1 HDB.out.2
    rw [hB1] at hq
    have HQ : Hid _ := hq
    have HC : Hid (runC l r = 1) := runC_bad (by unfold runGood; rw [hB1]; rfl)
    clear hq
    go_wp2_with fail
    refine Calls.mono HQ.out ?_
    rintro e y ⟨rfl, bq⟩
    have QB : Hid (Below w.heap.size w y) := (T.out _ (Q0.out.trans (bq.mono Q0.out.size))).2.2.2.2.1
    clear bq x0 x1
    go_wp2_with fail
    go_ret
    exact ⟨by rw [HC.out]; rfl, QB.out⟩
  | true =>
  have hq := impl_doc a c l _ T0.out.2.2.1 HDB.out.1 HDB.out.2
  rw [hB1] at hq
  have HQ : Hid _ := hq
  clear hq
  go_wp2_with fail
  refine Calls.mono HQ.out ?_
  rintro e w1 ⟨rfl, bq⟩
  have Q1 : Hid (Below V.heap.size V w1) := Q0.out.trans (bq.mono Q0.out.size)
  have T1 : Hid _ := T.out _ Q1.out
  clear bq x0 x1 HQ
  have x0 := fun o => row_cell T1.out.1 o
  have x1 := fun o => row_cell T1.out.2.1 o
  have HB1 : Hid (docB l = true) := hB1
  clear hB1
  have hq := impl_opFault a c l _ T1.out.2.2.1 HDB.out
  have HQ : Hid _ := hq
  clear hq
  go_wp2_with fail
  refine Calls.mono HQ.out ?_
  rintro e w2 ⟨rfl, bq⟩
  have Q2 : Hid (Below V.heap.size V w2) := Q1.out.trans (bq.mono Q1.out.size)
  have T2 : Hid _ := T.out _ Q2.out
  clear bq x0 x1 HQ
  have x0 := fun o => row_cell T2.out.1 o
  have x1 := fun o => row_cell T2.out.2.1 o
  generalize hOP : opCode l = y
  have HOP : Hid (opCode l = y) := hOP
  clear hOP
  cases hB2 : (y != 0) with
  | true =>
    have HC : Hid (runC l r = 1) := runC_bad (by unfold runGood; rw [HOP.out, show (y == 0) = false by simpa [bne] using hB2]; simp)
    go_wp2_with fail
    go_ret
    exact ⟨by rw [HC.out]; rfl, T2.out.2.2.2.2.1⟩
  | false =>
  have HB2 : Hid ((opCode l == 0) = true) := by rw [Hid, HOP.out]; simpa [bne] using hB2
  cases hB3 : outB 20 r.h r.sub with
  | false =>
    have hq := impl_outOK r.h r.sub p.a1 p.a2 p.c1 p.c2 _ T2.out.2.2.2.1.2.2.1 hc T2.out.2.2.2.1.2.2.2.1 HRB.out.1.2.2.1.1 HRB.out.1.2.2.1.2.1 HRB.out.1.2.2.1.2.2
    rw [hB3] at hq
    have HQ : Hid _ := hq
    have HC : Hid (runC l r = 1) := runC_bad (by unfold runGood; rw [hB3]; simp)
    clear hq
    go_wp2_with fail
    refine Calls.mono HQ.out ?_
    rintro e y ⟨rfl, bq⟩
    have QB : Hid (Below w.heap.size w y) := (T.out _ (Q2.out.trans (bq.mono Q2.out.size))).2.2.2.2.1
    clear bq x0 x1
    go_wp2_with fail
    go_ret
    exact ⟨by rw [HC.out]; rfl, QB.out⟩
  | true =>
  have hq := impl_outOK r.h r.sub p.a1 p.a2 p.c1 p.c2 _ T2.out.2.2.2.1.2.2.1 hc T2.out.2.2.2.1.2.2.2.1 HRB.out.1.2.2.1.1 HRB.out.1.2.2.1.2.1 HRB.out.1.2.2.1.2.2
  rw [hB3] at hq
  have HQ : Hid _ := hq
  clear hq
  go_wp2_with fail
  refine Calls.mono HQ.out ?_
  rintro e w3 ⟨rfl, bq⟩
  have Q3 : Hid (Below V.heap.size V w3) := Q2.out.trans (bq.mono Q2.out.size)
  have T3 : Hid _ := T.out _ Q3.out
  clear bq x0 x1 HQ
  have x0 := fun o => row_cell T3.out.1 o
  have x1 := fun o => row_cell T3.out.2.1 o
  have HB3 : Hid (outB 20 r.h r.sub = true) := hB3
  clear hB3
  cases hB4 : putsB r.ws with
  | false =>
    have hq := impl_putsOK p.wa p.wc r.ws _ T3.out.2.2.2.1.2.1 HRB.out.1.2.1
    rw [hB4] at hq
    have HQ : Hid _ := hq
    have HC : Hid (runC l r = 1) := runC_bad (by unfold runGood; rw [hB4]; simp)
    clear hq
    go_wp2_with fail
    refine Calls.mono HQ.out ?_
    rintro e y ⟨rfl, bq⟩
    have QB : Hid (Below w.heap.size w y) := (T.out _ (Q3.out.trans (bq.mono Q3.out.size))).2.2.2.2.1
    clear bq x0 x1
    go_wp2_with fail
    go_ret
    exact ⟨by rw [HC.out]; rfl, QB.out⟩
  | true =>
  have hq := impl_putsOK p.wa p.wc r.ws _ T3.out.2.2.2.1.2.1 HRB.out.1.2.1
  rw [hB4] at hq
  have HQ : Hid _ := hq
  clear hq
  go_wp2_with fail
  refine Calls.mono HQ.out ?_
  rintro e w4 ⟨rfl, bq⟩
  have Q4 : Hid (Below V.heap.size V w4) := Q3.out.trans (bq.mono Q3.out.size)
  have T4 : Hid _ := T.out _ Q4.out
  clear bq x0 x1 HQ
  have x0 := fun o => row_cell T4.out.1 o
  have x1 := fun o => row_cell T4.out.2.1 o
  have HB4 : Hid (putsB r.ws = true) := hB4
  clear hB4
  cases hB5 : pathsB r.es with
  | false =>
    have hq := impl_paths p.ea p.ec r.es _ T4.out.2.2.2.1.2.2.2.2 HRB.out.2.2 T4.out.2.2.2.2.2
    rw [hB5] at hq
    have HQ : Hid _ := hq
    have HC : Hid (runC l r = 1) := runC_bad (by unfold runGood; rw [hB5]; simp)
    clear hq
    go_wp2_with fail
    refine Calls.mono HQ.out ?_
    rintro e y ⟨rfl, bq⟩
    have QB : Hid (Below w.heap.size w y) := (T.out _ (Q4.out.trans (bq.mono Q4.out.size))).2.2.2.2.1
    clear bq x0 x1
    go_wp2_with fail
    go_ret
    exact ⟨by rw [HC.out]; rfl, QB.out⟩
  | true =>
  have hq := impl_paths p.ea p.ec r.es _ T4.out.2.2.2.1.2.2.2.2 HRB.out.2.2 T4.out.2.2.2.2.2
  rw [hB5] at hq
  have HQ : Hid _ := hq
  clear hq
  go_wp2_with fail
  refine Calls.mono HQ.out ?_
  rintro e w5 ⟨rfl, bq⟩
  have Q5 : Hid (Below V.heap.size V w5) := Q4.out.trans (bq.mono Q4.out.size)
  have T5 : Hid _ := T.out _ Q5.out
  clear bq x0 x1 HQ
  have x0 := fun o => row_cell T5.out.1 o
  have x1 := fun o => row_cell T5.out.2.1 o
  have HB5 : Hid (pathsB r.es = true) := hB5
  clear hB5
  have HG : Hid (runGood l r = true) := by unfold Hid runGood; rw [HB1.out, HB2.out, HB3.out, HB4.out, HB5.out]; rfl
  go_wp2_with fail
  refine (impl_ended r p _).mono ?_
  rintro e w6 ⟨rfl, bq⟩
  have QB : Hid (Below w.heap.size w w6) := T5.out.2.2.2.2.1.trans (bq.mono T5.out.2.2.2.2.1.size)
  clear bq x0 x1
  cases hN : (r.need == -1) with
  | false =>
    have HC : Hid (runC l r = 5) := runC_need HG.out (by simpa using hN)
    go_wp2_with fail
    go_ret
    exact ⟨by rw [HC.out]; rfl, QB.out⟩
  | true =>
    have HC : Hid (runC l r = 0) := runC_good HG.out (by simpa using hN)
    go_wp2_with fail
    go_ret
    exact ⟨by rw [HC.out]; rfl, QB.out⟩
set_option maxHeartbeats 4000000 in
theorem spec_endA (a : Option Addr) (c : Nat) (l : List De) (r : Rn) (p : RnA) (ea : Option Addr) (hea : p.ea = ea) (w : World) (hd : DeRow 0 w.heap.size w a l) (hdb : DefsBd 1048576 l) (hr : RunRow 0 w.heap.size w p r) (hc : r.h.keys.length ≤ p.c1) (hrb : RnSm r) :
    Calls Tryz.prog 25 #[.agg #[.slice a l.length c], .agg #[.int .i64 r.need, .slice p.ra r.rs.length p.rc, .slice p.wa r.ws.length p.wc, .int .i64 r.h.k, .int .i64 r.h.n, .string r.h.t, .slice p.a1 r.h.keys.length p.c1, .slice p.a2 r.sub.len p.c2, .slice ea r.es.length p.ec]] w fun e w' => e = .returned (.int .i64 (runC l r)) ∧ Below w.heap.size w w' := by
  have HEA : Hid _ := hea
  clear hea
  obtain ⟨V, hV⟩ : ∃ V, V = (w.alloc (.cells #[.slice a l.length c] 39)).alloc (.cells #[.int .i64 r.need, .slice p.ra r.rs.length p.rc, .slice p.wa r.ws.length p.wc, .int .i64 r.h.k, .int .i64 r.h.n, .string r.h.t, .slice p.a1 r.h.keys.length p.c1, .slice p.a2 r.sub.len p.c2, .slice ea r.es.length p.ec] 46) := ⟨_, rfl⟩
  have bV : Below w.heap.size w V := by
    rw [hV]
    repeat (first | exact Below.refl _ _ | refine Below.alloc ?_ (by first | omega | (simp <;> omega)) _)
  have c0 : V.heap[w.heap.size]? = some (.cells #[.slice a l.length c] 39 (0, 0)) := by
    rw [hV, Below.heap_alloc _ _ _ (by simp)]; exact heap_alloc_new _ _
  have c1 : V.heap[w.heap.size + 1]? = some (.cells #[.int .i64 r.need, .slice p.ra r.rs.length p.rc, .slice p.wa r.ws.length p.wc, .int .i64 r.h.k, .int .i64 r.h.n, .string r.h.t, .slice p.a1 r.h.keys.length p.c1, .slice p.a2 r.sub.len p.c2, .slice ea r.es.length p.ec] 46 (0, 0)) := by
    rw [hV]
    have := heap_alloc_new (w.alloc (.cells #[.slice a l.length c] 39)) (.cells #[.int .i64 r.need, .slice p.ra r.rs.length p.rc, .slice p.wa r.ws.length p.wc, .int .i64 r.h.k, .int .i64 r.h.n, .string r.h.t, .slice p.a1 r.h.keys.length p.c1, .slice p.a2 r.sub.len p.c2, .slice ea r.es.length p.ec] 46)
    simpa using this
  have z0 := (Array.getElem?_eq_some_iff.1 c0).1
  have z1 := (Array.getElem?_eq_some_iff.1 c1).1
  have T : Hid (∀ W, Below V.heap.size V W → W.heap[w.heap.size]? = some (.cells #[.slice a l.length c] 39 (0, 0)) ∧ W.heap[w.heap.size + 1]? = some (.cells #[.int .i64 r.need, .slice p.ra r.rs.length p.rc, .slice p.wa r.ws.length p.wc, .int .i64 r.h.k, .int .i64 r.h.n, .string r.h.t, .slice p.a1 r.h.keys.length p.c1, .slice p.a2 r.sub.len p.c2, .slice ea r.es.length p.ec] 46 (0, 0)) ∧ DeRow 0 W.heap.size W a l ∧ RunRow 0 W.heap.size W p r ∧ Below w.heap.size w W) := fun W hW =>
    have hw := bV.trans (hW.mono bV.size)
    ⟨(hW.block _ z0).trans c0, (hW.block _ z1).trans c1, hd.up hw, hr.up hw, hw⟩
  have HDB : Hid _ := hdb
  have HRB : Hid _ := hrb
  have x0 := fun o => row_cell c0 o
  have x1 := fun o => row_cell c1 o
  clear hd hr hdb hrb c0 c1 bV z0 z1
  go_enter Tryz.func25, Tryz.ntmps25
  go_upto_region 1 with fail
  rw [← hV]
  clear hV
  have Q00 : Hid (Below V.heap.size V V) := Below.refl _ _
  have T00 : Hid _ := T.out _ Q00.out
  go_wp2_with fail
  refine (spec_op_any a c l _ T00.out.2.2.1 HDB.out).mono ?_
  rintro e w9 ⟨⟨dx, y, a3, c3, rfl, hop, _⟩, bq⟩
  have HOP : Hid (y = opCode l) := hop.code
  have zq := bq.size
  unfold deV
  obtain ⟨w0, hw0⟩ : ∃ x : World, x = w9.alloc (.cells #[.int .i64 dx.k, .string dx.nm, .string dx.on, .slice a3 dx.sels.len c3] 89) := ⟨_, rfl⟩
  have b0 : Below w9.heap.size w9 w0 := by rw [hw0]; exact (Below.refl _ _).alloc (Nat.le_refl _) _
  have Q0 : Hid (Below V.heap.size V w0) := bq.trans (b0.mono zq)
  have T0 : Hid _ := T.out _ Q0.out
  clear bq x0 x1 hop zq b0
  have x0 := fun o => row_cell T0.out.1 o
  have x1 := fun o => row_cell T0.out.2.1 o
  go_upto_region 2 with fail
  rw [← hw0]
  clear hw0
  cases hB1 : docB l with
  | false =>
    have hq := spec_doc a c l _ T0.out.2.2.1 HDB.out.1 HDB.out.2
    rw [hB1] at hq
    have HQ : Hid _ := hq
    have HC : Hid (runC l r = 1) := runC_bad (by unfold runGood; rw [hB1]; rfl)
    clear hq
    go_wp2_with fail
    refine Calls.mono HQ.out ?_
    rintro e y ⟨rfl, bq⟩
    have QB : Hid (Below w.heap.size w y) := (T.out _ (Q0.out.trans (bq.mono Q0.out.size))).2.2.2.2
    clear bq x0 x1
    go_wp2_with fail
    go_ret
    exact ⟨by rw [HC.out]; rfl, QB.out⟩
  | true =>
  have hq := spec_doc a c l _ T0.out.2.2.1 HDB.out.1 HDB.out.2
  rw [hB1] at hq
  have HQ : Hid _ := hq
  clear hq
  go_wp2_with fail
  refine Calls.mono HQ.out ?_
  rintro e w1 ⟨rfl, bq⟩
  have Q1 : Hid (Below V.heap.size V w1) := Q0.out.trans (bq.mono Q0.out.size)
  have T1 : Hid _ := T.out _ Q1.out
  clear bq x0 x1 HQ
  have x0 := fun o => row_cell T1.out.1 o
  have x1 := fun o => row_cell T1.out.2.1 o
  have HB1 : Hid (docB l = true) := hB1
  clear hB1
  cases hB2 : (y != 0) with
  | true =>
    have HC : Hid (runC l r = 1) := runC_bad (by unfold runGood; rw [← HOP.out, show (y == 0) = false by simpa [bne] using hB2]; simp)
    go_wp2_with fail
    go_ret
    exact ⟨by rw [HC.out]; rfl, T1.out.2.2.2.2⟩
  | false =>
  have HB2 : Hid ((opCode l == 0) = true) := by rw [Hid, ← HOP.out]; simpa [bne] using hB2
  have Q2 := Q1
  have T2 := T1
  cases hB3 : outB 20 r.h r.sub with
  | false =>
    have hq := spec_outOK r.h r.sub p.a1 p.a2 p.c1 p.c2 _ T2.out.2.2.2.1.2.2.1 hc T2.out.2.2.2.1.2.2.2.1 HRB.out.1.2.2.1.1 HRB.out.1.2.2.1.2.1 HRB.out.1.2.2.1.2.2
    rw [hB3] at hq
    have HQ : Hid _ := hq
    have HC : Hid (runC l r = 1) := runC_bad (by unfold runGood; rw [hB3]; simp)
    clear hq
    go_wp2_with fail
    refine Calls.mono HQ.out ?_
    rintro e y ⟨rfl, bq⟩
    have QB : Hid (Below w.heap.size w y) := (T.out _ (Q2.out.trans (bq.mono Q2.out.size))).2.2.2.2
    clear bq x0 x1
    go_wp2_with fail
    go_ret
    exact ⟨by rw [HC.out]; rfl, QB.out⟩
  | true =>
  have hq := spec_outOK r.h r.sub p.a1 p.a2 p.c1 p.c2 _ T2.out.2.2.2.1.2.2.1 hc T2.out.2.2.2.1.2.2.2.1 HRB.out.1.2.2.1.1 HRB.out.1.2.2.1.2.1 HRB.out.1.2.2.1.2.2
  rw [hB3] at hq
  have HQ : Hid _ := hq
  clear hq
  go_wp2_with fail
  refine Calls.mono HQ.out ?_
  rintro e w3 ⟨rfl, bq⟩
  have Q3 : Hid (Below V.heap.size V w3) := Q2.out.trans (bq.mono Q2.out.size)
  have T3 : Hid _ := T.out _ Q3.out
  clear bq x0 x1 HQ
  have x0 := fun o => row_cell T3.out.1 o
  have x1 := fun o => row_cell T3.out.2.1 o
  have HB3 : Hid (outB 20 r.h r.sub = true) := hB3
  clear hB3
  cases hB4 : putsB r.ws with
  | false =>
    have hq := spec_puts p.wa p.wc r.ws _ T3.out.2.2.2.1.2.1 HRB.out.1.2.1
    rw [hB4] at hq
    have HQ : Hid _ := hq
    have HC : Hid (runC l r = 1) := runC_bad (by unfold runGood; rw [hB4]; simp)
    clear hq
    go_wp2_with fail
    refine Calls.mono HQ.out ?_
    rintro e y ⟨rfl, bq⟩
    have QB : Hid (Below w.heap.size w y) := (T.out _ (Q3.out.trans (bq.mono Q3.out.size))).2.2.2.2
    clear bq x0 x1
    go_wp2_with fail
    go_ret
    exact ⟨by rw [HC.out]; rfl, QB.out⟩
  | true =>
  have hq := spec_puts p.wa p.wc r.ws _ T3.out.2.2.2.1.2.1 HRB.out.1.2.1
  rw [hB4] at hq
  have HQ : Hid _ := hq
  clear hq
  go_wp2_with fail
  refine Calls.mono HQ.out ?_
  rintro e w4 ⟨rfl, bq⟩
  have Q4 : Hid (Below V.heap.size V w4) := Q3.out.trans (bq.mono Q3.out.size)
  have T4 : Hid _ := T.out _ Q4.out
  clear bq x0 x1 HQ
  have x0 := fun o => row_cell T4.out.1 o
  have x1 := fun o => row_cell T4.out.2.1 o
  have HB4 : Hid (putsB r.ws = true) := hB4
  clear hB4
  have hes : r.es.length ≤ 1048576 := HRB.out.1.2.2.2.1
  go_wp2_with fail
  clear x0 x1
  go_loopw [7] (fun i w' => ∃ k : Nat, k ≤ r.es.length ∧ i = .int .i64 k ∧ Hid (Below V.heap.size V w') ∧ Hid ((r.es.take k).all pathB = true)) (fun i _ => r.es.length - (intOf i).toNat)
  case atStart => exact ⟨0, Nat.zero_le _, rfl, Q4, by simp [Hid]⟩
  case round =>
    obtain ⟨wo, rfl⟩ : ∃ x, x = wr := ⟨_, rfl⟩
    obtain ⟨k, hk, rfl, QO, HA⟩ := hrel
    have TO : Hid _ := T.out _ QO.out
    have x1 := fun o => row_cell TO.out.2.1 o
    by_cases hlt : k < r.es.length
    · have hlt' : (k : Int) < r.es.length := by omega
      have hke : KeRow 0 wo.heap.size wo ea r.es := by have := TO.out.2.2.2.1.2.2.2.2; rw [HEA.out] at this; exact this
      obtain ⟨b, o, ha, _, hbl, d0⟩ := KeRow.cells hke k hlt
      subst ha
      have d0' : wo.cell? ⟨b, o + k, none⟩ = some (.string r.es[k]) := by simpa using d0
      have HS : Hid (r.es[k].size ≤ 1048576) := HRB.out.1.2.2.2.2 _ (List.getElem_mem hlt)
      have hq := spec_path r.es[k] wo HS.out
      cases hB : pathB r.es[k] with
      | false =>
        rw [hB] at hq
        have HQ : Hid _ := hq
        have HC : Hid (runC l r = 1) := runC_bad (by
          have : pathsB r.es = false := by
            unfold pathsB; rw [List.all_eq_false]; exact ⟨r.es[k], List.getElem_mem hlt, by simp [hB]⟩
          unfold runGood; rw [this]; simp)
        clear hq d0 hke
        go_wp2_with fail
        refine Calls.mono HQ.out ?_
        rintro e y1 ⟨rfl, bq⟩
        have QB : Hid (Below w.heap.size w y1) := (T.out _ (QO.out.trans (bq.mono QO.out.size))).2.2.2.2
        clear bq x1
        go_wp2_with fail
        go_ret
        exact ⟨by rw [HC.out]; rfl, QB.out⟩
      | true =>
        rw [hB] at hq
        have HQ : Hid _ := hq
        have HA2 : Hid ((r.es.take (k + 1)).all pathB = true) := all_take_b hlt HA.out hB
        clear hq d0 hke
        go_wp2_with fail
        refine Calls.mono HQ.out ?_
        rintro e y1 ⟨rfl, bq⟩
        have QB : Hid (Below V.heap.size V y1) := QO.out.trans (bq.mono QO.out.size)
        clear bq x1
        go_wp2_with fail
        go_roundw
        case rel => exact ⟨k + 1, by omega, by go_num, QB, HA2⟩
        case measure => simp [intOf]; omega
    · have hlt' : ¬ (k : Int) < r.es.length := by omega
      have HB5 : Hid (pathsB r.es = true) := by
        have h1 := HA.out
        rw [show k = r.es.length by omega, List.take_length] at h1
        exact h1
      have HG : Hid (runGood l r = true) := by unfold Hid runGood; rw [HB1.out, HB2.out, HB3.out, HB4.out, HB5.out]; rfl
      have QB : Hid (Below w.heap.size w wo) := TO.out.2.2.2.2
      cases hN : (r.need != -1) with
      | true =>
        have HC : Hid (runC l r = 5) := runC_need HG.out (by simpa [bne] using hN)
        go_wp2_with fail
        go_ret
        exact ⟨by rw [HC.out]; rfl, QB.out⟩
      | false =>
        have HC : Hid (runC l r = 0) := runC_good HG.out (by simpa [bne] using hN)
        go_wp2_with fail
        go_ret
        exact ⟨by rw [HC.out]; rfl, QB.out⟩
theorem spec_end (a : Option Addr) (c : Nat) (l : List De) (r : Rn) (p : RnA) (w : World) (hd : DeRow 0 w.heap.size w a l) (hdb : DefsBd 1048576 l) (hr : RunRow 0 w.heap.size w p r) (hc : r.h.keys.length ≤ p.c1) (hrb : RnSm r) :
    Calls Tryz.prog 25 #[.agg #[.slice a l.length c], .agg #[.int .i64 r.need, .slice p.ra r.rs.length p.rc, .slice p.wa r.ws.length p.wc, .int .i64 r.h.k, .int .i64 r.h.n, .string r.h.t, .slice p.a1 r.h.keys.length p.c1, .slice p.a2 r.sub.len p.c2, .slice p.ea r.es.length p.ec]] w fun e w' => e = .returned (.int .i64 (runC l r)) ∧ Below w.heap.size w w' :=
  spec_endA a c l r p p.ea rfl w hd hdb hr hc hrb
end Go.Proofs.YtnkaoeijcdchiaaGreatDoor.G
namespace Go.Proofs.YtnkaoeijcdchiaaGreatDoor.G
open Go.ChangeShapes Go.WideShapes Go.ChangeAt Go.RowKit
set_option linter.unusedVariables false

theorem run_copy_two {P : Program} (w : World) (dT sT ty elem : TypeId) (g o dLen dCap : Nat) (a : Addr) (sLen sCap n : Nat) (cur : Array Value) (t : TypeId) (cs : List Value)
    (hu : P.underlying dT = some (.slice elem)) (hs : (P.info? elem).map (·.size) = some 2)
    (hg : w.heap[g]? = some (.cells cur t (0, 0))) (hm : Nat.min sLen dLen = n) (hn : cs.length = n * 2)
    (hsrc : ∀ j v, cs[j]? = some v → w.cell? (a.add j) = some v) (hfit : o + cs.length ≤ cur.size) (h1 : ∀ v ∈ cs, v.oneCell' = true) :
    (Builtin.copy_ #[dT, sT] ty #[.slice (some ⟨g, o, none⟩) dLen dCap, .slice (some a) sLen sCap]).run P w =
      .ok (goInt n) (w.setRow g (cur.toList.take o ++ cs ++ cur.toList.drop (o + cs.length)).toArray) := by
  have hl := run_loadCells_list (P := P) w a cs hsrc
  have hst := run_storeCells_at P g o t cs 0 cur w hg (by simpa using hfit) h1
  rw [hn] at hl
  cases hq : P.info? elem with
  | none => simp [hq] at hs
  | some i =>
    have hi : i.size = 2 := by simpa [hq] using hs
    simp [Builtin.copy_, run_underlying hu, Builtin.lenOf, Builtin.firstCells, sizeOf, typeInfo, hq, hi, hm, hl, hst]
theorem run_copy_two0 {P : Program} (w : World) (dT sT ty elem : TypeId) (g o dCap : Nat) (d a : Option Addr) (sCap : Nat) (hu : P.underlying dT = some (.slice elem)) (hs : (P.info? elem).map (·.size) = some 2) :
    (Builtin.copy_ #[dT, sT] ty #[.slice d 0 dCap, .slice a 0 sCap]).run P w = .ok (goInt 0) w := by
  cases hq : P.info? elem with
  | none => simp [hq] at hs
  | some i =>
    cases a with
    | none => cases d <;> simp [Builtin.copy_, run_underlying hu, Builtin.lenOf, Builtin.firstCells, sizeOf, typeInfo, hq, storeCells]
    | some a =>
      have hl := run_loadCells_list (P := P) w a [] (by simp)
      rw [List.length_nil] at hl
      cases d <;> simp [Builtin.copy_, run_underlying hu, Builtin.lenOf, Builtin.firstCells, sizeOf, typeInfo, hq, hl, storeCells]
/-- The cells of a chain. -/
def veCells (l : List Ve) : List Value := l.flatMap fun x => [.int .i64 x.ts, .int .i64 x.v]
theorem veCells_len (l : List Ve) : (veCells l).length = l.length * 2 := by
  induction l with
  | nil => rfl
  | cons x l ih => simp only [veCells, List.flatMap_cons, List.length_append] at ih ⊢; rw [ih]; simp; omega
theorem veCells_at : ∀ (l : List Ve) (i : Nat) (x : Ve), l[i]? = some x → (veCells l)[i * 2]? = some (.int .i64 x.ts) ∧ (veCells l)[i * 2 + 1]? = some (.int .i64 x.v)
  | [], i, x, h => by simp at h
  | y :: l, 0, x, h => by
    simp only [List.getElem?_cons_zero, Option.some.injEq] at h
    subst h
    simp [veCells]
  | y :: l, i + 1, x, h => by
    have := veCells_at l i x (by simpa using h)
    have e : veCells (y :: l) = .int .i64 y.ts :: .int .i64 y.v :: veCells l := rfl
    rw [e, show (i + 1) * 2 = i * 2 + 1 + 1 by omega, show i * 2 + 1 + 1 + 1 = i * 2 + 1 + 1 + 1 from rfl]
    simp only [List.getElem?_cons_succ]
    exact this
theorem veCells_one (l : List Ve) : ∀ v ∈ veCells l, v.oneCell' = true := by
  intro v hv
  simp only [veCells, List.mem_flatMap, List.mem_cons, List.not_mem_nil, or_false] at hv
  obtain ⟨x, _, rfl | rfl⟩ := hv <;> rfl
theorem veCells_src {w : World} {b o : Nat} {l : List Ve} (h : ∀ i x, l[i]? = some x → VeAt (rdOf w b) (o + i * 2) x) : ∀ j v, (veCells l)[j]? = some v → w.cell? ((⟨b, o, none⟩ : Addr).add j) = some v := by
  intro j v hv
  have hj : j < l.length * 2 := by rw [← veCells_len]; exact (List.getElem?_eq_some_iff.1 hv).1
  have hi : j / 2 < l.length := by omega
  have hx := List.getElem?_eq_getElem hi
  obtain ⟨h0, h1⟩ := h _ _ hx
  obtain ⟨g0, g1⟩ := veCells_at l _ _ hx
  simp only [add_plain]
  by_cases hm : j % 2 = 0
  · have e : j = j / 2 * 2 := by omega
    rw [← e] at g0
    rw [hv] at g0
    rw [← e] at h0
    rw [g0]; exact h0
  · have e : j = j / 2 * 2 + 1 := by omega
    rw [← e] at g1
    rw [hv] at g1
    have h1' : rdOf w b (o + j) = some (.int .i64 l[j / 2].v) := by have := h1; rw [show o + j / 2 * 2 + 1 = o + j by omega] at this; exact this
    rw [g1]; exact h1'
end Go.Proofs.YtnkaoeijcdchiaaGreatDoor.G
namespace Go.Proofs.YtnkaoeijcdchiaaGreatDoor.G
open Go.ChangeShapes Go.WideShapes Go.ChangeAt Go.RowKit
set_option linter.unusedVariables false

theorem app_puts (x : List Ve) (a g : Option Addr) (c : Nat) (W : World) (hr : VeRow 0 W.heap.size W a x) (hl : x.length ≤ 1048576) :
    ∃ a' c' W', (Builtin.append_ #[41, 41] 41 #[.slice g 0 0, .slice a x.length c]).run Tryz.prog W = .ok (.slice a' x.length c') W' ∧ RwOwn W.heap.size W'.heap.size W' a' x ∧ Below W.heap.size W W' := by
  obtain ⟨i, hi, hz, hsz, hby⟩ := info_PuX
  have ht := Tryz.underlying41
  by_cases h0 : x = []
  · subst h0
    have hsrc : Src Tryz.prog i.size 41 (.slice a 0 c) 0 [] W := by
      cases a
      · exact Src.ofNil W ht c
      · exact Src.ofSlice W ht _ 0 c [] (by simp) (by simp) (by simp)
    exact ⟨g, 0, W, run_append_nothing (P := Tryz.prog) W _ _ _ _ i ht hi g 0 0 (Nat.le_refl _) _ hsrc, .inl rfl, Below.refl _ _⟩
  · rcases hr with h | ⟨b, o, rfl, _, hb, hx⟩
    · exact absurd h h0
    have hlen := veCells_len x
    have hpos : 0 < x.length := List.length_pos_iff.2 h0
    have hsrc : Src Tryz.prog i.size 41 (.slice (some ⟨b, o, none⟩) x.length c) x.length (veCells x) W := Src.ofSlice W ht _ _ c _ (by rw [hsz]; exact hlen) (veCells_src hx) (veCells_one x)
    have hold : (Builtin.firstCells i.size 0 (.slice g 0 0)).run Tryz.prog W.drew = .ok ([] : List Value).toArray W.drew := by
      cases g with
      | none => exact run_firstCells_none W.drew i.size 0 0 0
      | some g => exact run_firstCells_some W.drew i.size 0 g 0 0 [] (by simp) (by simp)
    have hrun := run_append_grow_src (P := Tryz.prog) W 41 41 41 79 i _ ht hi hz g 0 0 [] hold _ x.length (veCells x) hsrc (by omega) (by omega) (growslice_fits (by omega) (by rw [hby]; omega))
    simp only [Nat.zero_add, List.nil_append] at hrun
    refine ⟨_, _, _, hrun, .inr ⟨W.heap.size, rfl, Nat.le_refl _, by simp, ?_⟩, ((Below.refl _ _).drew).alloc (Nat.le_refl _) _⟩
    refine ⟨_, heap_alloc_new W.drew _, by simp [hlen], fun j y hy => ?_⟩
    obtain ⟨g0, g1⟩ := veCells_at x j y hy
    have hj := (List.getElem?_eq_some_iff.1 hy).1
    refine ⟨?_, ?_⟩
    · rw [Array.getElem?_append_left (by simp [hlen]; omega)]; simpa using g0
    · rw [Array.getElem?_append_left (by simp [hlen]; omega)]; simpa using g1
/-- A row of writes is told; a row of its own, and a code. -/
def SaysW (w' : World) (x : List Ve) (e : Ending) : Prop := ∃ a' c', e = .returned (.slice a' x.length c') ∧ VeRow 0 w'.heap.size w' a' x
def SaysWI (lo : Nat) (w' : World) (x : List Ve) (y : Int) (e : Ending) : Prop := ∃ a' c', e = .returned (.tuple #[.slice a' x.length c', .int .i64 y]) ∧ RwOwn lo w'.heap.size w' a' x
def SaysWS (w' : World) (x : List Ve) (y : Int) (e : Ending) : Prop := ∃ a' c', e = .returned (.tuple #[.slice a' x.length c', .int .i64 y]) ∧ VeRow 0 w'.heap.size w' a' x
/-- What a run without errors writes. -/
def wsOf (r : Rn) : List Ve := if r.es.length = 0 then r.ws else []
def wrOf (l : List De) (r : Rn) : List Ve := if runC l r = 0 then wsOf r else []
theorem wsOf_len (r : Rn) (h : r.ws.length ≤ 1048576) : (wsOf r).length ≤ 1048576 := by
  unfold wsOf; split
  · exact h
  · exact Nat.zero_le _
set_option maxHeartbeats 1000000 in
theorem impl_putsOf (r : Rn) (p : RnA) (w : World) (hr : RunRow 0 w.heap.size w p r) :
    Calls Tryz.prog 40 #[.agg #[.int .i64 r.need, .slice p.ra r.rs.length p.rc, .slice p.wa r.ws.length p.wc, .int .i64 r.h.k, .int .i64 r.h.n, .string r.h.t, .slice p.a1 r.h.keys.length p.c1, .slice p.a2 r.sub.len p.c2, .slice p.ea r.es.length p.ec]] w fun e w' => SaysW w' (wsOf r) e ∧ Below w.heap.size w w' := by
  have B0 : Hid (Below w.heap.size w (w.alloc (.cells #[.int .i64 r.need, .slice p.ra r.rs.length p.rc, .slice p.wa r.ws.length p.wc, .int .i64 r.h.k, .int .i64 r.h.n, .string r.h.t, .slice p.a1 r.h.keys.length p.c1, .slice p.a2 r.sub.len p.c2, .slice p.ea r.es.length p.ec] 46))) := (Below.refl _ _).alloc (Nat.le_refl _) _
  have HR : Hid _ := hr.up B0.out
  clear hr
  by_cases h0 : r.es.length = 0
  · have hw : Hid (wsOf r = r.ws) := by unfold Hid wsOf; rw [if_pos h0]
    have h1 : ¬ (0 : Int) < r.es.length := by omega
    have hd : decide ((0 : Int) < r.es.length) = false := decide_eq_false h1
    clear h0
    go_enter Tryz.func40, Tryz.ntmps40
    go_wp2_with fail
    go_ret
    exact ⟨⟨p.wa, p.wc, by rw [hw.out]; rfl, by rw [hw.out]; exact HR.out.2.1⟩, B0.out⟩
  · have hw : Hid (wsOf r = []) := by unfold Hid wsOf; rw [if_neg h0]
    have h1 : (0 : Int) < r.es.length := by omega
    clear h0
    go_enter Tryz.func40, Tryz.ntmps40
    go_wp2_with fail
    go_ret
    exact ⟨⟨none, 0, by rw [hw.out]; rfl, by rw [hw.out]; exact .inl rfl⟩, B0.out⟩
set_option maxHeartbeats 1000000 in
theorem spec_putsOf (a : Option Addr) (c : Nat) (l : List De) (r : Rn) (p : RnA) (w : World) (hr : RunRow 0 w.heap.size w p r) :
    Calls Tryz.prog 39 #[.agg #[.slice a l.length c], .agg #[.int .i64 r.need, .slice p.ra r.rs.length p.rc, .slice p.wa r.ws.length p.wc, .int .i64 r.h.k, .int .i64 r.h.n, .string r.h.t, .slice p.a1 r.h.keys.length p.c1, .slice p.a2 r.sub.len p.c2, .slice p.ea r.es.length p.ec]] w fun e w' => SaysW w' (wsOf r) e ∧ Below w.heap.size w w' := by
  have B0 : Hid (Below w.heap.size w ((w.alloc (.cells #[.slice a l.length c] 39)).alloc (.cells #[.int .i64 r.need, .slice p.ra r.rs.length p.rc, .slice p.wa r.ws.length p.wc, .int .i64 r.h.k, .int .i64 r.h.n, .string r.h.t, .slice p.a1 r.h.keys.length p.c1, .slice p.a2 r.sub.len p.c2, .slice p.ea r.es.length p.ec] 46))) := by
    unfold Hid
    repeat (first | exact Below.refl _ _ | refine Below.alloc ?_ (by first | omega | (simp <;> omega)) _)
  have HR : Hid _ := hr.up B0.out
  clear hr
  by_cases h0 : r.es.length = 0
  · have hw : Hid (wsOf r = r.ws) := by unfold Hid wsOf; rw [if_pos h0]
    have h1 : ¬ (0 : Int) < r.es.length := by omega
    have hd : decide ((0 : Int) < r.es.length) = false := decide_eq_false h1
    clear h0
    go_enter Tryz.func39, Tryz.ntmps39
    go_wp2_with fail
    go_ret
    exact ⟨⟨p.wa, p.wc, by rw [hw.out]; rfl, by rw [hw.out]; exact HR.out.2.1⟩, B0.out⟩
  · have hw : Hid (wsOf r = []) := by unfold Hid wsOf; rw [if_neg h0]
    have h1 : (0 : Int) < r.es.length := by omega
    have B1 : Hid (Below w.heap.size w (((w.alloc (.cells #[.slice a l.length c] 39)).alloc (.cells #[.int .i64 r.need, .slice p.ra r.rs.length p.rc, .slice p.wa r.ws.length p.wc, .int .i64 r.h.k, .int .i64 r.h.n, .string r.h.t, .slice p.a1 r.h.keys.length p.c1, .slice p.a2 r.sub.len p.c2, .slice p.ea r.es.length p.ec] 46)).alloc (.cells #[] 79))) := B0.out.alloc (by simp <;> omega) _
    clear h0
    go_enter Tryz.func39, Tryz.ntmps39
    go_wp2_with fail
    go_ret
    exact ⟨⟨_, 0, by rw [hw.out]; rfl, by rw [hw.out]; exact .inl rfl⟩, B1.out⟩
set_option maxHeartbeats 4000000 in
theorem impl_writesOf (a : Option Addr) (c : Nat) (l : List De) (r : Rn) (p : RnA) (w : World) (hd : DeRow 0 w.heap.size w a l) (hdb : DefsBd 1048576 l) (hr : RunRow 0 w.heap.size w p r) (hc : r.h.keys.length ≤ p.c1) (hrb : RnSm r) (hv : Vars w) :
    Calls Tryz.prog 14 #[.agg #[.slice a l.length c], .agg #[.int .i64 r.need, .slice p.ra r.rs.length p.rc, .slice p.wa r.ws.length p.wc, .int .i64 r.h.k, .int .i64 r.h.n, .string r.h.t, .slice p.a1 r.h.keys.length p.c1, .slice p.a2 r.sub.len p.c2, .slice p.ea r.es.length p.ec]] w fun e w' => SaysWI w.heap.size w' (wrOf l r) (runC l r) e ∧ Below w.heap.size w w' := by
  obtain ⟨V, hV⟩ : ∃ V, V = (w.alloc (.cells #[.slice a l.length c] 39)).alloc (.cells #[.int .i64 r.need, .slice p.ra r.rs.length p.rc, .slice p.wa r.ws.length p.wc, .int .i64 r.h.k, .int .i64 r.h.n, .string r.h.t, .slice p.a1 r.h.keys.length p.c1, .slice p.a2 r.sub.len p.c2, .slice p.ea r.es.length p.ec] 46) := ⟨_, rfl⟩
  have bV : Below w.heap.size w V := by
    rw [hV]
    repeat (first | exact Below.refl _ _ | refine Below.alloc ?_ (by first | omega | (simp <;> omega)) _)
  have c0 : V.heap[w.heap.size]? = some (.cells #[.slice a l.length c] 39 (0, 0)) := by
    rw [hV, Below.heap_alloc _ _ _ (by simp)]; exact heap_alloc_new _ _
  have c1 : V.heap[w.heap.size + 1]? = some (.cells #[.int .i64 r.need, .slice p.ra r.rs.length p.rc, .slice p.wa r.ws.length p.wc, .int .i64 r.h.k, .int .i64 r.h.n, .string r.h.t, .slice p.a1 r.h.keys.length p.c1, .slice p.a2 r.sub.len p.c2, .slice p.ea r.es.length p.ec] 46 (0, 0)) := by
    rw [hV]
    have := heap_alloc_new (w.alloc (.cells #[.slice a l.length c] 39)) (.cells #[.int .i64 r.need, .slice p.ra r.rs.length p.rc, .slice p.wa r.ws.length p.wc, .int .i64 r.h.k, .int .i64 r.h.n, .string r.h.t, .slice p.a1 r.h.keys.length p.c1, .slice p.a2 r.sub.len p.c2, .slice p.ea r.es.length p.ec] 46)
    simpa using this
  have z0 := (Array.getElem?_eq_some_iff.1 c0).1
  have z1 := (Array.getElem?_eq_some_iff.1 c1).1
  have T : Hid (∀ W, Below V.heap.size V W → W.heap[w.heap.size]? = some (.cells #[.slice a l.length c] 39 (0, 0)) ∧ W.heap[w.heap.size + 1]? = some (.cells #[.int .i64 r.need, .slice p.ra r.rs.length p.rc, .slice p.wa r.ws.length p.wc, .int .i64 r.h.k, .int .i64 r.h.n, .string r.h.t, .slice p.a1 r.h.keys.length p.c1, .slice p.a2 r.sub.len p.c2, .slice p.ea r.es.length p.ec] 46 (0, 0)) ∧ DeRow 0 W.heap.size W a l ∧ RunRow 0 W.heap.size W p r ∧ Below w.heap.size w W ∧ Vars W) := fun W hW =>
    have hw := bV.trans (hW.mono bV.size)
    ⟨(hW.block _ z0).trans c0, (hW.block _ z1).trans c1, hd.up hw, hr.up hw, hw, hv.up hw⟩
  have HDB : Hid _ := hdb
  have HRB : Hid _ := hrb
  have x0 := fun o => row_cell c0 o
  have x1 := fun o => row_cell c1 o
  have zV := bV.size
  clear hd hr hdb hrb c0 c1 bV z0 z1 hv
  go_enter Tryz.func14, Tryz.ntmps14
  go_upto_region 1 with fail
  rw [← hV]
  clear hV
  have T0 : Hid _ := T.out _ (Below.refl _ _)
  go_wp2_with fail
  refine (impl_end a c l r p _ T0.out.2.2.1 HDB.out T0.out.2.2.2.1 hc HRB.out T0.out.2.2.2.2.2).mono ?_
  rintro e w1 ⟨rfl, bq⟩
  have Q1 : Hid _ := bq
  have T1 : Hid _ := T.out _ bq
  clear bq x0 x1 T0
  generalize hRC : runC l r = rc
  have HRC : Hid (runC l r = rc) := hRC
  clear hRC
  cases hb0 : (rc != 0) with
  | true =>
    have HW : Hid (wrOf l r = []) := by unfold Hid wrOf; rw [if_neg (by rw [HRC.out]; simpa [bne] using hb0)]
    go_wp2_with fail
    go_ret2
    exact ⟨⟨none, 0, by rw [HW.out, HRC.out]; rfl, by rw [HW.out]; exact .inl rfl⟩, T1.out.2.2.2.2.1⟩
  | false =>
  have hz : rc = 0 := by simpa [bne] using hb0
  subst hz
  have HW : Hid (wrOf l r = wsOf r) := by unfold Hid wrOf; rw [if_pos HRC.out]
  have x1 := fun o => row_cell T1.out.2.1 o
  go_wp2_with fail
  refine (impl_putsOf r p _ T1.out.2.2.2.1).mono ?_
  rintro e w2 ⟨⟨a2', c2', rfl, r2⟩, bq⟩
  have Q2 : Hid (Below V.heap.size V w2) := Q1.out.trans (bq.mono Q1.out.size)
  have T2 : Hid _ := T.out _ Q2.out
  obtain ⟨a3, c3, W3, hrun, o3, b3⟩ := app_puts (wsOf r) a2' none c2' w2 r2 (wsOf_len r HRB.out.1.2.1)
  have HRUN : Hid _ := hrun
  have z2 := Q2.out.size
  have O3 : Hid (RwOwn w.heap.size W3.heap.size W3 a3 (wsOf r)) := by
    rcases o3 with h | ⟨g, e, h1, h2, h3⟩
    · exact .inl h
    · exact .inr ⟨g, e, by omega, h2, h3⟩
  have B3 : Hid (Below w.heap.size w W3) := T2.out.2.2.2.2.1.trans (b3.mono (by have := T2.out.2.2.2.2.1.size; omega))
  clear bq x1 T1 r2 hrun o3 b3
  go_wp2_with (first | (at_builtin; refine wpList_app_str rfl _ _ _ rfl _ _ _ _ rfl rfl HRUN.out ?_) | fail)
  go_ret2
  exact ⟨⟨a3, c3, by rw [HW.out, HRC.out]; rfl, by rw [HW.out]; exact O3.out⟩, B3.out⟩
set_option maxHeartbeats 4000000 in
theorem spec_writesOf (a : Option Addr) (c : Nat) (l : List De) (r : Rn) (p : RnA) (w : World) (hd : DeRow 0 w.heap.size w a l) (hdb : DefsBd 1048576 l) (hr : RunRow 0 w.heap.size w p r) (hc : r.h.keys.length ≤ p.c1) (hrb : RnSm r) :
    Calls Tryz.prog 13 #[.agg #[.slice a l.length c], .agg #[.int .i64 r.need, .slice p.ra r.rs.length p.rc, .slice p.wa r.ws.length p.wc, .int .i64 r.h.k, .int .i64 r.h.n, .string r.h.t, .slice p.a1 r.h.keys.length p.c1, .slice p.a2 r.sub.len p.c2, .slice p.ea r.es.length p.ec]] w fun e w' => SaysWS w' (wrOf l r) (runC l r) e ∧ Below w.heap.size w w' := by
  obtain ⟨V, hV⟩ : ∃ V, V = (w.alloc (.cells #[.slice a l.length c] 39)).alloc (.cells #[.int .i64 r.need, .slice p.ra r.rs.length p.rc, .slice p.wa r.ws.length p.wc, .int .i64 r.h.k, .int .i64 r.h.n, .string r.h.t, .slice p.a1 r.h.keys.length p.c1, .slice p.a2 r.sub.len p.c2, .slice p.ea r.es.length p.ec] 46) := ⟨_, rfl⟩
  have bV : Below w.heap.size w V := by
    rw [hV]
    repeat (first | exact Below.refl _ _ | refine Below.alloc ?_ (by first | omega | (simp <;> omega)) _)
  have c0 : V.heap[w.heap.size]? = some (.cells #[.slice a l.length c] 39 (0, 0)) := by
    rw [hV, Below.heap_alloc _ _ _ (by simp)]; exact heap_alloc_new _ _
  have c1 : V.heap[w.heap.size + 1]? = some (.cells #[.int .i64 r.need, .slice p.ra r.rs.length p.rc, .slice p.wa r.ws.length p.wc, .int .i64 r.h.k, .int .i64 r.h.n, .string r.h.t, .slice p.a1 r.h.keys.length p.c1, .slice p.a2 r.sub.len p.c2, .slice p.ea r.es.length p.ec] 46 (0, 0)) := by
    rw [hV]
    have := heap_alloc_new (w.alloc (.cells #[.slice a l.length c] 39)) (.cells #[.int .i64 r.need, .slice p.ra r.rs.length p.rc, .slice p.wa r.ws.length p.wc, .int .i64 r.h.k, .int .i64 r.h.n, .string r.h.t, .slice p.a1 r.h.keys.length p.c1, .slice p.a2 r.sub.len p.c2, .slice p.ea r.es.length p.ec] 46)
    simpa using this
  have z0 := (Array.getElem?_eq_some_iff.1 c0).1
  have z1 := (Array.getElem?_eq_some_iff.1 c1).1
  have T : Hid (∀ W, Below V.heap.size V W → W.heap[w.heap.size]? = some (.cells #[.slice a l.length c] 39 (0, 0)) ∧ W.heap[w.heap.size + 1]? = some (.cells #[.int .i64 r.need, .slice p.ra r.rs.length p.rc, .slice p.wa r.ws.length p.wc, .int .i64 r.h.k, .int .i64 r.h.n, .string r.h.t, .slice p.a1 r.h.keys.length p.c1, .slice p.a2 r.sub.len p.c2, .slice p.ea r.es.length p.ec] 46 (0, 0)) ∧ DeRow 0 W.heap.size W a l ∧ RunRow 0 W.heap.size W p r ∧ Below w.heap.size w W) := fun W hW =>
    have hw := bV.trans (hW.mono bV.size)
    ⟨(hW.block _ z0).trans c0, (hW.block _ z1).trans c1, hd.up hw, hr.up hw, hw⟩
  have HDB : Hid _ := hdb
  have HRB : Hid _ := hrb
  have x0 := fun o => row_cell c0 o
  have x1 := fun o => row_cell c1 o
  have zV := bV.size
  clear hd hr hdb hrb c0 c1 bV z0 z1
  go_enter Tryz.func13, Tryz.ntmps13
  go_upto_region 1 with fail
  rw [← hV]
  clear hV
  have T0 : Hid _ := T.out _ (Below.refl _ _)
  go_wp2_with fail
  refine (spec_end a c l r p _ T0.out.2.2.1 HDB.out T0.out.2.2.2.1 hc HRB.out).mono ?_
  rintro e w1 ⟨rfl, bq⟩
  have Q1 : Hid _ := bq
  have T1 : Hid _ := T.out _ bq
  clear bq x0 x1 T0
  generalize hRC : runC l r = rc
  have HRC : Hid (runC l r = rc) := hRC
  clear hRC
  cases hb0 : (rc != 0) with
  | true =>
    have HW : Hid (wrOf l r = []) := by unfold Hid wrOf; rw [if_neg (by rw [HRC.out]; simpa [bne] using hb0)]
    have B1 : Hid (Below w.heap.size w (w1.alloc (.cells #[] 79))) := T1.out.2.2.2.2.alloc T1.out.2.2.2.2.size _
    go_wp2_with fail
    go_ret2
    exact ⟨⟨_, 0, by rw [HW.out, HRC.out]; rfl, by rw [HW.out]; exact .inl rfl⟩, B1.out⟩
  | false =>
  have hz : rc = 0 := by simpa [bne] using hb0
  subst hz
  have HW : Hid (wrOf l r = wsOf r) := by unfold Hid wrOf; rw [if_pos HRC.out]
  obtain ⟨wb, hwb⟩ : ∃ x : World, x = w1.alloc (.cells #[] 79) := ⟨_, rfl⟩
  have bb : Below w1.heap.size w1 wb := by rw [hwb]; exact (Below.refl _ _).alloc (Nat.le_refl _) _
  have Qb : Hid (Below V.heap.size V wb) := Q1.out.trans (bb.mono Q1.out.size)
  have Tb : Hid _ := T.out _ Qb.out
  obtain ⟨E, hE⟩ : ∃ E, E = w1.heap.size := ⟨_, rfl⟩
  have y0 := fun ob o => (World.cell?_alloc_past (w := w1) ob w.heap.size o (Array.getElem?_eq_some_iff.1 T1.out.1).1).trans (row_cell T1.out.1 o)
  have y1 := fun ob o => (World.cell?_alloc_past (w := w1) ob (w.heap.size + 1) o (Array.getElem?_eq_some_iff.1 T1.out.2.1).1).trans (row_cell T1.out.2.1 o)
  clear bb
  go_wp2_with fail
  rw [← hwb, ← hE]
  clear hwb hE T1
  refine (spec_putsOf a c l r p _ Tb.out.2.2.2.1).mono ?_
  rintro e w2 ⟨⟨a2', c2', rfl, r2⟩, bq⟩
  have Q2 : Hid (Below V.heap.size V w2) := Qb.out.trans (bq.mono Qb.out.size)
  have T2 : Hid _ := T.out _ Q2.out
  obtain ⟨a3, c3, W3, hrun, o3, b3⟩ := app_puts (wsOf r) a2' (some ⟨E, 0, none⟩) c2' w2 r2 (wsOf_len r HRB.out.1.2.1)
  have HRUN : Hid _ := hrun
  have O3 : Hid (VeRow 0 W3.heap.size W3 a3 (wsOf r)) := VeRow.wide o3.row (Nat.zero_le _) (Nat.le_refl _)
  have B3 : Hid (Below w.heap.size w W3) := T2.out.2.2.2.2.trans (b3.mono T2.out.2.2.2.2.size)
  clear bq y0 y1 r2 hrun o3 b3
  go_wp2_with (first | (at_builtin; refine wpList_app_str rfl _ _ _ rfl _ _ _ _ rfl rfl HRUN.out ?_) | fail)
  go_ret2
  exact ⟨⟨a3, c3, by rw [HW.out, HRC.out]; rfl, by rw [HW.out]; exact O3.out⟩, B3.out⟩
end Go.Proofs.YtnkaoeijcdchiaaGreatDoor.G
