/- What the law compares: one value in two places. -/
import Derived.Test.YtoaeggfnlenjkaaGreatDoorRunOK
import Derived.Test.YtoaeggfnlenjkaaGreatDoorDtData
import Derived.Test.YtoaeggfnlenjkaaGreatDoorRunSz
import Derived.Test.YtoaeggfnlenjkaaGreatDoorDigitsD
import Derived.Deep.CutBlock
import Derived.Deep.CutRange
namespace Go.Proofs.YtoaeggfnlenjkaaGreatDoor.G
open Go.ChangeShapes Go.WideShapes Go.ChangeAt Go.RowKit
set_option linter.unusedVariables false

/-- The document's one operation is a mutation. -/
def mutB (l : List De) : Bool := (opL l).k == 2
def ohZ : Oh := ⟨0, 0, ⟨#[]⟩, []⟩
/-- The text of a run's answer. -/
def ansT (l : List De) (r : Rn) : ByteArray := if (mutB l && decide (0 < r.es.length)) = true then dataT (outT ohZ .nil) r.es else dataT (outT r.h r.sub) r.es
def ansE (l : List De) (r : Rn) : Ending := if runC l r = 0 then .returned (.tuple #[.string (ansT l r), .int .i64 0]) else .returned (.tuple #[.string ⟨#[]⟩, .int .i64 (runC l r)])
theorem ohZ_ok : outB 20 ohZ .nil = true := by decide +kernel
theorem OpQ.one {l : List De} {x : De} {y : Int} (h : OpQ l x y) (h0 : opCode l = 0) : x = opL l := by
  have hy := h.code
  rw [h0] at hy
  rcases h with ⟨_, _, rfl⟩ | ⟨_, ⟨_, _, rfl⟩ | ⟨_, _, rfl⟩ | ⟨_, h2, _⟩⟩
  · cases hy
  · cases hy
  · cases hy
  · exact h2
set_option maxHeartbeats 2000000 in
theorem spec_mutates (a : Option Addr) (c : Nat) (l : List De) (w : World) (hd : DeRow 0 w.heap.size w a l) (hdb : DefsBd 1048576 l) (h0 : opCode l = 0) :
    Calls Tryz.prog 99 #[.agg #[.slice a l.length c]] w fun e w' => e = .returned (.bool (mutB l)) ∧ Below w.heap.size w w' := by
  obtain ⟨V, hV⟩ : ∃ V, V = w.alloc (.cells #[.slice a l.length c] 60) := ⟨_, rfl⟩
  have bV : Below w.heap.size w V := by rw [hV]; exact (Below.refl _ _).alloc (Nat.le_refl _) _
  have c0 : V.heap[w.heap.size]? = some (.cells #[.slice a l.length c] 60 (0, 0)) := by rw [hV]; exact heap_alloc_new _ _
  have HD : Hid _ := hd.up bV
  have HDB : Hid _ := hdb
  have HOP : Hid _ := h0
  have BV : Hid _ := bV
  have x0 := fun o => row_cell c0 o
  clear hd hdb bV c0 h0
  go_enter Tryz.func99, Tryz.ntmps99
  go_upto_region 1 with fail
  rw [← hV]
  clear hV
  go_wp2_with fail
  refine (spec_op_any a c l _ HD.out HDB.out).mono ?_
  rintro e w1 ⟨⟨dx, y, a3, c3, rfl, hop, _⟩, bq⟩
  have hx := OpQ.one hop HOP.out
  have HK : Hid (dx.k = (opL l).k) := by rw [hx]; rfl
  have B1 : Hid (Below w.heap.size w w1) := BV.out.trans (bq.mono BV.out.size)
  have B2 : Hid (Below w.heap.size w (w1.alloc (.cells #[.int .i64 dx.k, .string dx.nm, .string dx.on, .slice a3 dx.sels.len c3] 127))) := B1.out.alloc B1.out.size _
  clear bq x0 hop hx
  unfold deV
  cases hB : (dx.k == 2) with
  | true =>
    have HM : Hid (mutB l = true) := by unfold Hid mutB; rw [← HK.out]; exact hB
    go_wp2_with fail
    go_ret
    exact ⟨by rw [HM.out]; rfl, B2.out⟩
  | false =>
    have HM : Hid (mutB l = false) := by unfold Hid mutB; rw [← HK.out]; exact hB
    go_wp2_with fail
    go_ret
    exact ⟨by rw [HM.out]; rfl, B2.out⟩
set_option maxHeartbeats 4000000 in
theorem spec_ans (a : Option Addr) (c : Nat) (l : List De) (r : Rn) (p : RnA) (w : World) (hd : DeRow 0 w.heap.size w a l) (hdb : DefsBd 1048576 l) (hr : RunRow 0 w.heap.size w p r) (hrb : RnSm r) (hg : runGood l r = true) :
    Calls Tryz.prog 60 #[.agg #[.slice a l.length c], .agg #[.int .i64 r.need, .slice p.ra r.rs.length p.rc, .slice p.wa r.ws.length p.wc, .int .i64 r.h.k, .int .i64 r.h.n, .string r.h.t, .slice p.a1 r.h.keys.length p.c1, .slice p.a2 r.sub.len p.c2, .slice p.ea r.es.length p.ec]] w fun e w' => e = .returned (.string (ansT l r)) ∧ Below w.heap.size w w' := by
  have hg' := hg
  unfold runGood at hg'
  simp only [Bool.and_eq_true, beq_iff_eq] at hg'
  have HOP : Hid (opCode l = 0) := hg'.1.1.1.2
  have HOK : Hid (outB 20 r.h r.sub = true) := hg'.1.1.2
  clear hg hg'
  obtain ⟨V, hV⟩ : ∃ V, V = (w.alloc (.cells #[.slice a l.length c] 60)).alloc (.cells #[.int .i64 r.need, .slice p.ra r.rs.length p.rc, .slice p.wa r.ws.length p.wc, .int .i64 r.h.k, .int .i64 r.h.n, .string r.h.t, .slice p.a1 r.h.keys.length p.c1, .slice p.a2 r.sub.len p.c2, .slice p.ea r.es.length p.ec] 64) := ⟨_, rfl⟩
  have bV : Below w.heap.size w V := by
    rw [hV]
    repeat (first | exact Below.refl _ _ | refine Below.alloc ?_ (by first | omega | (simp <;> omega)) _)
  have c0 : V.heap[w.heap.size]? = some (.cells #[.slice a l.length c] 60 (0, 0)) := by
    rw [hV, Below.heap_alloc _ _ _ (by simp)]; exact heap_alloc_new _ _
  have c1 : V.heap[w.heap.size + 1]? = some (.cells #[.int .i64 r.need, .slice p.ra r.rs.length p.rc, .slice p.wa r.ws.length p.wc, .int .i64 r.h.k, .int .i64 r.h.n, .string r.h.t, .slice p.a1 r.h.keys.length p.c1, .slice p.a2 r.sub.len p.c2, .slice p.ea r.es.length p.ec] 64 (0, 0)) := by
    rw [hV]
    have := heap_alloc_new (w.alloc (.cells #[.slice a l.length c] 60)) (.cells #[.int .i64 r.need, .slice p.ra r.rs.length p.rc, .slice p.wa r.ws.length p.wc, .int .i64 r.h.k, .int .i64 r.h.n, .string r.h.t, .slice p.a1 r.h.keys.length p.c1, .slice p.a2 r.sub.len p.c2, .slice p.ea r.es.length p.ec] 64)
    simpa using this
  have z0 := (Array.getElem?_eq_some_iff.1 c0).1
  have z1 := (Array.getElem?_eq_some_iff.1 c1).1
  have T : Hid (∀ W, Below V.heap.size V W → W.heap[w.heap.size]? = some (.cells #[.slice a l.length c] 60 (0, 0)) ∧ W.heap[w.heap.size + 1]? = some (.cells #[.int .i64 r.need, .slice p.ra r.rs.length p.rc, .slice p.wa r.ws.length p.wc, .int .i64 r.h.k, .int .i64 r.h.n, .string r.h.t, .slice p.a1 r.h.keys.length p.c1, .slice p.a2 r.sub.len p.c2, .slice p.ea r.es.length p.ec] 64 (0, 0)) ∧ DeRow 0 W.heap.size W a l ∧ RunRow 0 W.heap.size W p r ∧ Below w.heap.size w W) := fun W hW =>
    have hw := bV.trans (hW.mono bV.size)
    ⟨(hW.block _ z0).trans c0, (hW.block _ z1).trans c1, hd.up hw, hr.up hw, hw⟩
  have HDB : Hid _ := hdb
  have HRB : Hid _ := hrb
  have x0 := fun o => row_cell c0 o
  have x1 := fun o => row_cell c1 o
  have zV := bV.size
  clear hd hr hdb hrb c0 c1 bV z0 z1
  go_enter Tryz.func60, Tryz.ntmps60
  go_upto_region 1 with fail
  rw [← hV]
  clear hV
  have T0 : Hid _ := T.out _ (Below.refl _ _)
  have hq := spec_mutates a c l _ T0.out.2.2.1 HDB.out HOP.out
  have hle : r.es.length ≤ 1048576 := HRB.out.1.2.2.2.1
  have hsm : sumW r.es ≤ 2097152 := by have := HRB.out.2.2; omega
  have HLE : Hid _ := hle
  have HSM : Hid _ := hsm
  clear hle hsm
  cases hM : mutB l with
  | true =>
    rw [hM] at hq
    have HQ : Hid _ := hq
    clear hq
    go_wp2_with fail
    refine Calls.mono HQ.out ?_
    rintro e w1 ⟨rfl, bq⟩
    have Q1 : Hid _ := bq
    have T1 : Hid _ := T.out _ bq
    clear bq x0 x1 T0
    have x1 := fun o => row_cell T1.out.2.1 o
    by_cases h0 : 0 < r.es.length
    · have h0' : (0 : Int) < r.es.length := by omega
      have HA : Hid (ansT l r = dataT (outT ohZ .nil) r.es) := by unfold Hid ansT; rw [hM, decide_eq_true h0]; rfl
      have hs := spec_data ohZ .nil none none p.ea 0 0 p.ec r.es w1 (.inl rfl) (.inl rfl) ohZ_ok T1.out.2.2.2.1.2.2.2.2 HLE.out HSM.out
      have HS : Hid (Calls Tryz.prog 43 #[.agg #[.int .i64 0, .int .i64 0, .string ⟨#[]⟩, .slice none 0 0, .slice none 0 0], .slice p.ea r.es.length p.ec] w1 fun e w' => e = .returned (.string (dataT (outT ohZ .nil) r.es)) ∧ Below w1.heap.size w1 w') := hs
      clear hs h0 hM
      go_wp2_with fail
      refine Calls.mono HS.out ?_
      rintro e w2 ⟨rfl, bq⟩
      have QB : Hid (Below w.heap.size w w2) := T1.out.2.2.2.2.trans (bq.mono T1.out.2.2.2.2.size)
      clear bq x1
      go_wp2_with fail
      go_ret
      exact ⟨by rw [HA.out]; rfl, QB.out⟩
    · have h0' : ¬ (0 : Int) < r.es.length := by omega
      have hd0 : decide ((0 : Int) < r.es.length) = false := decide_eq_false h0'
      have HA : Hid (ansT l r = dataT (outT r.h r.sub) r.es) := by unfold Hid ansT; rw [decide_eq_false h0]; simp
      have hs := spec_data r.h r.sub p.a1 p.a2 p.ea p.c1 p.c2 p.ec r.es w1 T1.out.2.2.2.1.2.2.1 T1.out.2.2.2.1.2.2.2.1 HOK.out T1.out.2.2.2.1.2.2.2.2 HLE.out HSM.out
      have HS : Hid _ := hs
      clear hs h0 hM
      go_wp2_with fail
      refine Calls.mono HS.out ?_
      rintro e w2 ⟨rfl, bq⟩
      have QB : Hid (Below w.heap.size w w2) := T1.out.2.2.2.2.trans (bq.mono T1.out.2.2.2.2.size)
      clear bq x1
      go_wp2_with fail
      go_ret
      exact ⟨by rw [HA.out]; rfl, QB.out⟩
  | false =>
    rw [hM] at hq
    have HQ : Hid _ := hq
    have HA : Hid (ansT l r = dataT (outT r.h r.sub) r.es) := by unfold Hid ansT; rw [hM]; rfl
    clear hq hM
    go_wp2_with fail
    refine Calls.mono HQ.out ?_
    rintro e w1 ⟨rfl, bq⟩
    have Q1 : Hid _ := bq
    have T1 : Hid _ := T.out _ bq
    clear bq x0 x1 T0
    have x1 := fun o => row_cell T1.out.2.1 o
    have hs := spec_data r.h r.sub p.a1 p.a2 p.ea p.c1 p.c2 p.ec r.es w1 T1.out.2.2.2.1.2.2.1 T1.out.2.2.2.1.2.2.2.1 HOK.out T1.out.2.2.2.1.2.2.2.2 HLE.out HSM.out
    have HS : Hid _ := hs
    clear hs
    go_wp2_with fail
    refine Calls.mono HS.out ?_
    rintro e w2 ⟨rfl, bq⟩
    have QB : Hid (Below w.heap.size w w2) := T1.out.2.2.2.2.trans (bq.mono T1.out.2.2.2.2.size)
    clear bq x1
    go_wp2_with fail
    go_ret
    exact ⟨by rw [HA.out]; rfl, QB.out⟩
set_option maxHeartbeats 4000000 in
theorem spec_answerOf (a : Option Addr) (c : Nat) (l : List De) (r : Rn) (p : RnA) (w : World) (hd : DeRow 0 w.heap.size w a l) (hdb : DefsBd 1048576 l) (hr : RunRow 0 w.heap.size w p r) (hc : r.h.keys.length ≤ p.c1) (hrb : RnSm r) :
    Calls Tryz.prog 26 #[.agg #[.slice a l.length c], .agg #[.int .i64 r.need, .slice p.ra r.rs.length p.rc, .slice p.wa r.ws.length p.wc, .int .i64 r.h.k, .int .i64 r.h.n, .string r.h.t, .slice p.a1 r.h.keys.length p.c1, .slice p.a2 r.sub.len p.c2, .slice p.ea r.es.length p.ec]] w fun e w' => e = ansE l r ∧ Below w.heap.size w w' := by
  obtain ⟨V, hV⟩ : ∃ V, V = (w.alloc (.cells #[.slice a l.length c] 60)).alloc (.cells #[.int .i64 r.need, .slice p.ra r.rs.length p.rc, .slice p.wa r.ws.length p.wc, .int .i64 r.h.k, .int .i64 r.h.n, .string r.h.t, .slice p.a1 r.h.keys.length p.c1, .slice p.a2 r.sub.len p.c2, .slice p.ea r.es.length p.ec] 64) := ⟨_, rfl⟩
  have bV : Below w.heap.size w V := by
    rw [hV]
    repeat (first | exact Below.refl _ _ | refine Below.alloc ?_ (by first | omega | (simp <;> omega)) _)
  have c0 : V.heap[w.heap.size]? = some (.cells #[.slice a l.length c] 60 (0, 0)) := by
    rw [hV, Below.heap_alloc _ _ _ (by simp)]; exact heap_alloc_new _ _
  have c1 : V.heap[w.heap.size + 1]? = some (.cells #[.int .i64 r.need, .slice p.ra r.rs.length p.rc, .slice p.wa r.ws.length p.wc, .int .i64 r.h.k, .int .i64 r.h.n, .string r.h.t, .slice p.a1 r.h.keys.length p.c1, .slice p.a2 r.sub.len p.c2, .slice p.ea r.es.length p.ec] 64 (0, 0)) := by
    rw [hV]
    have := heap_alloc_new (w.alloc (.cells #[.slice a l.length c] 60)) (.cells #[.int .i64 r.need, .slice p.ra r.rs.length p.rc, .slice p.wa r.ws.length p.wc, .int .i64 r.h.k, .int .i64 r.h.n, .string r.h.t, .slice p.a1 r.h.keys.length p.c1, .slice p.a2 r.sub.len p.c2, .slice p.ea r.es.length p.ec] 64)
    simpa using this
  have z0 := (Array.getElem?_eq_some_iff.1 c0).1
  have z1 := (Array.getElem?_eq_some_iff.1 c1).1
  have T : Hid (∀ W, Below V.heap.size V W → W.heap[w.heap.size]? = some (.cells #[.slice a l.length c] 60 (0, 0)) ∧ W.heap[w.heap.size + 1]? = some (.cells #[.int .i64 r.need, .slice p.ra r.rs.length p.rc, .slice p.wa r.ws.length p.wc, .int .i64 r.h.k, .int .i64 r.h.n, .string r.h.t, .slice p.a1 r.h.keys.length p.c1, .slice p.a2 r.sub.len p.c2, .slice p.ea r.es.length p.ec] 64 (0, 0)) ∧ DeRow 0 W.heap.size W a l ∧ RunRow 0 W.heap.size W p r ∧ Below w.heap.size w W) := fun W hW =>
    have hw := bV.trans (hW.mono bV.size)
    ⟨(hW.block _ z0).trans c0, (hW.block _ z1).trans c1, hd.up hw, hr.up hw, hw⟩
  have HDB : Hid _ := hdb
  have HRB : Hid _ := hrb
  have x0 := fun o => row_cell c0 o
  have x1 := fun o => row_cell c1 o
  have zV := bV.size
  clear hd hr hdb hrb c0 c1 bV z0 z1
  go_enter Tryz.func26, Tryz.ntmps26
  go_upto_region 1 with fail
  rw [← hV]
  clear hV
  have T0 : Hid _ := T.out _ (Below.refl _ _)
  go_wp2_with fail
  refine (spec_end a c l r p _ T0.out.2.2.1 HDB.out T0.out.2.2.2.1 hc HRB.out).mono ?_
  rintro e w1 ⟨rfl, bq⟩
  have Q1 : Hid _ := bq
  have T1 : Hid _ := T.out _ bq
  clear bq x0 x1 T0
  generalize hRC : runC l r = rc
  have HRC : Hid (runC l r = rc) := hRC
  clear hRC
  cases hb0 : (rc != 0) with
  | true =>
    have HW : Hid (ansE l r = .returned (.tuple #[.string ⟨#[]⟩, .int .i64 rc])) := by unfold Hid ansE; rw [HRC.out, if_neg (by simpa [bne] using hb0)]
    go_wp2_with fail
    go_ret2
    exact ⟨HW.out.symm, T1.out.2.2.2.2⟩
  | false =>
  have hz : rc = 0 := by simpa [bne] using hb0
  subst hz
  have HW : Hid (ansE l r = .returned (.tuple #[.string (ansT l r), .int .i64 0])) := by unfold Hid ansE; rw [if_pos HRC.out]
  have HG : Hid (runGood l r = true) := (runC_zero HRC.out).1
  have x0 := fun o => row_cell T1.out.1 o
  have x1 := fun o => row_cell T1.out.2.1 o
  go_wp2_with fail
  refine (spec_ans a c l r p _ T1.out.2.2.1 HDB.out T1.out.2.2.2.1 HRB.out HG.out).mono ?_
  rintro e w2 ⟨rfl, bq⟩
  have QB : Hid (Below w.heap.size w w2) := T1.out.2.2.2.2.trans (bq.mono T1.out.2.2.2.2.size)
  clear bq x0 x1
  go_wp2_with fail
  go_ret2
  exact ⟨HW.out.symm, QB.out⟩
end Go.Proofs.YtoaeggfnlenjkaaGreatDoor.G
namespace Go.Proofs.YtoaeggfnlenjkaaGreatDoor.G
open Go.ChangeShapes Go.WideShapes Go.ChangeAt Go.RowKit
set_option linter.unusedVariables false

set_option maxHeartbeats 4000000 in
set_option maxRecDepth 40000 in
theorem to_run (r : Rn) (p : RnA) (w : World) (hr : RunRow 0 w.heap.size w p r) (hb : RnBd 1048576 r) :
    Calls Tryz.prog 28 #[.agg #[.int .i64 r.need, .slice p.ra r.rs.length p.rc, .slice p.wa r.ws.length p.wc, .int .i64 r.h.k, .int .i64 r.h.n, .string r.h.t, .slice p.a1 r.h.keys.length p.c1, .slice p.a2 r.sub.len p.c2, .slice p.ea r.es.length p.ec]] w fun e w' => ∃ q : RnA, e = .returned (.agg #[.int .i64 r.need, .slice q.ra r.rs.length r.rs.length, .slice q.wa r.ws.length r.ws.length, .int .i64 r.h.k, .int .i64 r.h.n, .string r.h.t, .slice q.a1 r.h.keys.length r.h.keys.length, .slice q.a2 r.sub.len r.sub.len, .slice q.ea r.es.length r.es.length]) ∧ RunOwn w.heap.size w'.heap.size w' q r ∧ Below w.heap.size w w' := by
  obtain ⟨V, hV⟩ : ∃ V, V = ((w.alloc (.cells #[.int .i64 r.need, .slice p.ra r.rs.length p.rc, .slice p.wa r.ws.length p.wc, .int .i64 r.h.k, .int .i64 r.h.n, .string r.h.t, .slice p.a1 r.h.keys.length p.c1, .slice p.a2 r.sub.len p.c2, .slice p.ea r.es.length p.ec] 54)).alloc (.cells #[.int .i64 0, .slice none 0 0, .slice none 0 0, .int .i64 0, .int .i64 0, .string ⟨#[]⟩, .slice none 0 0, .slice none 0 0, .slice none 0 0] 64)).alloc (.cells #[.int .i64 0, .slice none 0 0, .slice none 0 0, .int .i64 0, .int .i64 0, .string ⟨#[]⟩, .slice none 0 0, .slice none 0 0, .slice none 0 0] 64) := ⟨_, rfl⟩
  have B0 : Below w.heap.size w V := by
    rw [hV]
    repeat (first | exact Below.refl _ _ | refine Below.alloc ?_ (by first | omega | (simp <;> omega)) _)
  have zV : V.heap.size = w.heap.size + 1 + 1 + 1 := by rw [hV]; simp
  have k0 : V.heap[w.heap.size]? = some (.cells #[.int .i64 r.need, .slice p.ra r.rs.length p.rc, .slice p.wa r.ws.length p.wc, .int .i64 r.h.k, .int .i64 r.h.n, .string r.h.t, .slice p.a1 r.h.keys.length p.c1, .slice p.a2 r.sub.len p.c2, .slice p.ea r.es.length p.ec] 54 (0, 0)) := by
    rw [hV, Below.heap_alloc _ _ _ (by simp <;> omega), Below.heap_alloc _ _ _ (by simp)]; exact heap_alloc_new _ _
  have k1 : V.heap[w.heap.size + 1]? = some (.cells #[.int .i64 0, .slice none 0 0, .slice none 0 0, .int .i64 0, .int .i64 0, .string ⟨#[]⟩, .slice none 0 0, .slice none 0 0, .slice none 0 0] 64 (0, 0)) := by
    rw [hV, Below.heap_alloc _ _ _ (by simp)]
    have := heap_alloc_new (w.alloc (.cells #[.int .i64 r.need, .slice p.ra r.rs.length p.rc, .slice p.wa r.ws.length p.wc, .int .i64 r.h.k, .int .i64 r.h.n, .string r.h.t, .slice p.a1 r.h.keys.length p.c1, .slice p.a2 r.sub.len p.c2, .slice p.ea r.es.length p.ec] 54)) (.cells #[.int .i64 0, .slice none 0 0, .slice none 0 0, .int .i64 0, .int .i64 0, .string ⟨#[]⟩, .slice none 0 0, .slice none 0 0, .slice none 0 0] 64)
    simpa using this
  have k2 : V.heap[w.heap.size + 1 + 1]? = some (.cells #[.int .i64 0, .slice none 0 0, .slice none 0 0, .int .i64 0, .int .i64 0, .string ⟨#[]⟩, .slice none 0 0, .slice none 0 0, .slice none 0 0] 64 (0, 0)) := by
    rw [hV]
    have := heap_alloc_new ((w.alloc (.cells #[.int .i64 r.need, .slice p.ra r.rs.length p.rc, .slice p.wa r.ws.length p.wc, .int .i64 r.h.k, .int .i64 r.h.n, .string r.h.t, .slice p.a1 r.h.keys.length p.c1, .slice p.a2 r.sub.len p.c2, .slice p.ea r.es.length p.ec] 54)).alloc (.cells #[.int .i64 0, .slice none 0 0, .slice none 0 0, .int .i64 0, .int .i64 0, .string ⟨#[]⟩, .slice none 0 0, .slice none 0 0, .slice none 0 0] 64)) (.cells #[.int .i64 0, .slice none 0 0, .slice none 0 0, .int .i64 0, .int .i64 0, .string ⟨#[]⟩, .slice none 0 0, .slice none 0 0, .slice none 0 0] 64)
    simpa using this
  obtain ⟨A, hA⟩ : ∃ A, A = w.heap.size := ⟨_, rfl⟩
  obtain ⟨R, hR⟩ : ∃ R, R = w.heap.size + 1 := ⟨_, rfl⟩
  obtain ⟨Y, hY⟩ : ∃ Y, Y = w.heap.size + 1 + 1 := ⟨_, rfl⟩
  rw [← hA] at k0
  rw [← hR] at k1
  rw [← hY] at k2
  have HR : Hid _ := hr
  have HD : Hid _ := hb
  have KA : Hid (∀ W, Below w.heap.size w W → RunRow 0 W.heap.size W p r) := fun W hW => hr.up hW
  have x0 := fun o => row_cell k0 o
  have x2 := fun o => row_cell k2 o
  have f2 := fun o => row_frozen k2 o
  have HK : Hid (V.heap[A]? = some (.cells #[.int .i64 r.need, .slice p.ra r.rs.length p.rc, .slice p.wa r.ws.length p.wc, .int .i64 r.h.k, .int .i64 r.h.n, .string r.h.t, .slice p.a1 r.h.keys.length p.c1, .slice p.a2 r.sub.len p.c2, .slice p.ea r.es.length p.ec] 54 (0, 0)) ∧ V.heap[R]? = some (.cells #[.int .i64 0, .slice none 0 0, .slice none 0 0, .int .i64 0, .int .i64 0, .string ⟨#[]⟩, .slice none 0 0, .slice none 0 0, .slice none 0 0] 64 (0, 0)) ∧ V.heap[Y]? = some (.cells #[.int .i64 0, .slice none 0 0, .slice none 0 0, .int .i64 0, .int .i64 0, .string ⟨#[]⟩, .slice none 0 0, .slice none 0 0, .slice none 0 0] 64 (0, 0)) ∧ Below w.heap.size w V) := ⟨k0, k1, k2, B0⟩
  clear hr hb k0 k1 k2 B0
  go_enter Tryz.func28, Tryz.ntmps28
  go_upto_region 2 with fail
  rw [← hV, ← hY, ← hR, ← hA]
  clear hV
  have pl : w.heap.size = A ∧ R = A + 1 ∧ Y = A + 2 ∧ V.heap.size = A + 3 := by omega
  obtain ⟨pA, pR, pY, pV⟩ := pl
  have HPL : Hid (w.heap.size = A ∧ R = A + 1 ∧ Y = A + 2 ∧ V.heap.size = A + 3) := ⟨pA, pR, pY, pV⟩
  clear pA pR pY pV hA hR hY zV
  obtain ⟨V1, hV1⟩ : ∃ x : World, x = V.setCell ⟨Y, 0, none⟩ (.int .i64 r.need) := ⟨_, rfl⟩
  have HK1 : Hid (V1.heap[A]? = some (.cells #[.int .i64 r.need, .slice p.ra r.rs.length p.rc, .slice p.wa r.ws.length p.wc, .int .i64 r.h.k, .int .i64 r.h.n, .string r.h.t, .slice p.a1 r.h.keys.length p.c1, .slice p.a2 r.sub.len p.c2, .slice p.ea r.es.length p.ec] 54 (0, 0)) ∧ V1.heap[R]? = some (.cells #[.int .i64 0, .slice none 0 0, .slice none 0 0, .int .i64 0, .int .i64 0, .string ⟨#[]⟩, .slice none 0 0, .slice none 0 0, .slice none 0 0] 64 (0, 0)) ∧ V1.heap[Y]? = some (.cells #[.int .i64 r.need, .slice none 0 0, .slice none 0 0, .int .i64 0, .int .i64 0, .string ⟨#[]⟩, .slice none 0 0, .slice none 0 0, .slice none 0 0] 64 (0, 0)) ∧ Below w.heap.size w V1 ∧ V1.heap.size = A + 3) := by
    obtain ⟨g1, g2, g3, g4⟩ := HK.out
    obtain ⟨pA, pR, pY, pV⟩ := HPL.out
    rw [Hid, hV1]
    refine ⟨(heap_set _ _ _ _ _ (by omega)).trans g1, (heap_set _ _ _ _ _ (by omega)).trans g2, ?_, g4.setCell (by show w.heap.size ≤ Y; omega) _, by simpa using pV⟩
    have := row_set g3 0 (.int .i64 r.need)
    simpa using this
  go_upto_region 3 with fail
  rw [← hV1]
  clear hV1 x0 x2 f2 HK
  have x0 := fun o => row_cell HK1.out.1 o
  go_wp2_with fail
  refine (to_nums p.ra p.rc r.rs _ (KA.out _ HK1.out.2.2.2.1).1 HD.out.1).mono ?_
  rintro e W2 ⟨rfl, oq, bq⟩
  obtain ⟨b1, hb1⟩ : ∃ x, x = V1.heap.size := ⟨_, rfl⟩
  rw [← hb1] at oq
  have zq := bq.size
  have O2 : Hid (NuOwn V1.heap.size W2.heap.size W2 (some ⟨b1, 0, none⟩) r.rs) := by rw [← hb1]; exact oq
  obtain ⟨V2, hV2⟩ : ∃ x : World, x = (W2.setCell ⟨Y, 1, none⟩ (.slice (some ⟨b1, 0, none⟩) r.rs.length r.rs.length)) := ⟨_, rfl⟩
  have HK2 : Hid (V2.heap[A]? = some (.cells #[.int .i64 r.need, .slice p.ra r.rs.length p.rc, .slice p.wa r.ws.length p.wc, .int .i64 r.h.k, .int .i64 r.h.n, .string r.h.t, .slice p.a1 r.h.keys.length p.c1, .slice p.a2 r.sub.len p.c2, .slice p.ea r.es.length p.ec] 54 (0, 0)) ∧ V2.heap[R]? = some (.cells #[.int .i64 0, .slice none 0 0, .slice none 0 0, .int .i64 0, .int .i64 0, .string ⟨#[]⟩, .slice none 0 0, .slice none 0 0, .slice none 0 0] 64 (0, 0)) ∧ V2.heap[Y]? = some (.cells #[.int .i64 r.need, .slice (some ⟨b1, 0, none⟩) r.rs.length r.rs.length, .slice none 0 0, .int .i64 0, .int .i64 0, .string ⟨#[]⟩, .slice none 0 0, .slice none 0 0, .slice none 0 0] 64 (0, 0)) ∧ Below w.heap.size w V2 ∧ V2.heap.size = W2.heap.size ∧ (∀ g, A + 3 ≤ g → V2.heap[g]? = W2.heap[g]?)) := by
    have hs := HK1.out
    obtain ⟨pA, pR, pY, pV⟩ := HPL.out
    have hz : A + 3 ≤ V1.heap.size := by omega
    have c3 := (bq.block Y (by omega)).trans hs.2.2.1
    rw [Hid, hV2]
    refine ⟨?_, ?_, ?_, ?_, by simp, fun g hg => ?_⟩
    · repeat rw [heap_set _ _ _ _ _ (by omega)]
      exact (bq.block A (by omega)).trans hs.1
    · repeat rw [heap_set _ _ _ _ _ (by omega)]
      exact (bq.block R (by omega)).trans hs.2.1
    · have := row_set c3 1 (.slice (some ⟨b1, 0, none⟩) r.rs.length r.rs.length)
      simpa using this
    · repeat (refine Below.setCell ?_ (by first | omega | (simp <;> omega)) _)
      exact hs.2.2.2.1.trans (bq.mono (by have := hs.2.2.2.1.size; omega))
    · repeat rw [heap_set _ _ _ _ _ (by omega)]
  have ZZ2 : Hid (A + 3 ≤ V2.heap.size) := by have h1 := HK2.out.2.2.2.2.1; have hz : A + 3 ≤ V1.heap.size := (Nat.le_of_eq HK1.out.2.2.2.2.symm); unfold Hid; omega
  have x2 := fun o => row_cell ((bq.block Y (by have hz : A + 3 ≤ V1.heap.size := (Nat.le_of_eq HK1.out.2.2.2.2.symm); have h3 := HPL.out.2.2.1; omega)).trans HK1.out.2.2.1) o
  have f2 := fun o => row_frozen ((bq.block Y (by have hz : A + 3 ≤ V1.heap.size := (Nat.le_of_eq HK1.out.2.2.2.2.symm); have h3 := HPL.out.2.2.1; omega)).trans HK1.out.2.2.1) o
  have BQ2 : Hid (Below V1.heap.size V1 W2) := bq
  clear x0 oq zq bq
  go_upto_region 4 with fail
  rw [← hb1, ← hV2]
  clear hV2 x2 f2 hb1
  have x0 := fun o => row_cell HK2.out.1 o
  go_wp2_with fail
  refine (to_Pus p.wa p.wc r.ws _ (KA.out _ HK2.out.2.2.2.1).2.1 HD.out.2.1).mono ?_
  rintro e W3 ⟨rfl, oq, bq⟩
  obtain ⟨b2, hb2⟩ : ∃ x, x = V2.heap.size := ⟨_, rfl⟩
  rw [← hb2] at oq
  have zq := bq.size
  have O3 : Hid (RwOwn V2.heap.size W3.heap.size W3 (some ⟨b2, 0, none⟩) r.ws) := by rw [← hb2]; exact .inr ⟨b2, rfl, Nat.le_refl _, PuBlk.lt oq, oq⟩
  obtain ⟨V3, hV3⟩ : ∃ x : World, x = (W3.setCell ⟨Y, 2, none⟩ (.slice (some ⟨b2, 0, none⟩) r.ws.length r.ws.length)) := ⟨_, rfl⟩
  have HK3 : Hid (V3.heap[A]? = some (.cells #[.int .i64 r.need, .slice p.ra r.rs.length p.rc, .slice p.wa r.ws.length p.wc, .int .i64 r.h.k, .int .i64 r.h.n, .string r.h.t, .slice p.a1 r.h.keys.length p.c1, .slice p.a2 r.sub.len p.c2, .slice p.ea r.es.length p.ec] 54 (0, 0)) ∧ V3.heap[R]? = some (.cells #[.int .i64 0, .slice none 0 0, .slice none 0 0, .int .i64 0, .int .i64 0, .string ⟨#[]⟩, .slice none 0 0, .slice none 0 0, .slice none 0 0] 64 (0, 0)) ∧ V3.heap[Y]? = some (.cells #[.int .i64 r.need, .slice (some ⟨b1, 0, none⟩) r.rs.length r.rs.length, .slice (some ⟨b2, 0, none⟩) r.ws.length r.ws.length, .int .i64 0, .int .i64 0, .string ⟨#[]⟩, .slice none 0 0, .slice none 0 0, .slice none 0 0] 64 (0, 0)) ∧ Below w.heap.size w V3 ∧ V3.heap.size = W3.heap.size ∧ (∀ g, A + 3 ≤ g → V3.heap[g]? = W3.heap[g]?)) := by
    have hs := HK2.out
    obtain ⟨pA, pR, pY, pV⟩ := HPL.out
    have hz : A + 3 ≤ V2.heap.size := ZZ2.out
    have c3 := (bq.block Y (by omega)).trans hs.2.2.1
    rw [Hid, hV3]
    refine ⟨?_, ?_, ?_, ?_, by simp, fun g hg => ?_⟩
    · repeat rw [heap_set _ _ _ _ _ (by omega)]
      exact (bq.block A (by omega)).trans hs.1
    · repeat rw [heap_set _ _ _ _ _ (by omega)]
      exact (bq.block R (by omega)).trans hs.2.1
    · have := row_set c3 2 (.slice (some ⟨b2, 0, none⟩) r.ws.length r.ws.length)
      simpa using this
    · repeat (refine Below.setCell ?_ (by first | omega | (simp <;> omega)) _)
      exact hs.2.2.2.1.trans (bq.mono (by have := hs.2.2.2.1.size; omega))
    · repeat rw [heap_set _ _ _ _ _ (by omega)]
  have ZZ3 : Hid (A + 3 ≤ V3.heap.size) := by have h1 := HK3.out.2.2.2.2.1; have hz : A + 3 ≤ V2.heap.size := ZZ2.out; unfold Hid; omega
  have x2 := fun o => row_cell ((bq.block Y (by have hz : A + 3 ≤ V2.heap.size := ZZ2.out; have h3 := HPL.out.2.2.1; omega)).trans HK2.out.2.2.1) o
  have f2 := fun o => row_frozen ((bq.block Y (by have hz : A + 3 ≤ V2.heap.size := ZZ2.out; have h3 := HPL.out.2.2.1; omega)).trans HK2.out.2.2.1) o
  have BQ3 : Hid (Below V2.heap.size V2 W3) := bq
  clear x0 oq zq bq
  go_upto_region 5 with fail
  rw [← hb2, ← hV3]
  clear hV3 x2 f2 hb2
  have x0 := fun o => row_cell HK3.out.1 o
  go_wp2_with fail
  refine (to_out_o r.h r.sub (to_ous_o r.sub) p.a1 p.a2 p.c1 p.c2 _ (KA.out _ HK3.out.2.2.2.1).2.2.1 (KA.out _ HK3.out.2.2.2.1).2.2.2.1 HD.out.2.2.1.1 HD.out.2.2.1.2.1 HD.out.2.2.1.2.2).mono ?_
  rintro e W4 ⟨b3, b4, rfl, oq, bq⟩
  have zq := bq.size
  have O4 : Hid (PartsO V3.heap.size W4.heap.size W4 b3 b4 r.h r.sub) := by exact oq
  obtain ⟨V4, hV4⟩ : ∃ x : World, x = (((((W4.setCell ⟨Y, 3, none⟩ (.int .i64 r.h.k)).setCell ⟨Y, 4, none⟩ (.int .i64 r.h.n)).setCell ⟨Y, 5, none⟩ (.string r.h.t)).setCell ⟨Y, 6, none⟩ (.slice b3 r.h.keys.length r.h.keys.length)).setCell ⟨Y, 7, none⟩ (.slice b4 r.sub.len r.sub.len)) := ⟨_, rfl⟩
  have HK4 : Hid (V4.heap[A]? = some (.cells #[.int .i64 r.need, .slice p.ra r.rs.length p.rc, .slice p.wa r.ws.length p.wc, .int .i64 r.h.k, .int .i64 r.h.n, .string r.h.t, .slice p.a1 r.h.keys.length p.c1, .slice p.a2 r.sub.len p.c2, .slice p.ea r.es.length p.ec] 54 (0, 0)) ∧ V4.heap[R]? = some (.cells #[.int .i64 0, .slice none 0 0, .slice none 0 0, .int .i64 0, .int .i64 0, .string ⟨#[]⟩, .slice none 0 0, .slice none 0 0, .slice none 0 0] 64 (0, 0)) ∧ V4.heap[Y]? = some (.cells #[.int .i64 r.need, .slice (some ⟨b1, 0, none⟩) r.rs.length r.rs.length, .slice (some ⟨b2, 0, none⟩) r.ws.length r.ws.length, .int .i64 r.h.k, .int .i64 r.h.n, .string r.h.t, .slice b3 r.h.keys.length r.h.keys.length, .slice b4 r.sub.len r.sub.len, .slice none 0 0] 64 (0, 0)) ∧ Below w.heap.size w V4 ∧ V4.heap.size = W4.heap.size ∧ (∀ g, A + 3 ≤ g → V4.heap[g]? = W4.heap[g]?)) := by
    have hs := HK3.out
    obtain ⟨pA, pR, pY, pV⟩ := HPL.out
    have hz : A + 3 ≤ V3.heap.size := ZZ3.out
    have c3 := (bq.block Y (by omega)).trans hs.2.2.1
    rw [Hid, hV4]
    refine ⟨?_, ?_, ?_, ?_, by simp, fun g hg => ?_⟩
    · repeat rw [heap_set _ _ _ _ _ (by omega)]
      exact (bq.block A (by omega)).trans hs.1
    · repeat rw [heap_set _ _ _ _ _ (by omega)]
      exact (bq.block R (by omega)).trans hs.2.1
    · have := row_set (row_set (row_set (row_set (row_set c3 3 (.int .i64 r.h.k)) 4 (.int .i64 r.h.n)) 5 (.string r.h.t)) 6 (.slice b3 r.h.keys.length r.h.keys.length)) 7 (.slice b4 r.sub.len r.sub.len)
      simpa using this
    · repeat (refine Below.setCell ?_ (by first | omega | (simp <;> omega)) _)
      exact hs.2.2.2.1.trans (bq.mono (by have := hs.2.2.2.1.size; omega))
    · repeat rw [heap_set _ _ _ _ _ (by omega)]
  have ZZ4 : Hid (A + 3 ≤ V4.heap.size) := by have h1 := HK4.out.2.2.2.2.1; have hz : A + 3 ≤ V3.heap.size := ZZ3.out; unfold Hid; omega
  have x2 := fun o => row_cell ((bq.block Y (by have hz : A + 3 ≤ V3.heap.size := ZZ3.out; have h3 := HPL.out.2.2.1; omega)).trans HK3.out.2.2.1) o
  have f2 := fun o => row_frozen ((bq.block Y (by have hz : A + 3 ≤ V3.heap.size := ZZ3.out; have h3 := HPL.out.2.2.1; omega)).trans HK3.out.2.2.1) o
  have BQ4 : Hid (Below V3.heap.size V3 W4) := bq
  clear x0 oq zq bq
  go_upto_region 6 with fail
  rw [← hV4]
  clear hV4 x2 f2
  have x0 := fun o => row_cell HK4.out.1 o
  go_wp2_with fail
  refine (to_keys_o p.ea p.ec r.es _ (KA.out _ HK4.out.2.2.2.1).2.2.2.2 HD.out.2.2.2.1).mono ?_
  rintro e W5 ⟨b5, rfl, oq, bq⟩
  have zq := bq.size
  have O5 : Hid (KeOwn V4.heap.size W5.heap.size W5 b5 r.es) := by exact oq
  obtain ⟨V5, hV5⟩ : ∃ x : World, x = (W5.setCell ⟨Y, 8, none⟩ (.slice b5 r.es.length r.es.length)) := ⟨_, rfl⟩
  have HK5 : Hid (V5.heap[A]? = some (.cells #[.int .i64 r.need, .slice p.ra r.rs.length p.rc, .slice p.wa r.ws.length p.wc, .int .i64 r.h.k, .int .i64 r.h.n, .string r.h.t, .slice p.a1 r.h.keys.length p.c1, .slice p.a2 r.sub.len p.c2, .slice p.ea r.es.length p.ec] 54 (0, 0)) ∧ V5.heap[R]? = some (.cells #[.int .i64 0, .slice none 0 0, .slice none 0 0, .int .i64 0, .int .i64 0, .string ⟨#[]⟩, .slice none 0 0, .slice none 0 0, .slice none 0 0] 64 (0, 0)) ∧ V5.heap[Y]? = some (.cells #[.int .i64 r.need, .slice (some ⟨b1, 0, none⟩) r.rs.length r.rs.length, .slice (some ⟨b2, 0, none⟩) r.ws.length r.ws.length, .int .i64 r.h.k, .int .i64 r.h.n, .string r.h.t, .slice b3 r.h.keys.length r.h.keys.length, .slice b4 r.sub.len r.sub.len, .slice b5 r.es.length r.es.length] 64 (0, 0)) ∧ Below w.heap.size w V5 ∧ V5.heap.size = W5.heap.size ∧ (∀ g, A + 3 ≤ g → V5.heap[g]? = W5.heap[g]?)) := by
    have hs := HK4.out
    obtain ⟨pA, pR, pY, pV⟩ := HPL.out
    have hz : A + 3 ≤ V4.heap.size := ZZ4.out
    have c3 := (bq.block Y (by omega)).trans hs.2.2.1
    rw [Hid, hV5]
    refine ⟨?_, ?_, ?_, ?_, by simp, fun g hg => ?_⟩
    · repeat rw [heap_set _ _ _ _ _ (by omega)]
      exact (bq.block A (by omega)).trans hs.1
    · repeat rw [heap_set _ _ _ _ _ (by omega)]
      exact (bq.block R (by omega)).trans hs.2.1
    · have := row_set c3 8 (.slice b5 r.es.length r.es.length)
      simpa using this
    · repeat (refine Below.setCell ?_ (by first | omega | (simp <;> omega)) _)
      exact hs.2.2.2.1.trans (bq.mono (by have := hs.2.2.2.1.size; omega))
    · repeat rw [heap_set _ _ _ _ _ (by omega)]
  have ZZ5 : Hid (A + 3 ≤ V5.heap.size) := by have h1 := HK5.out.2.2.2.2.1; have hz : A + 3 ≤ V4.heap.size := ZZ4.out; unfold Hid; omega
  have x2 := fun o => row_cell ((bq.block Y (by have hz : A + 3 ≤ V4.heap.size := ZZ4.out; have h3 := HPL.out.2.2.1; omega)).trans HK4.out.2.2.1) o
  have f2 := fun o => row_frozen ((bq.block Y (by have hz : A + 3 ≤ V4.heap.size := ZZ4.out; have h3 := HPL.out.2.2.1; omega)).trans HK4.out.2.2.1) o
  have BQ5 : Hid (Below V4.heap.size V4 W5) := bq
  clear x0 oq zq bq
  go_upto_region 7 with fail
  rw [← hV5]
  clear hV5 x2 f2
  have x2 := fun o => row_cell HK5.out.2.2.1 o
  have x1 := fun o => row_cell HK5.out.2.1 o
  have f1 := fun o => row_frozen HK5.out.2.1 o
  go_wp2_with fail
  refine bodyPost_ret (v := .agg #[.int .i64 r.need, .slice (some ⟨b1, 0, none⟩) r.rs.length r.rs.length, .slice (some ⟨b2, 0, none⟩) r.ws.length r.ws.length, .int .i64 r.h.k, .int .i64 r.h.n, .string r.h.t, .slice b3 r.h.keys.length r.h.keys.length, .slice b4 r.sub.len r.sub.len, .slice b5 r.es.length r.es.length]) (by simp [results, Tryz.results28, go_sem, x1]) rfl ⟨⟨some ⟨b1, 0, none⟩, r.rs.length, some ⟨b2, 0, none⟩, r.ws.length, b3, r.h.keys.length, b4, r.sub.len, b5, r.es.length⟩, rfl, ?_, ?_⟩
  · obtain ⟨pA, pR, pY, pV⟩ := HPL.out
    have s1 : V1.heap.size = A + 3 := HK1.out.2.2.2.2
    have s2 := HK2.out.2.2.2.2.1
    have s3 := HK3.out.2.2.2.2.1
    have s4 := HK4.out.2.2.2.2.1
    have s5 := HK5.out.2.2.2.2.1
    have t2 := BQ2.out.size
    have t3 := BQ3.out.size
    have t4 := BQ4.out.size
    have t5 := BQ5.out.size
    have A2 : ∀ g, A + 3 ≤ g → g < V2.heap.size → V5.heap[g]? = W2.heap[g]? := fun g h1 h2 => by
      rw [HK5.out.2.2.2.2.2 g h1, BQ5.out.block g (by omega), HK4.out.2.2.2.2.2 g h1, BQ4.out.block g (by omega), HK3.out.2.2.2.2.2 g h1, BQ3.out.block g (by omega), HK2.out.2.2.2.2.2 g h1]
    have A3 : ∀ g, A + 3 ≤ g → g < V3.heap.size → V5.heap[g]? = W3.heap[g]? := fun g h1 h2 => by
      rw [HK5.out.2.2.2.2.2 g h1, BQ5.out.block g (by omega), HK4.out.2.2.2.2.2 g h1, BQ4.out.block g (by omega), HK3.out.2.2.2.2.2 g h1]
    have A4 : ∀ g, A + 3 ≤ g → g < V4.heap.size → V5.heap[g]? = W4.heap[g]? := fun g h1 h2 => by
      rw [HK5.out.2.2.2.2.2 g h1, BQ5.out.block g (by omega), HK4.out.2.2.2.2.2 g h1]
    have FIN : ∀ W : World, W.heap.size = V5.heap.size → (∀ g, A + 3 ≤ g → W.heap[g]? = V5.heap[g]?) → RunOwn w.heap.size W.heap.size W ⟨some ⟨b1, 0, none⟩, r.rs.length, some ⟨b2, 0, none⟩, r.ws.length, b3, r.h.keys.length, b4, r.sub.len, b5, r.es.length⟩ r := fun W hz hg => by
      refine ⟨V2.heap.size, V3.heap.size, V4.heap.size, by omega, by omega, by omega, by omega, ?_, ?_, ?_, ?_⟩
      · refine NuOwn.wide (NuOwn.keep (w := W2) (lo := V1.heap.size) (hi := W2.heap.size) O2.out (fun g h1 h2 => (hg g (by omega)).trans (A2 g (by omega) (by omega)))) (by omega) (by omega)
      · have q := RwOwn.keep (w := W3) (lo := V2.heap.size) (hi := W3.heap.size) O3.out (fun g h1 h2 => (hg g (by omega)).trans (A3 g (by omega) (by omega)))
        rw [s3]; exact q
      · have q := PartsO.keep (w := W4) (lo := V3.heap.size) (hi := W4.heap.size) O4.out (fun g h1 h2 => (hg g (by omega)).trans (A4 g (by omega) (by omega)))
        rw [s4]; exact q
      · have q := OwnR.keep (w := W5) (lo := V4.heap.size) (hi := W5.heap.size) O5.out (fun g h1 h2 => (hg g (by omega)).trans (HK5.out.2.2.2.2.2 g (by omega)))
        rw [hz, s5]; exact q
    refine FIN _ (by simp) (fun g hg => ?_)
    repeat rw [heap_set _ _ _ _ _ (by omega)]
  · obtain ⟨pA, pR, pY, pV⟩ := HPL.out
    repeat (refine Below.setCell ?_ (by first | omega | (simp <;> omega)) _)
    exact HK5.out.2.2.2.1
end Go.Proofs.YtoaeggfnlenjkaaGreatDoor.G
namespace Go.Proofs.YtoaeggfnlenjkaaGreatDoor.G
open Go.ChangeShapes Go.WideShapes Go.ChangeAt Go.RowKit
set_option linter.unusedVariables false

set_option maxHeartbeats 1000000 in
theorem eq_keys (a a' : Option Addr) (c c' : Nat) (l : List ByteArray) (w : World) (hr : KeRow 0 w.heap.size w a l) (hr' : KeRow 0 w.heap.size w a' l) (hl : l.length ≤ 1048576) :
    Calls Tryz.prog 23 #[.slice a l.length c, .slice a' l.length c'] w fun e w' => e = .returned (.bool true) ∧ Below w.heap.size w w' := by
  have HR : Hid _ := hr
  have HR' : Hid _ := hr'
  clear hr hr'
  go_enter Tryz.func23, Tryz.ntmps23
  go_wp2_with fail
  go_loopw [5] (fun i w' => ∃ (k q : Nat), k ≤ l.length ∧ i = .int .i64 k ∧ w' = w.drewN q) (fun i _ => l.length - (intOf i).toNat)
  case atStart => exact ⟨0, 0, by omega, rfl, rfl⟩
  case round =>
    obtain ⟨k, q, hk, rfl, rfl⟩ := hrel
    by_cases hlt : k < l.length
    · obtain ⟨b, o, ha, _, hbl, d0⟩ := KeRow.cells HR.out k hlt
      obtain ⟨b', o', ha', _, hbl', d1⟩ := KeRow.cells HR'.out k hlt
      subst ha ha'
      have hlt' : (k : Int) < l.length := by omega
      go_wp2_with fail
      go_quiet (fail)
      go_wp2_with fail
      exact ⟨⟨k + 1, q + nq, by omega, by go_num, by simp⟩, by simp [intOf]; omega⟩
    · go_wp2_with fail
      go_ret
      refine ⟨rfl, ?_⟩
      exact ⟨rfl, rfl, rfl, Nat.le_refl _, fun _ _ => rfl⟩
def EqOus (l : Ous) : Prop := ∀ (a a' : Option Addr) (c c' : Nat) (w : World), OuRow 0 w.heap.size w a l → OuRow 0 w.heap.size w a' l → l.len ≤ 1048576 → OusBd 1048576 l →
    Calls Tryz.prog 55 #[.slice a l.len c, .slice a' l.len c'] w fun e w' => e = .returned (.bool true) ∧ Below w.heap.size w w'
set_option maxHeartbeats 1000000 in
theorem eq_out (h : Oh) (sub : Ous) (ih : EqOus sub) (a1 a2 b1 b2 : Option Addr) (c1 c2 d1 d2 : Nat) (w : World) (r1 : KeRow 0 w.heap.size w a1 h.keys) (r2 : OuRow 0 w.heap.size w a2 sub) (s1 : KeRow 0 w.heap.size w b1 h.keys) (s2 : OuRow 0 w.heap.size w b2 sub)
    (hb : OhBd 1048576 h) (hl : sub.len ≤ 1048576) (hs : OusBd 1048576 sub) :
    Calls Tryz.prog 22 #[.agg #[.int .i64 h.k, .int .i64 h.n, .string h.t, .slice a1 h.keys.length c1, .slice a2 sub.len c2], .agg #[.int .i64 h.k, .int .i64 h.n, .string h.t, .slice b1 h.keys.length d1, .slice b2 sub.len d2]] w fun e w' => e = .returned (.bool true) ∧ Below w.heap.size w w' := by
  obtain ⟨x1, x2, x3⟩ := hb
  obtain ⟨V, hV⟩ : ∃ V, V = (w.alloc (.cells #[.int .i64 h.k, .int .i64 h.n, .string h.t, .slice a1 h.keys.length c1, .slice a2 sub.len c2] 26)).alloc (.cells #[.int .i64 h.k, .int .i64 h.n, .string h.t, .slice b1 h.keys.length d1, .slice b2 sub.len d2] 26) := ⟨_, rfl⟩
  have bV : Below w.heap.size w V := by
    rw [hV]
    repeat (first | exact Below.refl _ _ | refine Below.alloc ?_ (by first | omega | (simp <;> omega)) _)
  have zV : w.heap.size + 2 ≤ V.heap.size := by rw [hV]; simp
  have c0 : V.heap[w.heap.size]? = some (.cells #[.int .i64 h.k, .int .i64 h.n, .string h.t, .slice a1 h.keys.length c1, .slice a2 sub.len c2] 26 (0, 0)) := by
    rw [hV, Below.heap_alloc _ _ _ (by simp)]; exact heap_alloc_new _ _
  have c9 : V.heap[w.heap.size + 1]? = some (.cells #[.int .i64 h.k, .int .i64 h.n, .string h.t, .slice b1 h.keys.length d1, .slice b2 sub.len d2] 26 (0, 0)) := by
    rw [hV]
    have := heap_alloc_new (w.alloc (.cells #[.int .i64 h.k, .int .i64 h.n, .string h.t, .slice a1 h.keys.length c1, .slice a2 sub.len c2] 26)) (.cells #[.int .i64 h.k, .int .i64 h.n, .string h.t, .slice b1 h.keys.length d1, .slice b2 sub.len d2] 26)
    simpa using this
  have KV : Hid (∀ W, Below V.heap.size V W → W.heap[w.heap.size]? = some (.cells #[.int .i64 h.k, .int .i64 h.n, .string h.t, .slice a1 h.keys.length c1, .slice a2 sub.len c2] 26 (0, 0)) ∧ W.heap[w.heap.size + 1]? = some (.cells #[.int .i64 h.k, .int .i64 h.n, .string h.t, .slice b1 h.keys.length d1, .slice b2 sub.len d2] 26 (0, 0)) ∧ KeRow 0 W.heap.size W a1 h.keys ∧ OuRow 0 W.heap.size W a2 sub ∧ KeRow 0 W.heap.size W b1 h.keys ∧ OuRow 0 W.heap.size W b2 sub ∧ Below w.heap.size w W) := fun W hW =>
    have hw := bV.trans (hW.mono (by omega))
    ⟨(hW.block _ (by omega)).trans c0, (hW.block _ (by omega)).trans c9, KeRow.up r1 hw, OuRow.up r2 hw, KeRow.up s1 hw, OuRow.up s2 hw, hw⟩
  have HI : Hid _ := ih
  have HS : Hid _ := hs
  have y0 := fun o => row_cell c0 o
  have y1 := fun o => row_cell c9 o
  clear r1 r2 s1 s2 ih hs c0 c9 bV x3
  go_enter Tryz.func22, Tryz.ntmps22
  go_upto_region 1 with fail
  rw [← hV]
  clear hV
  have T0 := KV.out _ (Below.refl _ _)
  go_wp2_with fail
  refine (eq_keys a1 b1 c1 d1 h.keys _ T0.2.2.1 T0.2.2.2.2.1 x2).mono ?_
  clear T0
  rintro e w1 ⟨rfl, hb1⟩
  have Q1 : Hid _ := hb1
  have T1 := KV.out _ hb1
  clear hb1 y0 y1
  have y0 := fun o => row_cell T1.1 o
  have y1 := fun o => row_cell T1.2.1 o
  have TT : Hid _ := T1.2.2.2.1
  have TU : Hid _ := T1.2.2.2.2.2.1
  clear T1
  go_wp2_with fail
  refine (HI.out a2 b2 c2 d2 _ TT.out TU.out hl HS.out).mono ?_
  rintro e w2 ⟨rfl, hb2⟩
  have Q2 : Hid (Below w.heap.size w w2) := (KV.out _ (Q1.out.trans (hb2.mono Q1.out.size))).2.2.2.2.2.2
  clear hb2 y0 y1
  go_wp2_with fail
  go_ret
  exact ⟨rfl, Q2.out⟩
set_option maxHeartbeats 2000000 in
theorem eq_ous (l : Ous) : EqOus l := by
  induction hN : l.size using Nat.strongRecOn generalizing l with
  | _ N ih =>
  subst hN
  intro a a' c c' w hr hr' hl hbd
  have IH : Hid (∀ sub : Ous, sub.size < l.size → EqOus sub) := fun sub hsub => ih sub.size hsub sub rfl
  have HR : Hid (OuFrom 0 w.heap.size w a 0 l) := hr.from_
  have HR' : Hid (OuFrom 0 w.heap.size w a' 0 l) := hr'.from_
  have HB : Hid (OusBd 1048576 l) := hbd
  clear hr hr' ih hbd
  go_enter Tryz.func55, Tryz.ntmps55
  go_wp2_with fail
  go_loopw [5] (fun i w' => ∃ (k : Nat) (rest : Ous), Hid (l.len = k + rest.len) ∧ i = .int .i64 k ∧ Below w.heap.size w w' ∧ Hid (rest.size ≤ l.size) ∧ Hid (OusBd 1048576 rest) ∧ Hid (OuFrom 0 w.heap.size w a k rest) ∧ Hid (OuFrom 0 w.heap.size w a' k rest)) (fun i _ => l.len - (intOf i).toNat)
  case atStart => exact ⟨0, l, by simp [Hid], rfl, Below.refl _ _, Nat.le_refl _, HB, HR, HR'⟩
  case round =>
    obtain ⟨wo, rfl⟩ : ∃ x, x = wr := ⟨_, rfl⟩
    obtain ⟨k, rest, HK, rfl, hb, HZ, HD, HF, HF'⟩ := hrel
    cases rest with
    | nil =>
      have hk' : ¬ k < l.len := by rw [HK.out]; simp only [Ous.len]; omega
      go_wp2_with fail
      go_ret
      exact ⟨rfl, hb⟩
    | cons h sub rest =>
      have hlt : k < l.len := by rw [HK.out]; simp only [Ous.len]; omega
      have hlt' : (k : Int) < l.len := by omega
      have HK2 : Hid (l.len = k + 1 + rest.len) := by rw [Hid, HK.out]; simp only [Ous.len]; omega
      obtain ⟨b, o, a1, c1, a2, c2, ha, _, hbl, d0, d1, d2, d3, d4, _, r1, r2, _⟩ := OuFrom.step (OuFrom.keep HF.out (agree hb (Nat.le_refl _)))
      obtain ⟨b', o', b1, e1, b2, e2, ha', _, hbl', f0, f1, f2, f3, f4, _, s1, s2, _⟩ := OuFrom.step (OuFrom.keep HF'.out (agree hb (Nat.le_refl _)))
      have HF2 : Hid (OuFrom 0 w.heap.size w a (k + 1) rest) := by
        obtain ⟨_, _, _, _, _, _, _, _, _, _, _, _, _, _, _, _, _, rf9⟩ := OuFrom.step HF.out
        exact rf9
      have HF2' : Hid (OuFrom 0 w.heap.size w a' (k + 1) rest) := by
        obtain ⟨_, _, _, _, _, _, _, _, _, _, _, _, _, _, _, _, _, rf9⟩ := OuFrom.step HF'.out
        exact rf9
      subst ha
      subst ha'
      have R1 : Hid (KeRow 0 wo.drew.heap.size wo.drew a1 h.keys) := KeRow.wide r1 (Nat.le_refl _) hb.size
      have R2 : Hid (OuRow 0 wo.drew.heap.size wo.drew a2 sub) := OuRow.wide (OuRow.keep r2 (fun g _ _ => rfl)) (Nat.le_refl _) hb.size
      have S1 : Hid (KeRow 0 wo.drew.heap.size wo.drew b1 h.keys) := KeRow.wide s1 (Nat.le_refl _) hb.size
      have S2 : Hid (OuRow 0 wo.drew.heap.size wo.drew b2 sub) := OuRow.wide (OuRow.keep s2 (fun g _ _ => rfl)) (Nat.le_refl _) hb.size
      obtain ⟨g1, g2, g3, g4⟩ := HD.out
      have E1 : Hid (OhBd 1048576 h) := g1
      have E2 : Hid (sub.len ≤ 1048576) := g2
      have E3 : Hid (OusBd 1048576 sub) := g3
      have E4 : Hid (OusBd 1048576 rest) := g4
      have HZ2 : Hid (rest.size ≤ l.size) := by have := HZ.out; simp only [Ous.size] at this; unfold Hid; omega
      have IS : Hid (EqOus sub) := IH.out sub (by have := HZ.out; simp only [Ous.size] at this; omega)
      clear r1 r2 s1 s2 g1 g2 g3 g4
      go_wp2_with fail
      go_region_with (go_at_call 22; refine (eq_out h sub IS.out a1 a2 b1 b2 c1 c2 e1 e2 _ R1.out R2.out S1.out S2.out E1.out E2.out E3.out).mono ?_; rintro e w1 ⟨rfl, hb1⟩)
      all_goals
        go_wp2_with fail
        exact ⟨⟨k + 1, rest, HK2, by go_num, hb.drew.trans (hb1.mono hb.size), HZ2, E4, HF2, HF2'⟩, by simp [intOf]; omega⟩
end Go.Proofs.YtoaeggfnlenjkaaGreatDoor.G
