/- What the law compares: one run in two places. -/
import Derived.Test.YtoaeggfnlenjkaaGreatDoorRunSz
import Derived.Test.YtoaeggfnlenjkaaGreatDoorOuEq
namespace Go.Proofs.YtoaeggfnlenjkaaGreatDoor.G
open Go.ChangeShapes Go.WideShapes Go.ChangeAt Go.RowKit
set_option linter.unusedVariables false

set_option maxHeartbeats 2000000 in
theorem eq_run (r : Rn) (p q : RnA) (w : World) (hr : RunRow 0 w.heap.size w p r) (hr' : RunRow 0 w.heap.size w q r) (hb : RnBd 1048576 r) :
    Calls Tryz.prog 31 #[.agg #[.int .i64 r.need, .slice p.ra r.rs.length p.rc, .slice p.wa r.ws.length p.wc, .int .i64 r.h.k, .int .i64 r.h.n, .string r.h.t, .slice p.a1 r.h.keys.length p.c1, .slice p.a2 r.sub.len p.c2, .slice p.ea r.es.length p.ec], .agg #[.int .i64 r.need, .slice q.ra r.rs.length q.rc, .slice q.wa r.ws.length q.wc, .int .i64 r.h.k, .int .i64 r.h.n, .string r.h.t, .slice q.a1 r.h.keys.length q.c1, .slice q.a2 r.sub.len q.c2, .slice q.ea r.es.length q.ec]] w fun e w' => e = .returned (.bool true) ∧ Below w.heap.size w w' := by
  obtain ⟨V, hV⟩ : ∃ V, V = (w.alloc (.cells #[.int .i64 r.need, .slice p.ra r.rs.length p.rc, .slice p.wa r.ws.length p.wc, .int .i64 r.h.k, .int .i64 r.h.n, .string r.h.t, .slice p.a1 r.h.keys.length p.c1, .slice p.a2 r.sub.len p.c2, .slice p.ea r.es.length p.ec] 64)).alloc (.cells #[.int .i64 r.need, .slice q.ra r.rs.length q.rc, .slice q.wa r.ws.length q.wc, .int .i64 r.h.k, .int .i64 r.h.n, .string r.h.t, .slice q.a1 r.h.keys.length q.c1, .slice q.a2 r.sub.len q.c2, .slice q.ea r.es.length q.ec] 64) := ⟨_, rfl⟩
  have bV : Below w.heap.size w V := by
    rw [hV]
    repeat (first | exact Below.refl _ _ | refine Below.alloc ?_ (by first | omega | (simp <;> omega)) _)
  have c0 : V.heap[w.heap.size]? = some (.cells #[.int .i64 r.need, .slice p.ra r.rs.length p.rc, .slice p.wa r.ws.length p.wc, .int .i64 r.h.k, .int .i64 r.h.n, .string r.h.t, .slice p.a1 r.h.keys.length p.c1, .slice p.a2 r.sub.len p.c2, .slice p.ea r.es.length p.ec] 64 (0, 0)) := by
    rw [hV, Below.heap_alloc _ _ _ (by simp)]; exact heap_alloc_new _ _
  have c9 : V.heap[w.heap.size + 1]? = some (.cells #[.int .i64 r.need, .slice q.ra r.rs.length q.rc, .slice q.wa r.ws.length q.wc, .int .i64 r.h.k, .int .i64 r.h.n, .string r.h.t, .slice q.a1 r.h.keys.length q.c1, .slice q.a2 r.sub.len q.c2, .slice q.ea r.es.length q.ec] 64 (0, 0)) := by
    rw [hV]
    have := heap_alloc_new (w.alloc (.cells #[.int .i64 r.need, .slice p.ra r.rs.length p.rc, .slice p.wa r.ws.length p.wc, .int .i64 r.h.k, .int .i64 r.h.n, .string r.h.t, .slice p.a1 r.h.keys.length p.c1, .slice p.a2 r.sub.len p.c2, .slice p.ea r.es.length p.ec] 64)) (.cells #[.int .i64 r.need, .slice q.ra r.rs.length q.rc, .slice q.wa r.ws.length q.wc, .int .i64 r.h.k, .int .i64 r.h.n, .string r.h.t, .slice q.a1 r.h.keys.length q.c1, .slice q.a2 r.sub.len q.c2, .slice q.ea r.es.length q.ec] 64)
    simpa using this
  have z0 := (Array.getElem?_eq_some_iff.1 c0).1
  have z9 := (Array.getElem?_eq_some_iff.1 c9).1
  have KV : Hid (∀ W, Below V.heap.size V W → W.heap[w.heap.size]? = some (.cells #[.int .i64 r.need, .slice p.ra r.rs.length p.rc, .slice p.wa r.ws.length p.wc, .int .i64 r.h.k, .int .i64 r.h.n, .string r.h.t, .slice p.a1 r.h.keys.length p.c1, .slice p.a2 r.sub.len p.c2, .slice p.ea r.es.length p.ec] 64 (0, 0)) ∧ W.heap[w.heap.size + 1]? = some (.cells #[.int .i64 r.need, .slice q.ra r.rs.length q.rc, .slice q.wa r.ws.length q.wc, .int .i64 r.h.k, .int .i64 r.h.n, .string r.h.t, .slice q.a1 r.h.keys.length q.c1, .slice q.a2 r.sub.len q.c2, .slice q.ea r.es.length q.ec] 64 (0, 0)) ∧ RunRow 0 W.heap.size W p r ∧ RunRow 0 W.heap.size W q r ∧ Below w.heap.size w W) := fun W hW =>
    have hw := bV.trans (hW.mono bV.size)
    ⟨(hW.block _ z0).trans c0, (hW.block _ z9).trans c9, hr.up hw, hr'.up hw, hw⟩
  have HD : Hid _ := hb
  have y0 := fun o => row_cell c0 o
  have y1 := fun o => row_cell c9 o
  clear hr hr' hb c0 c9 bV z0 z9
  go_enter Tryz.func31, Tryz.ntmps31
  go_upto_region 1 with fail
  rw [← hV]
  clear hV
  have T0 : Hid _ := KV.out _ (Below.refl _ _)
  go_wp2_with fail
  refine (eq_nums p.ra q.ra p.rc q.rc r.rs _ T0.out.2.2.1.1 T0.out.2.2.2.1.1 HD.out.1).mono ?_
  rintro e w1 ⟨rfl, hb1⟩
  have Q1 : Hid _ := hb1
  have T1 : Hid _ := KV.out _ hb1
  clear hb1 y0 y1 T0
  have y0 := fun o => row_cell T1.out.1 o
  have y1 := fun o => row_cell T1.out.2.1 o
  go_wp2_with fail
  refine (eq_Pus p.wa q.wa p.wc q.wc r.ws _ T1.out.2.2.1.2.1 T1.out.2.2.2.1.2.1 HD.out.2.1).mono ?_
  rintro e w2 ⟨rfl, hb2⟩
  have Q2 : Hid (Below V.heap.size V w2) := Q1.out.trans (hb2.mono Q1.out.size)
  have T2 : Hid _ := KV.out _ Q2.out
  clear hb2 y0 y1 T1 Q1
  have y0 := fun o => row_cell T2.out.1 o
  have y1 := fun o => row_cell T2.out.2.1 o
  go_wp2_with fail
  refine (eq_out r.h r.sub (eq_ous r.sub) p.a1 p.a2 q.a1 q.a2 p.c1 p.c2 q.c1 q.c2 _ T2.out.2.2.1.2.2.1 T2.out.2.2.1.2.2.2.1 T2.out.2.2.2.1.2.2.1 T2.out.2.2.2.1.2.2.2.1 HD.out.2.2.1.1 HD.out.2.2.1.2.1 HD.out.2.2.1.2.2).mono ?_
  rintro e w3 ⟨rfl, hb3⟩
  have Q3 : Hid (Below V.heap.size V w3) := Q2.out.trans (hb3.mono Q2.out.size)
  have T3 : Hid _ := KV.out _ Q3.out
  clear hb3 y0 y1 T2 Q2
  have y0 := fun o => row_cell T3.out.1 o
  have y1 := fun o => row_cell T3.out.2.1 o
  go_wp2_with fail
  refine (eq_keys p.ea q.ea p.ec q.ec r.es _ T3.out.2.2.1.2.2.2.2 T3.out.2.2.2.1.2.2.2.2 HD.out.2.2.2.1).mono ?_
  rintro e w4 ⟨rfl, hb4⟩
  have Q4 : Hid (Below w.heap.size w w4) := (KV.out _ (Q3.out.trans (hb4.mono Q3.out.size))).2.2.2.2
  clear hb4 y0 y1 T3 Q3
  go_wp2_with fail
  go_ret
  exact ⟨rfl, Q4.out⟩
end Go.Proofs.YtoaeggfnlenjkaaGreatDoor.G
