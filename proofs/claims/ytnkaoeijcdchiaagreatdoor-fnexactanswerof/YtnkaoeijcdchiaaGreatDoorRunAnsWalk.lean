/- The walk of the law of WritesOf. -/
import Derived.Test.YtnkaoeijcdchiaaGreatDoorRunAns
import Derived.Test.YtnkaoeijcdchiaaGreatDoorRunMark
import Derived.Test.YtnkaoeijcdchiaaGreatDoorDocToOwn
import Derived.Test.YtnkaoeijcdchiaaGreatDoorDocFrag
import Derived.Test.YtnkaoeijcdchiaaGreatDoorDocEq
import Derived.Deep.CutRange
import Derived.Deep.RegionWith
namespace Go.Proofs.YtnkaoeijcdchiaaGreatDoor.G
open Go.ChangeShapes Go.WideShapes Go.ChangeAt Go.RowKit
set_option linter.unusedVariables false

/-- What an AnswerOf on copies leaves in two variables. -/
def AIs (V : World) (x : ByteArray) (y : Int) (u6 u7 : Value) (W : World) : Prop := u6 = .string x ∧ u7 = .int .i64 y ∧ Below V.heap.size V W
/-- The program's contract. -/
def ImplAns (l : List De) (r : Rn) : Prop := ∀ (a2 : Option Addr) (d2 : Nat) (q : RnA) (W : World), DeRow 0 W.heap.size W a2 l → RunRow 0 W.heap.size W q r → r.h.keys.length ≤ q.c1 → Vars W → DefsBd 1048576 l → RnSm r → Calls Tryz.prog 10 #[.agg #[.slice a2 l.length d2], .agg #[.int .i64 r.need, .slice q.ra r.rs.length q.rc, .slice q.wa r.ws.length q.wc, .int .i64 r.h.k, .int .i64 r.h.n, .string r.h.t, .slice q.a1 r.h.keys.length q.c1, .slice q.a2 r.sub.len q.c2, .slice q.ea r.es.length q.ec]] W fun e w' => e = ansE l r ∧ Below W.heap.size W w'
set_option maxHeartbeats 16000000 in
set_option maxRecDepth 40000 in
theorem walk_answerOf (a : Option Addr) (c : Nat) (l : List De) (r : Rn) (p : RnA) (w : World) (hd : DeRow 0 w.heap.size w a l) (hdb : DefsBd maxLen l) (hr : RunRow 0 w.heap.size w p r) (hrb : RnBd maxLen r) (hv : Vars w) (himpl : ImplAns l r) :
    Calls Tryz.prog 3 #[.agg #[.slice a l.length c], .agg #[.int .i64 r.need, .slice p.ra r.rs.length p.rc, .slice p.wa r.ws.length p.wc, .int .i64 r.h.k, .int .i64 r.h.n, .string r.h.t, .slice p.a1 r.h.keys.length p.c1, .slice p.a2 r.sub.len p.c2, .slice p.ea r.es.length p.ec]] w fun e w' => e = .returned (.bool true) ∧ Below w.heap.size w w' := by
  obtain ⟨V, hV⟩ : ∃ V, V = (w.alloc (.cells #[.slice a l.length c] 24)).alloc (.cells #[.int .i64 r.need, .slice p.ra r.rs.length p.rc, .slice p.wa r.ws.length p.wc, .int .i64 r.h.k, .int .i64 r.h.n, .string r.h.t, .slice p.a1 r.h.keys.length p.c1, .slice p.a2 r.sub.len p.c2, .slice p.ea r.es.length p.ec] 32) := ⟨_, rfl⟩
  have bV : Below w.heap.size w V := by
    rw [hV]
    repeat (first | exact Below.refl _ _ | refine Below.alloc ?_ (by first | omega | (simp <;> omega)) _)
  have c0 : V.heap[w.heap.size]? = some (.cells #[.slice a l.length c] 24 (0, 0)) := by
    rw [hV, Below.heap_alloc _ _ _ (by simp)]; exact heap_alloc_new _ _
  have c1 : V.heap[w.heap.size + 1]? = some (.cells #[.int .i64 r.need, .slice p.ra r.rs.length p.rc, .slice p.wa r.ws.length p.wc, .int .i64 r.h.k, .int .i64 r.h.n, .string r.h.t, .slice p.a1 r.h.keys.length p.c1, .slice p.a2 r.sub.len p.c2, .slice p.ea r.es.length p.ec] 32 (0, 0)) := by
    rw [hV]
    have := heap_alloc_new (w.alloc (.cells #[.slice a l.length c] 24)) (.cells #[.int .i64 r.need, .slice p.ra r.rs.length p.rc, .slice p.wa r.ws.length p.wc, .int .i64 r.h.k, .int .i64 r.h.n, .string r.h.t, .slice p.a1 r.h.keys.length p.c1, .slice p.a2 r.sub.len p.c2, .slice p.ea r.es.length p.ec] 32)
    simpa using this
  have z0 := (Array.getElem?_eq_some_iff.1 c0).1
  have z1 := (Array.getElem?_eq_some_iff.1 c1).1
  obtain ⟨A, hA⟩ : ∃ A, A = w.heap.size := ⟨_, rfl⟩
  rw [← hA] at c0 c1 z0 z1
  have T : Hid (∀ W, Below V.heap.size V W → W.heap[A]? = some (.cells #[.slice a l.length c] 24 (0, 0)) ∧ W.heap[A + 1]? = some (.cells #[.int .i64 r.need, .slice p.ra r.rs.length p.rc, .slice p.wa r.ws.length p.wc, .int .i64 r.h.k, .int .i64 r.h.n, .string r.h.t, .slice p.a1 r.h.keys.length p.c1, .slice p.a2 r.sub.len p.c2, .slice p.ea r.es.length p.ec] 32 (0, 0)) ∧ DeRow 0 W.heap.size W a l ∧ RunRow 0 W.heap.size W p r ∧ Vars W ∧ Below w.heap.size w W) := fun W hW =>
    have hw := bV.trans (hW.mono bV.size)
    ⟨(hW.block _ z0).trans c0, (hW.block _ z1).trans c1, hd.up hw, hr.up hw, hv.up hw, hw⟩
  have ZA : Hid (A = w.heap.size ∧ A + 1 < V.heap.size) := ⟨hA, z1⟩
  have HDB : Hid _ := hdb
  have HIM : Hid (ImplAns l r) := himpl
  clear himpl
  have HRB : Hid _ := hrb
  have HD0 : Hid (DeRow 0 w.heap.size w a l) := hd
  have HR0 : Hid (RunRow 0 w.heap.size w p r) := hr
  have HV0 : Hid (Vars w) := hv
  clear hd hr hdb hrb hv c0 c1 bV z0 z1
  go_enter Tryz.func3, Tryz.ntmps3
  go_upto_region 1 with fail
  rw [← hV, ← hA]
  clear hV hA
  have x0 := fun o => row_cell (T.out _ (Below.refl _ _)).1 o
  go_wp2_with fail
  refine (sz_doc_w a c l 1048576 _ (T.out _ (Below.refl _ _)).2.2.1 HDB.out (by omega) (by omega)).mono ?_
  rintro e w1 ⟨m, rfl, hm, bq⟩
  have HM : Hid (Sz 1048576 m (DefsBd 1048576 l ∧ (G.cnt wtD l : Int) ≤ 1048576 - m)) := hm
  have hm1 := hm.1
  clear hm x0
  have bb : Below V.heap.size V w1 := bq
  have T2 : Hid (∀ W, Below w1.heap.size w1 W → W.heap[A]? = some (.cells #[.slice a l.length c] 24 (0, 0)) ∧ W.heap[A + 1]? = some (.cells #[.int .i64 r.need, .slice p.ra r.rs.length p.rc, .slice p.wa r.ws.length p.wc, .int .i64 r.h.k, .int .i64 r.h.n, .string r.h.t, .slice p.a1 r.h.keys.length p.c1, .slice p.a2 r.sub.len p.c2, .slice p.ea r.es.length p.ec] 32 (0, 0)) ∧ DeRow 0 W.heap.size W a l ∧ RunRow 0 W.heap.size W p r ∧ Vars W ∧ Below w.heap.size w W) := fun W hW => by
    have hq : Below V.heap.size V W := Below.trans bb (hW.mono (by have h1 := (bb).size; omega))
    have t := T.out W hq
    exact ⟨t.1, t.2.1, t.2.2.1, t.2.2.2.1, t.2.2.2.2.1, t.2.2.2.2.2⟩
  clear T
  have T := T2
  clear T2
  clear bq bb
  by_cases hneg : m < 0
  · have QB : Hid (Below w.heap.size w w1) := (T.out _ (Below.refl _ _)).2.2.2.2.2
    clear T
    go_wp2_with fail
    go_ret
    exact ⟨rfl, QB.out⟩
  have HE : Hid (DefsBd 1048576 l) := (HM.out.2.2 (by omega)).1
  have HC9 : Hid (((1 + G.cnt cDe l : Nat) : Int) ≤ 4611686018427387904) := by have h1 := (HM.out.2.2 (by omega)).2; have h2 := cnt_wt l; unfold Hid; omega
  have HC8 : Hid (((1 + G.cnt cDe l : Nat) : Int) ≤ 4294967296) := by have h1 := (HM.out.2.2 (by omega)).2; have h2 := cnt_wt l; unfold Hid; omega
  clear HM
  have x1 := fun o => row_cell (T.out _ (Below.refl _ _)).2.1 o
  go_wp2_with fail
  refine (sz_run r p m _ (T.out _ (Below.refl _ _)).2.2.2.1 HRB.out (by omega) (by omega)).mono ?_
  rintro e w2 ⟨m', rfl, hm, bq⟩
  have HM : Hid (Sz m m' (RnSm r)) := hm
  clear hm x1
  have bb : Below w1.heap.size w1 w2 := bq
  have T2 : Hid (∀ W, Below w2.heap.size w2 W → W.heap[A]? = some (.cells #[.slice a l.length c] 24 (0, 0)) ∧ W.heap[A + 1]? = some (.cells #[.int .i64 r.need, .slice p.ra r.rs.length p.rc, .slice p.wa r.ws.length p.wc, .int .i64 r.h.k, .int .i64 r.h.n, .string r.h.t, .slice p.a1 r.h.keys.length p.c1, .slice p.a2 r.sub.len p.c2, .slice p.ea r.es.length p.ec] 32 (0, 0)) ∧ DeRow 0 W.heap.size W a l ∧ RunRow 0 W.heap.size W p r ∧ Vars W ∧ Below w.heap.size w W) := fun W hW => by
    have hq : Below w1.heap.size w1 W := Below.trans bb (hW.mono (by have h1 := (bb).size; omega))
    have t := T.out W hq
    exact ⟨t.1, t.2.1, t.2.2.1, t.2.2.2.1, t.2.2.2.2.1, t.2.2.2.2.2⟩
  clear T
  have T := T2
  clear T2
  clear bq bb
  by_cases hneg' : m' < 0
  · have QB : Hid (Below w.heap.size w w2) := (T.out _ (Below.refl _ _)).2.2.2.2.2
    clear T
    go_wp2_with fail
    go_ret
    exact ⟨rfl, QB.out⟩
  have HS : Hid (RnSm r) := HM.out.2.2 (by omega)
  clear HM hneg hm1
  obtain ⟨x, y, hE⟩ : ∃ (x : ByteArray) (y : Int), ansE l r = .returned (.tuple #[.string x, .int .i64 y]) := by
    unfold ansE
    split <;> exact ⟨_, _, rfl⟩
  have SQ : Hid (∀ (a2 : Option Addr) (d2 : Nat) (q : RnA) (W : World), DeRow 0 W.heap.size W a2 l → RunRow 0 W.heap.size W q r → r.h.keys.length ≤ q.c1 → Calls Tryz.prog 7 #[.agg #[.slice a2 l.length d2], .agg #[.int .i64 r.need, .slice q.ra r.rs.length q.rc, .slice q.wa r.ws.length q.wc, .int .i64 r.h.k, .int .i64 r.h.n, .string r.h.t, .slice q.a1 r.h.keys.length q.c1, .slice q.a2 r.sub.len q.c2, .slice q.ea r.es.length q.ec]] W fun e w' => e = .returned (.tuple #[.string x, .int .i64 y]) ∧ Below W.heap.size W w') := fun a2 d2 q W h1 h2 h3 => by rw [← hE]; exact spec_answerOf a2 d2 l r q W h1 HE.out h2 h3 HS.out
  have IQ : Hid (∀ (a2 : Option Addr) (d2 : Nat) (q : RnA) (W : World), DeRow 0 W.heap.size W a2 l → RunRow 0 W.heap.size W q r → r.h.keys.length ≤ q.c1 → Vars W → Calls Tryz.prog 10 #[.agg #[.slice a2 l.length d2], .agg #[.int .i64 r.need, .slice q.ra r.rs.length q.rc, .slice q.wa r.ws.length q.wc, .int .i64 r.h.k, .int .i64 r.h.n, .string r.h.t, .slice q.a1 r.h.keys.length q.c1, .slice q.a2 r.sub.len q.c2, .slice q.ea r.es.length q.ec]] W fun e w' => e = .returned (.tuple #[.string x, .int .i64 y]) ∧ Below W.heap.size W w') := fun a2 d2 q W h1 h2 h3 h4 => by rw [← hE]; exact HIM.out a2 d2 q W h1 h2 h3 h4 HE.out HS.out
  clear hE HIM
  go_wp2_with fail
  clear hneg'
  have x0 := fun o => row_cell (T.out _ (Below.refl _ _)).1 o
  have x1 := fun o => row_cell (T.out _ (Below.refl _ _)).2.1 o
  go_cut [6, 7] from 22 to 29 (fun u6 u7 wx => AIs w2 x y u6 u7 wx)
  case first =>
    go_region_with (first
      | (go_at_call 8
         refine Calls.mono (to_doc_o a c l _ (T.out _ (by repeat (first | exact Below.refl _ _ | refine Below.drew ?_))).2.2.1 HE.out) ?_
         rintro e y3 ⟨a3, d3, rfl, o3, b3⟩
         have y3z : Below w2.heap.size w2 y3 := Below.trans (Below.refl _ _).drew b3
         have Y3 : Hid (Below w2.heap.size w2 y3) := y3z
         have R3 : Hid (DeRow 0 y3.heap.size y3 a3 l) := DeRow.wide (DeOwn.row o3) (Nat.zero_le _) (Nat.le_refl _)
         have x3 := fun o => row_cell (T.out _ Y3.out).2.1 o
         clear o3 b3 y3z)
      | (go_at_call 9
         refine Calls.mono (to_run r p _ (T.out _ Y3.out).2.2.2.1 HS.out.1) ?_
         rintro e y4 ⟨q4, rfl, o4, b4⟩
         have Y4 : Hid (Below w2.heap.size w2 y4) := Y3.out.trans (b4.mono Y3.out.size)
         have R4 : Hid (DeRow 0 y4.heap.size y4 a3 l) := DeRow.up R3.out b4
         have P4 : Hid (RunRow 0 y4.heap.size y4 q4 r) := RunRow.wide o4.row (Nat.zero_le _) (Nat.le_refl _)
         clear o4 b4)
      | (go_at_call 7
         refine Calls.mono (SQ.out a3 d3 ⟨q4.ra, r.rs.length, q4.wa, r.ws.length, q4.a1, r.h.keys.length, q4.a2, r.sub.len, q4.ea, r.es.length⟩ _ R4.out P4.out (Nat.le_refl _)) ?_
         rintro e y5 ⟨rfl, b5⟩
         have Y5 : Hid (Below w2.heap.size w2 y5) := Y4.out.trans (b5.mono Y4.out.size)
         clear b5))
    all_goals (try go_wp2_with fail)
    all_goals go_meet
    all_goals exact ⟨rfl, rfl, Y5.out⟩
  clear x0 x1
  obtain ⟨wA, rfl⟩ : ∃ x, x = wc := ⟨_, rfl⟩
  obtain ⟨rfl, rfl, bq⟩ := hcut
  have T2 : Hid (∀ W, Below wA.heap.size wA W → W.heap[A]? = some (.cells #[.slice a l.length c] 24 (0, 0)) ∧ W.heap[A + 1]? = some (.cells #[.int .i64 r.need, .slice p.ra r.rs.length p.rc, .slice p.wa r.ws.length p.wc, .int .i64 r.h.k, .int .i64 r.h.n, .string r.h.t, .slice p.a1 r.h.keys.length p.c1, .slice p.a2 r.sub.len p.c2, .slice p.ea r.es.length p.ec] 32 (0, 0)) ∧ DeRow 0 W.heap.size W a l ∧ RunRow 0 W.heap.size W p r ∧ Vars W ∧ Below w.heap.size w W) := fun W hW => by
    have hq : Below w2.heap.size w2 W := Below.trans bq (hW.mono (by have h1 := (bq).size; omega))
    have t := T.out W hq
    exact ⟨t.1, t.2.1, t.2.2.1, t.2.2.2.1, t.2.2.2.2.1, t.2.2.2.2.2⟩
  clear T
  have T := T2
  clear T2
  have lo3 : Hid (A + 1 < wA.heap.size) := by have h1 := ZA.out; have h2 := (T.out _ (Below.refl _ _)); have h3 := Array.getElem?_eq_some_iff.1 h2.2.1; exact h3.1
  clear bq SQ
  have x0 := fun o => row_cell (T.out _ (Below.refl _ _)).1 o
  go_wp2_with fail
  refine (to_doc_o a c l _ (T.out _ (Below.refl _ _)).2.2.1 HE.out).mono ?_
  rintro e w3 ⟨a4, d4, rfl, oq, bq⟩
  have O3 : Hid (DeOwn wA.heap.size w3.heap.size w3 a4 l) := oq
  have Z3 : Hid (wA.heap.size ≤ w3.heap.size) := bq.size
  have zq := bq.size
  clear x0
  obtain ⟨vXD, hvXD⟩ : ∃ x : World, x = w3.alloc (.cells #[.slice a4 l.length d4] 39) := ⟨_, rfl⟩
  have bvXD : Below w3.heap.size w3 vXD := by rw [hvXD]; exact (Below.refl _ _).alloc (Nat.le_refl _) _
  have cvXD : vXD.heap[w3.heap.size]? = some (.cells #[.slice a4 l.length d4] 39 (0, 0)) := by rw [hvXD]; exact heap_alloc_new _ _
  have zvXD := (Array.getElem?_eq_some_iff.1 cvXD).1
  obtain ⟨XD, hXD⟩ : ∃ XD, XD = w3.heap.size := ⟨_, rfl⟩
  rw [← hXD] at cvXD zvXD
  have bb : Below wA.heap.size wA vXD := bq.trans (bvXD.mono zq)
  have T2 : Hid (∀ W, Below vXD.heap.size vXD W → W.heap[A]? = some (.cells #[.slice a l.length c] 24 (0, 0)) ∧ W.heap[A + 1]? = some (.cells #[.int .i64 r.need, .slice p.ra r.rs.length p.rc, .slice p.wa r.ws.length p.wc, .int .i64 r.h.k, .int .i64 r.h.n, .string r.h.t, .slice p.a1 r.h.keys.length p.c1, .slice p.a2 r.sub.len p.c2, .slice p.ea r.es.length p.ec] 32 (0, 0)) ∧ DeRow 0 W.heap.size W a l ∧ RunRow 0 W.heap.size W p r ∧ Vars W ∧ Below w.heap.size w W ∧ W.heap[XD]? = some (.cells #[.slice a4 l.length d4] 39 (0, 0)) ∧ DeOwn wA.heap.size w3.heap.size W a4 l) := fun W hW => by
    have hq : Below wA.heap.size wA W := Below.trans bb (hW.mono (by have h1 := (bb).size; omega))
    have t := T.out W hq
    exact ⟨t.1, t.2.1, t.2.2.1, t.2.2.2.1, t.2.2.2.2.1, t.2.2.2.2.2, (hW.block _ zvXD).trans cvXD, DeOwn.keep O3.out (fun g h1 h2 => ((bvXD).trans (hW.mono (bvXD).size)).block g h2)⟩
  clear T
  have T := T2
  clear T2
  have ZXD : Hid (XD = w3.heap.size ∧ XD < vXD.heap.size) := ⟨hXD, zvXD⟩
  go_upto_region 10 with fail
  rw [← hvXD, ← hXD]
  clear hvXD bvXD cvXD zvXD hXD bb bq zq
  clear O3 oq
  have x0 := fun o => row_cell (T.out _ (Below.refl _ _)).2.1 o
  go_wp2_with fail
  refine (to_run r p _ (T.out _ (Below.refl _ _)).2.2.2.1 HS.out.1).mono ?_
  rintro e w4 ⟨q, rfl, oq, bq⟩
  have O4 : Hid (RunOwn vXD.heap.size w4.heap.size w4 q r) := oq
  have ZB : Hid (vXD.heap.size ≤ w4.heap.size) := bq.size
  have zq := bq.size
  clear x0
  obtain ⟨vXR, hvXR⟩ : ∃ x : World, x = w4.alloc (.cells #[.int .i64 r.need, .slice q.ra r.rs.length r.rs.length, .slice q.wa r.ws.length r.ws.length, .int .i64 r.h.k, .int .i64 r.h.n, .string r.h.t, .slice q.a1 r.h.keys.length r.h.keys.length, .slice q.a2 r.sub.len r.sub.len, .slice q.ea r.es.length r.es.length] 46) := ⟨_, rfl⟩
  have bvXR : Below w4.heap.size w4 vXR := by rw [hvXR]; exact (Below.refl _ _).alloc (Nat.le_refl _) _
  have cvXR : vXR.heap[w4.heap.size]? = some (.cells #[.int .i64 r.need, .slice q.ra r.rs.length r.rs.length, .slice q.wa r.ws.length r.ws.length, .int .i64 r.h.k, .int .i64 r.h.n, .string r.h.t, .slice q.a1 r.h.keys.length r.h.keys.length, .slice q.a2 r.sub.len r.sub.len, .slice q.ea r.es.length r.es.length] 46 (0, 0)) := by rw [hvXR]; exact heap_alloc_new _ _
  have zvXR := (Array.getElem?_eq_some_iff.1 cvXR).1
  obtain ⟨XR, hXR⟩ : ∃ XR, XR = w4.heap.size := ⟨_, rfl⟩
  rw [← hXR] at cvXR zvXR
  have bb : Below vXD.heap.size vXD vXR := bq.trans (bvXR.mono zq)
  have T2 : Hid (∀ W, Below vXR.heap.size vXR W → W.heap[A]? = some (.cells #[.slice a l.length c] 24 (0, 0)) ∧ W.heap[A + 1]? = some (.cells #[.int .i64 r.need, .slice p.ra r.rs.length p.rc, .slice p.wa r.ws.length p.wc, .int .i64 r.h.k, .int .i64 r.h.n, .string r.h.t, .slice p.a1 r.h.keys.length p.c1, .slice p.a2 r.sub.len p.c2, .slice p.ea r.es.length p.ec] 32 (0, 0)) ∧ DeRow 0 W.heap.size W a l ∧ RunRow 0 W.heap.size W p r ∧ Vars W ∧ Below w.heap.size w W ∧ W.heap[XD]? = some (.cells #[.slice a4 l.length d4] 39 (0, 0)) ∧ DeOwn wA.heap.size w3.heap.size W a4 l ∧ W.heap[XR]? = some (.cells #[.int .i64 r.need, .slice q.ra r.rs.length r.rs.length, .slice q.wa r.ws.length r.ws.length, .int .i64 r.h.k, .int .i64 r.h.n, .string r.h.t, .slice q.a1 r.h.keys.length r.h.keys.length, .slice q.a2 r.sub.len r.sub.len, .slice q.ea r.es.length r.es.length] 46 (0, 0)) ∧ RunOwn vXD.heap.size w4.heap.size W q r) := fun W hW => by
    have hq : Below vXD.heap.size vXD W := Below.trans bb (hW.mono (by have h1 := (bb).size; omega))
    have t := T.out W hq
    exact ⟨t.1, t.2.1, t.2.2.1, t.2.2.2.1, t.2.2.2.2.1, t.2.2.2.2.2.1, t.2.2.2.2.2.2.1, t.2.2.2.2.2.2.2, (hW.block _ zvXR).trans cvXR, RunOwn.keep O4.out (fun g h1 h2 => ((bvXR).trans (hW.mono (bvXR).size)).block g h2)⟩
  clear T
  have T := T2
  clear T2
  have ZXR : Hid (XR = w4.heap.size ∧ XR < vXR.heap.size) := ⟨hXR, zvXR⟩
  go_upto_region 11 with fail
  rw [← hvXR, ← hXR]
  clear hvXR bvXR cvXR zvXR hXR bb bq zq
  clear O4 oq
  have x0 := fun o => row_cell (T.out _ (Below.refl _ _)).2.2.2.2.2.2.1 o
  have x1 := fun o => row_cell (T.out _ (Below.refl _ _)).2.2.2.2.2.2.2.2.1 o
  have DR : Hid (DeRow 0 vXR.heap.size vXR a4 l) := DeRow.wide (DeOwn.row (T.out _ (Below.refl _ _)).2.2.2.2.2.2.2.1) (Nat.zero_le _) (by have h1 := ZXR.out; have h2 := ZXD.out; have h3 := ZB.out; omega)
  have RR : Hid (RunRow 0 vXR.heap.size vXR q r) := RunRow.wide (T.out _ (Below.refl _ _)).2.2.2.2.2.2.2.2.2.row (Nat.zero_le _) (by have h1 := ZXR.out; omega)
  go_wp2_with fail
  refine (IQ.out a4 d4 ⟨q.ra, r.rs.length, q.wa, r.ws.length, q.a1, r.h.keys.length, q.a2, r.sub.len, q.ea, r.es.length⟩ _ DR.out RR.out (Nat.le_refl _) (T.out _ (Below.refl _ _)).2.2.2.2.1).mono ?_
  rintro e w6 ⟨rfl, bq⟩
  have Z6 : Hid (vXR.heap.size ≤ w6.heap.size) := bq.size
  clear x0 x1 DR RR
  have bb : Below vXR.heap.size vXR w6 := bq
  have T2 : Hid (∀ W, Below w6.heap.size w6 W → W.heap[A]? = some (.cells #[.slice a l.length c] 24 (0, 0)) ∧ W.heap[A + 1]? = some (.cells #[.int .i64 r.need, .slice p.ra r.rs.length p.rc, .slice p.wa r.ws.length p.wc, .int .i64 r.h.k, .int .i64 r.h.n, .string r.h.t, .slice p.a1 r.h.keys.length p.c1, .slice p.a2 r.sub.len p.c2, .slice p.ea r.es.length p.ec] 32 (0, 0)) ∧ DeRow 0 W.heap.size W a l ∧ RunRow 0 W.heap.size W p r ∧ Vars W ∧ Below w.heap.size w W ∧ W.heap[XD]? = some (.cells #[.slice a4 l.length d4] 39 (0, 0)) ∧ DeOwn wA.heap.size w3.heap.size W a4 l ∧ W.heap[XR]? = some (.cells #[.int .i64 r.need, .slice q.ra r.rs.length r.rs.length, .slice q.wa r.ws.length r.ws.length, .int .i64 r.h.k, .int .i64 r.h.n, .string r.h.t, .slice q.a1 r.h.keys.length r.h.keys.length, .slice q.a2 r.sub.len r.sub.len, .slice q.ea r.es.length r.es.length] 46 (0, 0)) ∧ RunOwn vXD.heap.size w4.heap.size W q r) := fun W hW => by
    have hq : Below vXR.heap.size vXR W := Below.trans bb (hW.mono (by have h1 := (bb).size; omega))
    have t := T.out W hq
    exact ⟨t.1, t.2.1, t.2.2.1, t.2.2.2.1, t.2.2.2.2.1, t.2.2.2.2.2.1, t.2.2.2.2.2.2.1, t.2.2.2.2.2.2.2.1, t.2.2.2.2.2.2.2.2.1, t.2.2.2.2.2.2.2.2.2⟩
  clear T
  have T := T2
  clear T2
  clear bq bb
  have x0 := fun o => row_cell (T.out _ (Below.refl _ _)).2.2.2.2.2.2.1 o
  have x1 := fun o => row_cell (T.out _ (Below.refl _ _)).1 o
  have ZD6 : Hid (w3.heap.size ≤ w6.heap.size ∧ vXD.heap.size ≤ w6.heap.size ∧ vXR.heap.size ≤ w6.heap.size ∧ w4.heap.size ≤ w6.heap.size) := by
    have h1 := ZXR.out; have h2 := ZXD.out; have h3 := ZB.out; have h4 := Z6.out
    unfold Hid; omega
  go_wp2_with fail
  go_cut [52] from 48 to 52 (fun u wx => u = .bool false ∧ Hid (Below w6.heap.size w6 wx))
  case first =>
    go_region_with (first
      | (go_at_call 8
         refine Calls.mono (to_doc_o a c l _ (T.out _ (by repeat (first | exact Below.refl _ _ | refine Below.drew ?_))).2.2.1 HE.out) ?_
         rintro e y3 ⟨a3, d3, rfl, o3, b3⟩
         have Y3 : Hid (Below w6.heap.size w6 y3) := Below.trans (Below.refl _ _).drew b3
         have R3 : Hid (DeRow 0 y3.heap.size y3 a3 l) := DeRow.wide (DeOwn.row o3) (Nat.zero_le _) (Nat.le_refl _)
         have R9 : Hid (DeRow 0 y3.heap.size y3 a4 l) := DeRow.wide (DeOwn.row (T.out _ Y3.out).2.2.2.2.2.2.2.1) (Nat.zero_le _) (by have h1 := ZD6.out; have h2 := Y3.out.size; omega)
         have x3 := fun o => row_cell (T.out _ Y3.out).2.2.2.2.2.2.1 o
         clear o3 b3)
      | (go_at_call 11
         refine Calls.mono (eq_doc a4 a3 d4 d3 l _ R9.out R3.out HE.out) ?_
         rintro e y4 ⟨rfl, b4⟩
         have Y4 : Hid (Below w6.heap.size w6 y4) := Y3.out.trans (b4.mono Y3.out.size)
         clear b4))
    all_goals (try go_wp2_with fail)
    all_goals go_meet
    all_goals exact ⟨rfl, Y4⟩
  clear x0 x1
  obtain ⟨w7, rfl⟩ : ∃ x, x = wc := ⟨_, rfl⟩
  obtain ⟨rfl, BQ⟩ := hcut
  have bq := BQ.out
  have T2 : Hid (∀ W, Below w7.heap.size w7 W → W.heap[A]? = some (.cells #[.slice a l.length c] 24 (0, 0)) ∧ W.heap[A + 1]? = some (.cells #[.int .i64 r.need, .slice p.ra r.rs.length p.rc, .slice p.wa r.ws.length p.wc, .int .i64 r.h.k, .int .i64 r.h.n, .string r.h.t, .slice p.a1 r.h.keys.length p.c1, .slice p.a2 r.sub.len p.c2, .slice p.ea r.es.length p.ec] 32 (0, 0)) ∧ DeRow 0 W.heap.size W a l ∧ RunRow 0 W.heap.size W p r ∧ Vars W ∧ Below w.heap.size w W ∧ W.heap[XD]? = some (.cells #[.slice a4 l.length d4] 39 (0, 0)) ∧ DeOwn wA.heap.size w3.heap.size W a4 l ∧ W.heap[XR]? = some (.cells #[.int .i64 r.need, .slice q.ra r.rs.length r.rs.length, .slice q.wa r.ws.length r.ws.length, .int .i64 r.h.k, .int .i64 r.h.n, .string r.h.t, .slice q.a1 r.h.keys.length r.h.keys.length, .slice q.a2 r.sub.len r.sub.len, .slice q.ea r.es.length r.es.length] 46 (0, 0)) ∧ RunOwn vXD.heap.size w4.heap.size W q r) := fun W hW => by
    have hq : Below w6.heap.size w6 W := Below.trans bq (hW.mono (by have h1 := (bq).size; omega))
    have t := T.out W hq
    exact ⟨t.1, t.2.1, t.2.2.1, t.2.2.2.1, t.2.2.2.2.1, t.2.2.2.2.2.1, t.2.2.2.2.2.2.1, t.2.2.2.2.2.2.2.1, t.2.2.2.2.2.2.2.2.1, t.2.2.2.2.2.2.2.2.2⟩
  clear T
  have T := T2
  clear T2
  have Z7 : Hid (w6.heap.size ≤ w7.heap.size) := BQ.out.size
  clear bq BQ
  have x0 := fun o => row_cell (T.out _ (Below.refl _ _)).2.2.2.2.2.2.2.2.1 o
  have x1 := fun o => row_cell (T.out _ (Below.refl _ _)).2.1 o
  go_wp2_with fail
  go_cut [57] from 53 to 57 (fun u wx => u = .bool false ∧ Hid (Below w7.heap.size w7 wx))
  case first =>
    go_region_with (first
      | (go_at_call 9
         refine Calls.mono (to_run r p _ (T.out _ (by repeat (first | exact Below.refl _ _ | refine Below.drew ?_))).2.2.2.1 HS.out.1) ?_
         rintro e y3 ⟨q3, rfl, o3, b3⟩
         have Y3 : Hid (Below w7.heap.size w7 y3) := Below.trans (Below.refl _ _).drew b3
         have R3 : Hid (RunRow 0 y3.heap.size y3 q3 r) := RunRow.wide o3.row (Nat.zero_le _) (Nat.le_refl _)
         have R9 : Hid (RunRow 0 y3.heap.size y3 q r) := RunRow.wide (T.out _ Y3.out).2.2.2.2.2.2.2.2.2.row (Nat.zero_le _) (by have h1 := ZD6.out; have h3 := Z7.out; have h2 := Y3.out.size; omega)
         have x3 := fun o => row_cell (T.out _ Y3.out).2.2.2.2.2.2.2.2.1 o
         clear o3 b3)
      | (go_at_call 12
         refine Calls.mono (eq_run r ⟨q.ra, r.rs.length, q.wa, r.ws.length, q.a1, r.h.keys.length, q.a2, r.sub.len, q.ea, r.es.length⟩ ⟨q3.ra, r.rs.length, q3.wa, r.ws.length, q3.a1, r.h.keys.length, q3.a2, r.sub.len, q3.ea, r.es.length⟩ _ R9.out R3.out HS.out.1) ?_
         rintro e y4 ⟨rfl, b4⟩
         have Y4 : Hid (Below w7.heap.size w7 y4) := Y3.out.trans (b4.mono Y3.out.size)
         clear b4))
    all_goals (try go_wp2_with fail)
    all_goals go_meet
    all_goals exact ⟨rfl, Y4⟩
  clear x0 x1
  obtain ⟨w8, rfl⟩ : ∃ x, x = wc := ⟨_, rfl⟩
  obtain ⟨rfl, BQ⟩ := hcut
  have bq := BQ.out
  have T2 : Hid (∀ W, Below w8.heap.size w8 W → W.heap[A]? = some (.cells #[.slice a l.length c] 24 (0, 0)) ∧ W.heap[A + 1]? = some (.cells #[.int .i64 r.need, .slice p.ra r.rs.length p.rc, .slice p.wa r.ws.length p.wc, .int .i64 r.h.k, .int .i64 r.h.n, .string r.h.t, .slice p.a1 r.h.keys.length p.c1, .slice p.a2 r.sub.len p.c2, .slice p.ea r.es.length p.ec] 32 (0, 0)) ∧ DeRow 0 W.heap.size W a l ∧ RunRow 0 W.heap.size W p r ∧ Vars W ∧ Below w.heap.size w W ∧ W.heap[XD]? = some (.cells #[.slice a4 l.length d4] 39 (0, 0)) ∧ DeOwn wA.heap.size w3.heap.size W a4 l ∧ W.heap[XR]? = some (.cells #[.int .i64 r.need, .slice q.ra r.rs.length r.rs.length, .slice q.wa r.ws.length r.ws.length, .int .i64 r.h.k, .int .i64 r.h.n, .string r.h.t, .slice q.a1 r.h.keys.length r.h.keys.length, .slice q.a2 r.sub.len r.sub.len, .slice q.ea r.es.length r.es.length] 46 (0, 0)) ∧ RunOwn vXD.heap.size w4.heap.size W q r) := fun W hW => by
    have hq : Below w7.heap.size w7 W := Below.trans bq (hW.mono (by have h1 := (bq).size; omega))
    have t := T.out W hq
    exact ⟨t.1, t.2.1, t.2.2.1, t.2.2.2.1, t.2.2.2.2.1, t.2.2.2.2.2.1, t.2.2.2.2.2.2.1, t.2.2.2.2.2.2.2.1, t.2.2.2.2.2.2.2.2.1, t.2.2.2.2.2.2.2.2.2⟩
  clear T
  have T := T2
  clear T2
  have Z8 : Hid (w7.heap.size ≤ w8.heap.size) := BQ.out.size
  clear bq BQ
  have QB : Hid (Below w.heap.size w w8) := (T.out _ (Below.refl _ _)).2.2.2.2.2.1
  clear T
  go_wp2_with fail
  go_ret
  exact ⟨rfl, QB.out⟩
end Go.Proofs.YtnkaoeijcdchiaaGreatDoor.G
