/- The walk of the law of WritesOf. -/
import Derived.Test.YtnkaoeijcdchiaaGreatDoorRunWr
import Derived.Test.YtnkaoeijcdchiaaGreatDoorRunMark
import Derived.Test.YtnkaoeijcdchiaaGreatDoorDocMarkTwo
import Derived.Test.YtnkaoeijcdchiaaGreatDoorDocToOwn
import Derived.Test.YtnkaoeijcdchiaaGreatDoorDocFrag
import Derived.Test.YtnkaoeijcdchiaaGreatDoorDocEq
import Derived.Deep.CutRange
import Derived.Deep.RegionWith
namespace Go.Proofs.YtnkaoeijcdchiaaGreatDoor.G
open Go.ChangeShapes Go.WideShapes Go.ChangeAt Go.RowKit
set_option linter.unusedVariables false

/-- Marks in a row of writes. -/
def RwMk (lo hi : Nat) (w : World) (a : Option Addr) (n : Nat) (K : Int) : Prop := n = 0 ∨ ∃ g, a = some ⟨g, 0, none⟩ ∧ lo ≤ g ∧ g < hi ∧ PuMk w g K n
theorem RwMk.keep {lo hi : Nat} {w w' : World} {a : Option Addr} {n : Nat} {K : Int} (h : RwMk lo hi w a n K) (hk : Agree lo hi w w') : RwMk lo hi w' a n K := by
  rcases h with h | ⟨g, e, h1, h2, h3⟩
  · exact .inl h
  · exact .inr ⟨g, e, h1, h2, h3.move (hk g h1 h2)⟩
theorem mark_wr (a : Option Addr) (c : Nat) (x : List Ve) (lo hi : Nat) (w : World) (ho : RwOwn lo hi w a x) (hl : x.length ≤ 1048576) :
    Calls Tryz.prog 18 #[.slice a x.length c, .int .i64 1] w fun e w' => ∃ r : Int, e = .returned (.int .i64 r) ∧ r = 1 + 2 * x.length ∧ RwMk lo hi w' a x.length 1 ∧ KeptR lo hi w w' := by
  rcases ho with rfl | ⟨g, rfl, h2, h3, h4⟩
  · refine (mark_Pus0 a c 1 w).mono ?_
    rintro e w' ⟨rfl, rfl⟩
    exact ⟨1, rfl, by simp, .inl rfl, KeptR.refl _ _ _⟩
  · refine (mark_Pus g c x 1 w h4 hl (by omega) (by omega)).mono ?_
    rintro e w' ⟨r, rfl, hr, hm, hk⟩
    exact ⟨r, rfl, hr, .inr ⟨g, rfl, h2, h3, hm⟩, (keptS_R hk).more h2 (by omega)⟩
theorem held_wr (a : Option Addr) (c n : Nat) (lo hi : Nat) (w : World) (ho : RwMk lo hi w a n 1) (hl : n ≤ 1048576) :
    Calls Tryz.prog 19 #[.slice a n c, .int .i64 1] w fun e w' => ∃ r : Int, e = .returned (.int .i64 r) ∧ r = 1 + 2 * n ∧ w' = w := by
  rcases ho with rfl | ⟨g, rfl, h2, h3, h4⟩
  · refine (held_Pus0 a c 1 w).mono ?_
    rintro e w' ⟨rfl, rfl⟩
    exact ⟨1, rfl, by simp, rfl⟩
  · exact held_Pus g c n 1 w h4 hl (by omega) (by omega)
/-- What a WritesOf on copies leaves in two variables. -/
def WIs (V : World) (x : List Ve) (y : Int) (u6 u7 : Value) (W : World) : Prop := ∃ (a' : Option Addr) (c' : Nat), u6 = .slice a' x.length c' ∧ u7 = .int .i64 y ∧ VeRow 0 W.heap.size W a' x ∧ Below V.heap.size V W
theorem wrOf_len (l : List De) (r : Rn) (h : r.ws.length ≤ 1048576) : (wrOf l r).length ≤ 1048576 := by
  unfold wrOf; split
  · exact wsOf_len r h
  · exact Nat.zero_le _
set_option maxHeartbeats 16000000 in
set_option maxRecDepth 40000 in
theorem walk_writesOf (a : Option Addr) (c : Nat) (l : List De) (r : Rn) (p : RnA) (w : World) (hd : DeRow 0 w.heap.size w a l) (hdb : DefsBd maxLen l) (hr : RunRow 0 w.heap.size w p r) (hrb : RnBd maxLen r) (hv : Vars w) :
    Calls Tryz.prog 4 #[.agg #[.slice a l.length c], .agg #[.int .i64 r.need, .slice p.ra r.rs.length p.rc, .slice p.wa r.ws.length p.wc, .int .i64 r.h.k, .int .i64 r.h.n, .string r.h.t, .slice p.a1 r.h.keys.length p.c1, .slice p.a2 r.sub.len p.c2, .slice p.ea r.es.length p.ec]] w fun e w' => e = .returned (.bool true) ∧ Below w.heap.size w w' := by
  obtain ⟨V, hV⟩ : ∃ V, V = (w.alloc (.cells #[.slice a l.length c] 24)).alloc (.cells #[.int .i64 r.need, .slice p.ra r.rs.length p.rc, .slice p.wa r.ws.length p.wc, .int .i64 r.h.k, .int .i64 r.h.n, .string r.h.t, .slice p.a1 r.h.keys.length p.c1, .slice p.a2 r.sub.len p.c2, .slice p.ea r.es.length p.ec] 32) := ⟨_, rfl⟩
  have bV : Below w.heap.size w V := by
    rw [hV]
    repeat (first | exact Below.refl _ _ | refine Below.alloc ?_ (by first | omega | (simp <;> omega)) _)
  have c0 : V.heap[w.heap.size]? = some (.cells #[.slice a l.length c] 24 (0, 0)) := by
    rw [hV, Below.heap_alloc _ _ _ (by simp)]; exact heap_alloc_new _ _
  have c1 : V.heap[w.heap.size + 1]? = some (.cells #[.int .i64 r.need, .slice p.ra r.rs.length p.rc, .slice p.wa r.ws.length p.wc, .int .i64 r.h.k, .int .i64 r.h.n, .string r.h.t, .slice p.a1 r.h.keys.length p.c1, .slice p.a2 r.sub.len p.c2, .slice p.ea r.es.length p.ec] 32 (0, 0)) := by
    rw [hV]
    have := heap_alloc_new (w.alloc (.cells #[.slice a l.length c] 24)) (.cells #[.int .i64 r.need, .slice p.ra r.rs.length p.rc, .slice p.wa r.ws.length p.wc, .int .i64 r.h.k, .int .i64 r.h.n, .string r.h.t, .slice p.a1 r.h.keys.length p.c1, .slice p.a2 r.sub.len p.c2, .slice p.ea r.es.length p.ec] 32)
    simpa using this
  have z0 := (Array.getElem?_eq_some_iff.1 c0).1
  have z1 := (Array.getElem?_eq_some_iff.1 c1).1
  obtain ⟨A, hA⟩ : ∃ A, A = w.heap.size := ⟨_, rfl⟩
  rw [← hA] at c0 c1 z0 z1
  have T : Hid (∀ W, Below V.heap.size V W → W.heap[A]? = some (.cells #[.slice a l.length c] 24 (0, 0)) ∧ W.heap[A + 1]? = some (.cells #[.int .i64 r.need, .slice p.ra r.rs.length p.rc, .slice p.wa r.ws.length p.wc, .int .i64 r.h.k, .int .i64 r.h.n, .string r.h.t, .slice p.a1 r.h.keys.length p.c1, .slice p.a2 r.sub.len p.c2, .slice p.ea r.es.length p.ec] 32 (0, 0)) ∧ DeRow 0 W.heap.size W a l ∧ RunRow 0 W.heap.size W p r ∧ Vars W ∧ Below w.heap.size w W) := fun W hW =>
    have hw := bV.trans (hW.mono bV.size)
    ⟨(hW.block _ z0).trans c0, (hW.block _ z1).trans c1, hd.up hw, hr.up hw, hv.up hw, hw⟩
  have ZA : Hid (A = w.heap.size ∧ A + 1 < V.heap.size) := ⟨hA, z1⟩
  have HDB : Hid _ := hdb
  have HRB : Hid _ := hrb
  have HD0 : Hid (DeRow 0 w.heap.size w a l) := hd
  have HR0 : Hid (RunRow 0 w.heap.size w p r) := hr
  have HV0 : Hid (Vars w) := hv
  clear hd hr hdb hrb hv c0 c1 bV z0 z1
  go_enter Tryz.func4, Tryz.ntmps4
  go_upto_region 1 with fail
  rw [← hV, ← hA]
  clear hV hA
  have x0 := fun o => row_cell (T.out _ (Below.refl _ _)).1 o
  go_wp2_with fail
  refine (sz_doc_w a c l 1048576 _ (T.out _ (Below.refl _ _)).2.2.1 HDB.out (by omega) (by omega)).mono ?_
  rintro e w1 ⟨m, rfl, hm, bq⟩
  have HM : Hid (Sz 1048576 m (DefsBd 1048576 l ∧ (G.cnt wtD l : Int) ≤ 1048576 - m)) := hm
  have hm1 := hm.1
  clear hm x0
  have bb : Below V.heap.size V w1 := bq
  have T2 : Hid (∀ W, Below w1.heap.size w1 W → W.heap[A]? = some (.cells #[.slice a l.length c] 24 (0, 0)) ∧ W.heap[A + 1]? = some (.cells #[.int .i64 r.need, .slice p.ra r.rs.length p.rc, .slice p.wa r.ws.length p.wc, .int .i64 r.h.k, .int .i64 r.h.n, .string r.h.t, .slice p.a1 r.h.keys.length p.c1, .slice p.a2 r.sub.len p.c2, .slice p.ea r.es.length p.ec] 32 (0, 0)) ∧ DeRow 0 W.heap.size W a l ∧ RunRow 0 W.heap.size W p r ∧ Vars W ∧ Below w.heap.size w W) := fun W hW => by
    have hq : Below V.heap.size V W := Below.trans bb (hW.mono (by have h1 := (bb).size; omega))
    have t := T.out W hq
    exact ⟨t.1, t.2.1, t.2.2.1, t.2.2.2.1, t.2.2.2.2.1, t.2.2.2.2.2⟩
  clear T
  have T := T2
  clear T2
  clear bq bb
  by_cases hneg : m < 0
  · have QB : Hid (Below w.heap.size w w1) := (T.out _ (Below.refl _ _)).2.2.2.2.2
    clear T
    go_wp2_with fail
    go_ret
    exact ⟨rfl, QB.out⟩
  have HE : Hid (DefsBd 1048576 l) := (HM.out.2.2 (by omega)).1
  have HC9 : Hid (((1 + G.cnt cDe l : Nat) : Int) ≤ 4611686018427387904) := by have h1 := (HM.out.2.2 (by omega)).2; have h2 := cnt_wt l; unfold Hid; omega
  have HC8 : Hid (((1 + G.cnt cDe l : Nat) : Int) ≤ 4294967296) := by have h1 := (HM.out.2.2 (by omega)).2; have h2 := cnt_wt l; unfold Hid; omega
  clear HM
  have x1 := fun o => row_cell (T.out _ (Below.refl _ _)).2.1 o
  go_wp2_with fail
  refine (sz_run r p m _ (T.out _ (Below.refl _ _)).2.2.2.1 HRB.out (by omega) (by omega)).mono ?_
  rintro e w2 ⟨m', rfl, hm, bq⟩
  have HM : Hid (Sz m m' (RnSm r)) := hm
  clear hm x1
  have bb : Below w1.heap.size w1 w2 := bq
  have T2 : Hid (∀ W, Below w2.heap.size w2 W → W.heap[A]? = some (.cells #[.slice a l.length c] 24 (0, 0)) ∧ W.heap[A + 1]? = some (.cells #[.int .i64 r.need, .slice p.ra r.rs.length p.rc, .slice p.wa r.ws.length p.wc, .int .i64 r.h.k, .int .i64 r.h.n, .string r.h.t, .slice p.a1 r.h.keys.length p.c1, .slice p.a2 r.sub.len p.c2, .slice p.ea r.es.length p.ec] 32 (0, 0)) ∧ DeRow 0 W.heap.size W a l ∧ RunRow 0 W.heap.size W p r ∧ Vars W ∧ Below w.heap.size w W) := fun W hW => by
    have hq : Below w1.heap.size w1 W := Below.trans bb (hW.mono (by have h1 := (bb).size; omega))
    have t := T.out W hq
    exact ⟨t.1, t.2.1, t.2.2.1, t.2.2.2.1, t.2.2.2.2.1, t.2.2.2.2.2⟩
  clear T
  have T := T2
  clear T2
  clear bq bb
  by_cases hneg' : m' < 0
  · have QB : Hid (Below w.heap.size w w2) := (T.out _ (Below.refl _ _)).2.2.2.2.2
    clear T
    go_wp2_with fail
    go_ret
    exact ⟨rfl, QB.out⟩
  have HS : Hid (RnSm r) := HM.out.2.2 (by omega)
  have HL : Hid ((wrOf l r).length ≤ 1048576) := wrOf_len l r HS.out.1.2.1
  clear HM hneg hm1
  obtain ⟨x, hx⟩ : ∃ x, x = wrOf l r := ⟨_, rfl⟩
  obtain ⟨y, hy⟩ : ∃ y, y = runC l r := ⟨_, rfl⟩
  rw [← hx] at HL
  have SQ : Hid (∀ (a2 : Option Addr) (d2 : Nat) (q : RnA) (W : World), DeRow 0 W.heap.size W a2 l → RunRow 0 W.heap.size W q r → r.h.keys.length ≤ q.c1 → Calls Tryz.prog 13 #[.agg #[.slice a2 l.length d2], .agg #[.int .i64 r.need, .slice q.ra r.rs.length q.rc, .slice q.wa r.ws.length q.wc, .int .i64 r.h.k, .int .i64 r.h.n, .string r.h.t, .slice q.a1 r.h.keys.length q.c1, .slice q.a2 r.sub.len q.c2, .slice q.ea r.es.length q.ec]] W fun e w' => SaysWS w' x y e ∧ Below W.heap.size W w') := fun a2 d2 q W h1 h2 h3 => by rw [hx, hy]; exact spec_writesOf a2 d2 l r q W h1 HE.out h2 h3 HS.out
  have IQ : Hid (∀ (a2 : Option Addr) (d2 : Nat) (q : RnA) (W : World), DeRow 0 W.heap.size W a2 l → RunRow 0 W.heap.size W q r → r.h.keys.length ≤ q.c1 → Vars W → Calls Tryz.prog 14 #[.agg #[.slice a2 l.length d2], .agg #[.int .i64 r.need, .slice q.ra r.rs.length q.rc, .slice q.wa r.ws.length q.wc, .int .i64 r.h.k, .int .i64 r.h.n, .string r.h.t, .slice q.a1 r.h.keys.length q.c1, .slice q.a2 r.sub.len q.c2, .slice q.ea r.es.length q.ec]] W fun e w' => SaysWI W.heap.size w' x y e ∧ Below W.heap.size W w') := fun a2 d2 q W h1 h2 h3 h4 => by rw [hx, hy]; exact impl_writesOf a2 d2 l r q W h1 HE.out h2 h3 HS.out h4
  clear hx hy
  go_wp2_with fail
  clear hneg'
  have x0 := fun o => row_cell (T.out _ (Below.refl _ _)).1 o
  have x1 := fun o => row_cell (T.out _ (Below.refl _ _)).2.1 o
  go_cut [6, 7] from 27 to 34 (fun u6 u7 wx => WIs w2 x y u6 u7 wx)
  case first =>
    go_region_with (first
      | (go_at_call 8
         refine Calls.mono (to_doc_o a c l _ (T.out _ (by repeat (first | exact Below.refl _ _ | refine Below.drew ?_))).2.2.1 HE.out) ?_
         rintro e y3 ⟨a3, d3, rfl, o3, b3⟩
         have y3z : Below w2.heap.size w2 y3 := Below.trans (Below.refl _ _).drew b3
         have Y3 : Hid (Below w2.heap.size w2 y3) := y3z
         have R3 : Hid (DeRow 0 y3.heap.size y3 a3 l) := DeRow.wide (DeOwn.row o3) (Nat.zero_le _) (Nat.le_refl _)
         have x3 := fun o => row_cell (T.out _ Y3.out).2.1 o
         clear o3 b3 y3z)
      | (go_at_call 9
         refine Calls.mono (to_run r p _ (T.out _ Y3.out).2.2.2.1 HS.out.1) ?_
         rintro e y4 ⟨q4, rfl, o4, b4⟩
         have Y4 : Hid (Below w2.heap.size w2 y4) := Y3.out.trans (b4.mono Y3.out.size)
         have R4 : Hid (DeRow 0 y4.heap.size y4 a3 l) := DeRow.up R3.out b4
         have P4 : Hid (RunRow 0 y4.heap.size y4 q4 r) := RunRow.wide o4.row (Nat.zero_le _) (Nat.le_refl _)
         clear o4 b4)
      | (go_at_call 13
         refine Calls.mono (SQ.out a3 d3 ⟨q4.ra, r.rs.length, q4.wa, r.ws.length, q4.a1, r.h.keys.length, q4.a2, r.sub.len, q4.ea, r.es.length⟩ _ R4.out P4.out (Nat.le_refl _)) ?_
         rintro e y5 ⟨⟨a5, c5, rfl, rq⟩, b5⟩
         have Y5 : Hid (Below w2.heap.size w2 y5) := Y4.out.trans (b5.mono Y4.out.size)
         have P5 : Hid (VeRow 0 y5.heap.size y5 a5 x) := rq
         clear rq b5))
    all_goals (try go_wp2_with fail)
    all_goals go_meet
    all_goals exact ⟨a5, c5, rfl, rfl, P5.out, Y5.out⟩
  clear x0 x1
  obtain ⟨wA, rfl⟩ : ∃ x, x = wc := ⟨_, rfl⟩
  obtain ⟨wa, wc9, rfl, rfl, hrow, bq⟩ := hcut
  have HW : Hid _ := hrow
  have T2 : Hid (∀ W, Below wA.heap.size wA W → W.heap[A]? = some (.cells #[.slice a l.length c] 24 (0, 0)) ∧ W.heap[A + 1]? = some (.cells #[.int .i64 r.need, .slice p.ra r.rs.length p.rc, .slice p.wa r.ws.length p.wc, .int .i64 r.h.k, .int .i64 r.h.n, .string r.h.t, .slice p.a1 r.h.keys.length p.c1, .slice p.a2 r.sub.len p.c2, .slice p.ea r.es.length p.ec] 32 (0, 0)) ∧ DeRow 0 W.heap.size W a l ∧ RunRow 0 W.heap.size W p r ∧ Vars W ∧ Below w.heap.size w W ∧ VeRow 0 wA.heap.size W wa x) := fun W hW => by
    have hq : Below w2.heap.size w2 W := Below.trans bq (hW.mono (by have h1 := (bq).size; omega))
    have t := T.out W hq
    exact ⟨t.1, t.2.1, t.2.2.1, t.2.2.2.1, t.2.2.2.2.1, t.2.2.2.2.2, VeRow.keep HW.out (fun g h1 h2 => hW.block g h2)⟩
  clear T
  have T := T2
  clear T2
  have lo3 : Hid (A + 1 < wA.heap.size) := by have h1 := ZA.out; have h2 := (T.out _ (Below.refl _ _)); have h3 := Array.getElem?_eq_some_iff.1 h2.2.1; exact h3.1
  clear hrow HW bq SQ
  have x0 := fun o => row_cell (T.out _ (Below.refl _ _)).1 o
  go_wp2_with fail
  refine (to_doc_o a c l _ (T.out _ (Below.refl _ _)).2.2.1 HE.out).mono ?_
  rintro e w3 ⟨a4, d4, rfl, oq, bq⟩
  have O3 : Hid (DeOwn wA.heap.size w3.heap.size w3 a4 l) := oq
  have Z3 : Hid (wA.heap.size ≤ w3.heap.size) := bq.size
  have zq := bq.size
  clear x0
  obtain ⟨vXD, hvXD⟩ : ∃ x : World, x = w3.alloc (.cells #[.slice a4 l.length d4] 39) := ⟨_, rfl⟩
  have bvXD : Below w3.heap.size w3 vXD := by rw [hvXD]; exact (Below.refl _ _).alloc (Nat.le_refl _) _
  have cvXD : vXD.heap[w3.heap.size]? = some (.cells #[.slice a4 l.length d4] 39 (0, 0)) := by rw [hvXD]; exact heap_alloc_new _ _
  have zvXD := (Array.getElem?_eq_some_iff.1 cvXD).1
  obtain ⟨XD, hXD⟩ : ∃ XD, XD = w3.heap.size := ⟨_, rfl⟩
  rw [← hXD] at cvXD zvXD
  have bb : Below wA.heap.size wA vXD := bq.trans (bvXD.mono zq)
  have T2 : Hid (∀ W, Below vXD.heap.size vXD W → W.heap[A]? = some (.cells #[.slice a l.length c] 24 (0, 0)) ∧ W.heap[A + 1]? = some (.cells #[.int .i64 r.need, .slice p.ra r.rs.length p.rc, .slice p.wa r.ws.length p.wc, .int .i64 r.h.k, .int .i64 r.h.n, .string r.h.t, .slice p.a1 r.h.keys.length p.c1, .slice p.a2 r.sub.len p.c2, .slice p.ea r.es.length p.ec] 32 (0, 0)) ∧ DeRow 0 W.heap.size W a l ∧ RunRow 0 W.heap.size W p r ∧ Vars W ∧ Below w.heap.size w W ∧ VeRow 0 wA.heap.size W wa x ∧ W.heap[XD]? = some (.cells #[.slice a4 l.length d4] 39 (0, 0)) ∧ DeOwn wA.heap.size w3.heap.size W a4 l) := fun W hW => by
    have hq : Below wA.heap.size wA W := Below.trans bb (hW.mono (by have h1 := (bb).size; omega))
    have t := T.out W hq
    exact ⟨t.1, t.2.1, t.2.2.1, t.2.2.2.1, t.2.2.2.2.1, t.2.2.2.2.2.1, t.2.2.2.2.2.2, (hW.block _ zvXD).trans cvXD, DeOwn.keep O3.out (fun g h1 h2 => ((bvXD).trans (hW.mono (bvXD).size)).block g h2)⟩
  clear T
  have T := T2
  clear T2
  have ZXD : Hid (XD = w3.heap.size ∧ XD < vXD.heap.size) := ⟨hXD, zvXD⟩
  go_upto_region 10 with fail
  rw [← hvXD, ← hXD]
  clear hvXD bvXD cvXD zvXD hXD bb bq zq
  clear O3 oq
  have x0 := fun o => row_cell (T.out _ (Below.refl _ _)).2.1 o
  go_wp2_with fail
  refine (to_run r p _ (T.out _ (Below.refl _ _)).2.2.2.1 HS.out.1).mono ?_
  rintro e w4 ⟨q, rfl, oq, bq⟩
  have O4 : Hid (RunOwn vXD.heap.size w4.heap.size w4 q r) := oq
  have ZB : Hid (vXD.heap.size ≤ w4.heap.size) := bq.size
  have zq := bq.size
  clear x0
  obtain ⟨vXR, hvXR⟩ : ∃ x : World, x = w4.alloc (.cells #[.int .i64 r.need, .slice q.ra r.rs.length r.rs.length, .slice q.wa r.ws.length r.ws.length, .int .i64 r.h.k, .int .i64 r.h.n, .string r.h.t, .slice q.a1 r.h.keys.length r.h.keys.length, .slice q.a2 r.sub.len r.sub.len, .slice q.ea r.es.length r.es.length] 46) := ⟨_, rfl⟩
  have bvXR : Below w4.heap.size w4 vXR := by rw [hvXR]; exact (Below.refl _ _).alloc (Nat.le_refl _) _
  have cvXR : vXR.heap[w4.heap.size]? = some (.cells #[.int .i64 r.need, .slice q.ra r.rs.length r.rs.length, .slice q.wa r.ws.length r.ws.length, .int .i64 r.h.k, .int .i64 r.h.n, .string r.h.t, .slice q.a1 r.h.keys.length r.h.keys.length, .slice q.a2 r.sub.len r.sub.len, .slice q.ea r.es.length r.es.length] 46 (0, 0)) := by rw [hvXR]; exact heap_alloc_new _ _
  have zvXR := (Array.getElem?_eq_some_iff.1 cvXR).1
  obtain ⟨XR, hXR⟩ : ∃ XR, XR = w4.heap.size := ⟨_, rfl⟩
  rw [← hXR] at cvXR zvXR
  have bb : Below vXD.heap.size vXD vXR := bq.trans (bvXR.mono zq)
  have T2 : Hid (∀ W, Below vXR.heap.size vXR W → W.heap[A]? = some (.cells #[.slice a l.length c] 24 (0, 0)) ∧ W.heap[A + 1]? = some (.cells #[.int .i64 r.need, .slice p.ra r.rs.length p.rc, .slice p.wa r.ws.length p.wc, .int .i64 r.h.k, .int .i64 r.h.n, .string r.h.t, .slice p.a1 r.h.keys.length p.c1, .slice p.a2 r.sub.len p.c2, .slice p.ea r.es.length p.ec] 32 (0, 0)) ∧ DeRow 0 W.heap.size W a l ∧ RunRow 0 W.heap.size W p r ∧ Vars W ∧ Below w.heap.size w W ∧ VeRow 0 wA.heap.size W wa x ∧ W.heap[XD]? = some (.cells #[.slice a4 l.length d4] 39 (0, 0)) ∧ DeOwn wA.heap.size w3.heap.size W a4 l ∧ W.heap[XR]? = some (.cells #[.int .i64 r.need, .slice q.ra r.rs.length r.rs.length, .slice q.wa r.ws.length r.ws.length, .int .i64 r.h.k, .int .i64 r.h.n, .string r.h.t, .slice q.a1 r.h.keys.length r.h.keys.length, .slice q.a2 r.sub.len r.sub.len, .slice q.ea r.es.length r.es.length] 46 (0, 0)) ∧ RunOwn vXD.heap.size w4.heap.size W q r) := fun W hW => by
    have hq : Below vXD.heap.size vXD W := Below.trans bb (hW.mono (by have h1 := (bb).size; omega))
    have t := T.out W hq
    exact ⟨t.1, t.2.1, t.2.2.1, t.2.2.2.1, t.2.2.2.2.1, t.2.2.2.2.2.1, t.2.2.2.2.2.2.1, t.2.2.2.2.2.2.2.1, t.2.2.2.2.2.2.2.2, (hW.block _ zvXR).trans cvXR, RunOwn.keep O4.out (fun g h1 h2 => ((bvXR).trans (hW.mono (bvXR).size)).block g h2)⟩
  clear T
  have T := T2
  clear T2
  have ZXR : Hid (XR = w4.heap.size ∧ XR < vXR.heap.size) := ⟨hXR, zvXR⟩
  go_upto_region 11 with fail
  rw [← hvXR, ← hXR]
  clear hvXR bvXR cvXR zvXR hXR bb bq zq
  clear O4 oq
  have x0 := fun o => row_cell (T.out _ (Below.refl _ _)).2.2.2.2.2.2.2.1 o
  have x1 := fun o => row_cell (T.out _ (Below.refl _ _)).2.2.2.2.2.2.2.2.2.1 o
  have DR : Hid (DeRow 0 vXR.heap.size vXR a4 l) := DeRow.wide (DeOwn.row (T.out _ (Below.refl _ _)).2.2.2.2.2.2.2.2.1) (Nat.zero_le _) (by have h1 := ZXR.out; have h2 := ZXD.out; have h3 := ZB.out; omega)
  have RR : Hid (RunRow 0 vXR.heap.size vXR q r) := RunRow.wide (T.out _ (Below.refl _ _)).2.2.2.2.2.2.2.2.2.2.row (Nat.zero_le _) (by have h1 := ZXR.out; omega)
  go_wp2_with fail
  refine (IQ.out a4 d4 ⟨q.ra, r.rs.length, q.wa, r.ws.length, q.a1, r.h.keys.length, q.a2, r.sub.len, q.ea, r.es.length⟩ _ DR.out RR.out (Nat.le_refl _) (T.out _ (Below.refl _ _)).2.2.2.2.1).mono ?_
  rintro e w5 ⟨⟨ga, gc, rfl, og⟩, bq⟩
  have O5 : Hid (RwOwn vXR.heap.size w5.heap.size w5 ga x) := og
  have ZC : Hid (vXR.heap.size ≤ w5.heap.size) := bq.size
  clear og x0 x1 DR RR
  have bb : Below vXR.heap.size vXR w5 := bq
  have T2 : Hid (∀ W, Below w5.heap.size w5 W → W.heap[A]? = some (.cells #[.slice a l.length c] 24 (0, 0)) ∧ W.heap[A + 1]? = some (.cells #[.int .i64 r.need, .slice p.ra r.rs.length p.rc, .slice p.wa r.ws.length p.wc, .int .i64 r.h.k, .int .i64 r.h.n, .string r.h.t, .slice p.a1 r.h.keys.length p.c1, .slice p.a2 r.sub.len p.c2, .slice p.ea r.es.length p.ec] 32 (0, 0)) ∧ DeRow 0 W.heap.size W a l ∧ RunRow 0 W.heap.size W p r ∧ Vars W ∧ Below w.heap.size w W ∧ VeRow 0 wA.heap.size W wa x ∧ W.heap[XD]? = some (.cells #[.slice a4 l.length d4] 39 (0, 0)) ∧ DeOwn wA.heap.size w3.heap.size W a4 l ∧ W.heap[XR]? = some (.cells #[.int .i64 r.need, .slice q.ra r.rs.length r.rs.length, .slice q.wa r.ws.length r.ws.length, .int .i64 r.h.k, .int .i64 r.h.n, .string r.h.t, .slice q.a1 r.h.keys.length r.h.keys.length, .slice q.a2 r.sub.len r.sub.len, .slice q.ea r.es.length r.es.length] 46 (0, 0)) ∧ RunOwn vXD.heap.size w4.heap.size W q r ∧ RwOwn vXR.heap.size w5.heap.size W ga x) := fun W hW => by
    have hq : Below vXR.heap.size vXR W := Below.trans bb (hW.mono (by have h1 := (bb).size; omega))
    have t := T.out W hq
    exact ⟨t.1, t.2.1, t.2.2.1, t.2.2.2.1, t.2.2.2.2.1, t.2.2.2.2.2.1, t.2.2.2.2.2.2.1, t.2.2.2.2.2.2.2.1, t.2.2.2.2.2.2.2.2.1, t.2.2.2.2.2.2.2.2.2.1, t.2.2.2.2.2.2.2.2.2.2, RwOwn.keep O5.out (fun g h1 h2 => hW.block g h2)⟩
  clear T
  have T := T2
  clear T2
  clear bq bb O5
  have GR : Hid (VeRow 0 w5.heap.size w5 ga x) := VeRow.wide (RwOwn.row (T.out _ (Below.refl _ _)).2.2.2.2.2.2.2.2.2.2.2) (Nat.zero_le _) (Nat.le_refl _)
  have W5R : Hid (VeRow 0 w5.heap.size w5 wa x) := VeRow.wide (T.out _ (Below.refl _ _)).2.2.2.2.2.2.1 (Nat.le_refl _) (by have h1 := ZXR.out; have h2 := ZXD.out; have h3 := ZB.out; have h4 := ZC.out; have h5 := Z3.out; omega)
  go_wp2_with fail
  refine (eq_Pus ga wa gc wc9 x _ GR.out W5R.out HL.out).mono ?_
  rintro e w6 ⟨rfl, bq⟩
  have Z6 : Hid (w5.heap.size ≤ w6.heap.size) := bq.size
  have zq := bq.size
  have bb : Below w5.heap.size w5 w6 := bq
  have T2 : Hid (∀ W, Below w6.heap.size w6 W → W.heap[A]? = some (.cells #[.slice a l.length c] 24 (0, 0)) ∧ W.heap[A + 1]? = some (.cells #[.int .i64 r.need, .slice p.ra r.rs.length p.rc, .slice p.wa r.ws.length p.wc, .int .i64 r.h.k, .int .i64 r.h.n, .string r.h.t, .slice p.a1 r.h.keys.length p.c1, .slice p.a2 r.sub.len p.c2, .slice p.ea r.es.length p.ec] 32 (0, 0)) ∧ DeRow 0 W.heap.size W a l ∧ RunRow 0 W.heap.size W p r ∧ Vars W ∧ Below w.heap.size w W ∧ VeRow 0 wA.heap.size W wa x ∧ W.heap[XD]? = some (.cells #[.slice a4 l.length d4] 39 (0, 0)) ∧ DeOwn wA.heap.size w3.heap.size W a4 l ∧ W.heap[XR]? = some (.cells #[.int .i64 r.need, .slice q.ra r.rs.length r.rs.length, .slice q.wa r.ws.length r.ws.length, .int .i64 r.h.k, .int .i64 r.h.n, .string r.h.t, .slice q.a1 r.h.keys.length r.h.keys.length, .slice q.a2 r.sub.len r.sub.len, .slice q.ea r.es.length r.es.length] 46 (0, 0)) ∧ RunOwn vXD.heap.size w4.heap.size W q r ∧ RwOwn vXR.heap.size w5.heap.size W ga x) := fun W hW => by
    have hq : Below w5.heap.size w5 W := Below.trans bb (hW.mono (by have h1 := (bb).size; omega))
    have t := T.out W hq
    exact ⟨t.1, t.2.1, t.2.2.1, t.2.2.2.1, t.2.2.2.2.1, t.2.2.2.2.2.1, t.2.2.2.2.2.2.1, t.2.2.2.2.2.2.2.1, t.2.2.2.2.2.2.2.2.1, t.2.2.2.2.2.2.2.2.2.1, t.2.2.2.2.2.2.2.2.2.2.1, t.2.2.2.2.2.2.2.2.2.2.2⟩
  clear T
  have T := T2
  clear T2
  clear bq bb zq
  clear W5R
  clear GR
  have x0 := fun o => row_cell (T.out _ (Below.refl _ _)).2.2.2.2.2.2.2.1 o
  have x1 := fun o => row_cell (T.out _ (Below.refl _ _)).1 o
  have ZD6 : Hid (w3.heap.size ≤ w6.heap.size ∧ vXD.heap.size ≤ w6.heap.size ∧ vXR.heap.size ≤ w6.heap.size ∧ w4.heap.size ≤ w6.heap.size ∧ w5.heap.size ≤ w6.heap.size) := by
    have h1 := ZXR.out; have h2 := ZXD.out; have h3 := ZB.out; have h4 := ZC.out
    have h5 : w5.heap.size ≤ w6.heap.size := Z6.out
    unfold Hid; omega
  go_wp2_with fail
  go_cut [58] from 54 to 58 (fun u wx => u = .bool false ∧ Hid (Below w6.heap.size w6 wx))
  case first =>
    go_region_with (first
      | (go_at_call 8
         refine Calls.mono (to_doc_o a c l _ (T.out _ (by repeat (first | exact Below.refl _ _ | refine Below.drew ?_))).2.2.1 HE.out) ?_
         rintro e y3 ⟨a3, d3, rfl, o3, b3⟩
         have Y3 : Hid (Below w6.heap.size w6 y3) := Below.trans (Below.refl _ _).drew b3
         have R3 : Hid (DeRow 0 y3.heap.size y3 a3 l) := DeRow.wide (DeOwn.row o3) (Nat.zero_le _) (Nat.le_refl _)
         have R9 : Hid (DeRow 0 y3.heap.size y3 a4 l) := DeRow.wide (DeOwn.row (T.out _ Y3.out).2.2.2.2.2.2.2.2.1) (Nat.zero_le _) (by have h1 := ZD6.out; have h2 := Y3.out.size; omega)
         have x3 := fun o => row_cell (T.out _ Y3.out).2.2.2.2.2.2.2.1 o
         clear o3 b3)
      | (go_at_call 11
         refine Calls.mono (eq_doc a4 a3 d4 d3 l _ R9.out R3.out HE.out) ?_
         rintro e y4 ⟨rfl, b4⟩
         have Y4 : Hid (Below w6.heap.size w6 y4) := Y3.out.trans (b4.mono Y3.out.size)
         clear b4))
    all_goals (try go_wp2_with fail)
    all_goals go_meet
    all_goals exact ⟨rfl, Y4⟩
  clear x0 x1
  obtain ⟨w7, rfl⟩ : ∃ x, x = wc := ⟨_, rfl⟩
  obtain ⟨rfl, BQ⟩ := hcut
  have bq := BQ.out
  have T2 : Hid (∀ W, Below w7.heap.size w7 W → W.heap[A]? = some (.cells #[.slice a l.length c] 24 (0, 0)) ∧ W.heap[A + 1]? = some (.cells #[.int .i64 r.need, .slice p.ra r.rs.length p.rc, .slice p.wa r.ws.length p.wc, .int .i64 r.h.k, .int .i64 r.h.n, .string r.h.t, .slice p.a1 r.h.keys.length p.c1, .slice p.a2 r.sub.len p.c2, .slice p.ea r.es.length p.ec] 32 (0, 0)) ∧ DeRow 0 W.heap.size W a l ∧ RunRow 0 W.heap.size W p r ∧ Vars W ∧ Below w.heap.size w W ∧ VeRow 0 wA.heap.size W wa x ∧ W.heap[XD]? = some (.cells #[.slice a4 l.length d4] 39 (0, 0)) ∧ DeOwn wA.heap.size w3.heap.size W a4 l ∧ W.heap[XR]? = some (.cells #[.int .i64 r.need, .slice q.ra r.rs.length r.rs.length, .slice q.wa r.ws.length r.ws.length, .int .i64 r.h.k, .int .i64 r.h.n, .string r.h.t, .slice q.a1 r.h.keys.length r.h.keys.length, .slice q.a2 r.sub.len r.sub.len, .slice q.ea r.es.length r.es.length] 46 (0, 0)) ∧ RunOwn vXD.heap.size w4.heap.size W q r ∧ RwOwn vXR.heap.size w5.heap.size W ga x) := fun W hW => by
    have hq : Below w6.heap.size w6 W := Below.trans bq (hW.mono (by have h1 := (bq).size; omega))
    have t := T.out W hq
    exact ⟨t.1, t.2.1, t.2.2.1, t.2.2.2.1, t.2.2.2.2.1, t.2.2.2.2.2.1, t.2.2.2.2.2.2.1, t.2.2.2.2.2.2.2.1, t.2.2.2.2.2.2.2.2.1, t.2.2.2.2.2.2.2.2.2.1, t.2.2.2.2.2.2.2.2.2.2.1, t.2.2.2.2.2.2.2.2.2.2.2⟩
  clear T
  have T := T2
  clear T2
  have Z7 : Hid (w6.heap.size ≤ w7.heap.size) := BQ.out.size
  clear bq BQ
  have x0 := fun o => row_cell (T.out _ (Below.refl _ _)).2.2.2.2.2.2.2.2.2.1 o
  have x1 := fun o => row_cell (T.out _ (Below.refl _ _)).2.1 o
  go_wp2_with fail
  go_cut [63] from 59 to 63 (fun u wx => u = .bool false ∧ Hid (Below w7.heap.size w7 wx))
  case first =>
    go_region_with (first
      | (go_at_call 9
         refine Calls.mono (to_run r p _ (T.out _ (by repeat (first | exact Below.refl _ _ | refine Below.drew ?_))).2.2.2.1 HS.out.1) ?_
         rintro e y3 ⟨q3, rfl, o3, b3⟩
         have Y3 : Hid (Below w7.heap.size w7 y3) := Below.trans (Below.refl _ _).drew b3
         have R3 : Hid (RunRow 0 y3.heap.size y3 q3 r) := RunRow.wide o3.row (Nat.zero_le _) (Nat.le_refl _)
         have R9 : Hid (RunRow 0 y3.heap.size y3 q r) := RunRow.wide (T.out _ Y3.out).2.2.2.2.2.2.2.2.2.2.1.row (Nat.zero_le _) (by have h1 := ZD6.out; have h3 := Z7.out; have h2 := Y3.out.size; omega)
         have x3 := fun o => row_cell (T.out _ Y3.out).2.2.2.2.2.2.2.2.2.1 o
         clear o3 b3)
      | (go_at_call 12
         refine Calls.mono (eq_run r ⟨q.ra, r.rs.length, q.wa, r.ws.length, q.a1, r.h.keys.length, q.a2, r.sub.len, q.ea, r.es.length⟩ ⟨q3.ra, r.rs.length, q3.wa, r.ws.length, q3.a1, r.h.keys.length, q3.a2, r.sub.len, q3.ea, r.es.length⟩ _ R9.out R3.out HS.out.1) ?_
         rintro e y4 ⟨rfl, b4⟩
         have Y4 : Hid (Below w7.heap.size w7 y4) := Y3.out.trans (b4.mono Y3.out.size)
         clear b4))
    all_goals (try go_wp2_with fail)
    all_goals go_meet
    all_goals exact ⟨rfl, Y4⟩
  clear x0 x1
  obtain ⟨w8, rfl⟩ : ∃ x, x = wc := ⟨_, rfl⟩
  obtain ⟨rfl, BQ⟩ := hcut
  have bq := BQ.out
  have T2 : Hid (∀ W, Below w8.heap.size w8 W → W.heap[A]? = some (.cells #[.slice a l.length c] 24 (0, 0)) ∧ W.heap[A + 1]? = some (.cells #[.int .i64 r.need, .slice p.ra r.rs.length p.rc, .slice p.wa r.ws.length p.wc, .int .i64 r.h.k, .int .i64 r.h.n, .string r.h.t, .slice p.a1 r.h.keys.length p.c1, .slice p.a2 r.sub.len p.c2, .slice p.ea r.es.length p.ec] 32 (0, 0)) ∧ DeRow 0 W.heap.size W a l ∧ RunRow 0 W.heap.size W p r ∧ Vars W ∧ Below w.heap.size w W ∧ VeRow 0 wA.heap.size W wa x ∧ W.heap[XD]? = some (.cells #[.slice a4 l.length d4] 39 (0, 0)) ∧ DeOwn wA.heap.size w3.heap.size W a4 l ∧ W.heap[XR]? = some (.cells #[.int .i64 r.need, .slice q.ra r.rs.length r.rs.length, .slice q.wa r.ws.length r.ws.length, .int .i64 r.h.k, .int .i64 r.h.n, .string r.h.t, .slice q.a1 r.h.keys.length r.h.keys.length, .slice q.a2 r.sub.len r.sub.len, .slice q.ea r.es.length r.es.length] 46 (0, 0)) ∧ RunOwn vXD.heap.size w4.heap.size W q r ∧ RwOwn vXR.heap.size w5.heap.size W ga x) := fun W hW => by
    have hq : Below w7.heap.size w7 W := Below.trans bq (hW.mono (by have h1 := (bq).size; omega))
    have t := T.out W hq
    exact ⟨t.1, t.2.1, t.2.2.1, t.2.2.2.1, t.2.2.2.2.1, t.2.2.2.2.2.1, t.2.2.2.2.2.2.1, t.2.2.2.2.2.2.2.1, t.2.2.2.2.2.2.2.2.1, t.2.2.2.2.2.2.2.2.2.1, t.2.2.2.2.2.2.2.2.2.2.1, t.2.2.2.2.2.2.2.2.2.2.2⟩
  clear T
  have T := T2
  clear T2
  have Z8 : Hid (w7.heap.size ≤ w8.heap.size) := BQ.out.size
  clear bq BQ
  have x0 := fun o => row_cell (T.out _ (Below.refl _ _)).2.2.2.2.2.2.2.1 o
  have ZZ : Hid (A + 1 < wA.heap.size ∧ wA.heap.size ≤ w3.heap.size ∧ XD = w3.heap.size ∧ XD < vXD.heap.size ∧ vXD.heap.size ≤ w4.heap.size ∧ XR = w4.heap.size ∧ XR < vXR.heap.size ∧ vXR.heap.size ≤ w5.heap.size ∧ w5.heap.size ≤ w8.heap.size ∧ A = w.heap.size) := by
    have h1 := lo3.out; have h2 := Z3.out; have h3 := ZXD.out; have h4 := ZB.out; have h5 := ZXR.out; have h6 := ZC.out; have h7 := ZD6.out; have h8 := Z7.out; have h9 := Z8.out; have h10 := ZA.out
    unfold Hid; omega
  go_wp2_with fail
  refine (mark_doc a4 d4 l wA.heap.size w3.heap.size 1 _ (T.out _ (Below.refl _ _)).2.2.2.2.2.2.2.2.1 (by have := ZZ.out; omega) (by omega) HC9.out).mono ?_
  rintro e w9 ⟨k1, rfl, hk1, kq⟩
  have HK1 : Hid _ := hk1
  clear hk1
  have k9 : KeptR wA.heap.size w3.heap.size w8 w9 := ⟨kq.os, kq.tape, kq.output, kq.size, kq.block⟩
  have K9 : Hid _ := k9
  have ZK9 : Hid (w8.heap.size ≤ w9.heap.size) := k9.size
  clear kq x0
  have T2 : Hid (∀ W, Below w9.heap.size w9 W → W.heap[A]? = some (.cells #[.slice a l.length c] 24 (0, 0)) ∧ W.heap[A + 1]? = some (.cells #[.int .i64 r.need, .slice p.ra r.rs.length p.rc, .slice p.wa r.ws.length p.wc, .int .i64 r.h.k, .int .i64 r.h.n, .string r.h.t, .slice p.a1 r.h.keys.length p.c1, .slice p.a2 r.sub.len p.c2, .slice p.ea r.es.length p.ec] 32 (0, 0)) ∧ DeRow 0 W.heap.size W a l ∧ RunRow 0 W.heap.size W p r ∧ Vars W ∧ Below w.heap.size w W ∧ VeRow 0 wA.heap.size W wa x ∧ W.heap[XR]? = some (.cells #[.int .i64 r.need, .slice q.ra r.rs.length r.rs.length, .slice q.wa r.ws.length r.ws.length, .int .i64 r.h.k, .int .i64 r.h.n, .string r.h.t, .slice q.a1 r.h.keys.length r.h.keys.length, .slice q.a2 r.sub.len r.sub.len, .slice q.ea r.es.length r.es.length] 46 (0, 0)) ∧ RunOwn vXD.heap.size w4.heap.size W q r ∧ RwOwn vXR.heap.size w5.heap.size W ga x) := fun W hW => by
    have blkK : ∀ g, g < w8.heap.size → (g < wA.heap.size ∨ w3.heap.size ≤ g) → W.heap[g]? = w8.heap[g]? := fun g h1 h2 => (hW.block g (Nat.lt_of_lt_of_le h1 K9.out.size)).trans (K9.out.block g h1 h2)
    have bwo : Below w.heap.size w w8 := (T.out _ (Below.refl _ _)).2.2.2.2.2.1
    have bwn : Below w.heap.size w W := ⟨(hW.os.trans K9.out.os).trans bwo.os, (hW.tape.trans K9.out.tape).trans bwo.tape, (hW.output.trans K9.out.output).trans bwo.output, Nat.le_trans bwo.size (Nat.le_trans K9.out.size hW.size), fun g hg => (blkK g (Nat.lt_of_lt_of_le hg bwo.size) (by have := ZZ.out; omega)).trans (bwo.block g hg)⟩
    exact ⟨(blkK A (by have := ZZ.out;  omega) (by have := ZZ.out;  omega)).trans (T.out _ (Below.refl _ _)).1, (blkK (A + 1) (by have := ZZ.out;  omega) (by have := ZZ.out;  omega)).trans (T.out _ (Below.refl _ _)).2.1, DeRow.up HD0.out bwn, RunRow.up HR0.out bwn, Vars.up HV0.out bwn, bwn, VeRow.keep (T.out _ (Below.refl _ _)).2.2.2.2.2.2.1 (fun g h1 h2 => blkK g (by have := ZZ.out;  omega) (by have := ZZ.out;  omega)), (blkK XR (by have := ZZ.out;  omega) (by have := ZZ.out;  omega)).trans (T.out _ (Below.refl _ _)).2.2.2.2.2.2.2.2.2.1, RunOwn.keep (T.out _ (Below.refl _ _)).2.2.2.2.2.2.2.2.2.2.1 (fun g h1 h2 => blkK g (by have := ZZ.out;  omega) (by have := ZZ.out;  omega)), RwOwn.keep (T.out _ (Below.refl _ _)).2.2.2.2.2.2.2.2.2.2.2 (fun g h1 h2 => blkK g (by have := ZZ.out;  omega) (by have := ZZ.out;  omega))⟩
  clear T
  have T := T2
  clear T2
  clear K9 k9
  have Z9 : Hid (w8.heap.size ≤ w9.heap.size) := ZK9.out
  have x0 := fun o => row_cell (T.out _ (Below.refl _ _)).2.2.2.2.2.2.2.1 o
  go_wp2_with fail
  refine (mark_run r ⟨q.ra, r.rs.length, q.wa, r.ws.length, q.a1, r.h.keys.length, q.a2, r.sub.len, q.ea, r.es.length⟩ vXD.heap.size w4.heap.size k1 _ (T.out _ (Below.refl _ _)).2.2.2.2.2.2.2.2.1 (by have := ZZ.out; have := Z9.out; omega) HS.out (by have := HK1.out; omega) (by have := HK1.out; have := HC8.out; omega)).mono ?_
  rintro e w10 ⟨k2, rfl, hk2, kq⟩
  have K10 : Hid (KeptR vXD.heap.size w4.heap.size w9 w10) := kq
  have ZK10 : Hid (w9.heap.size ≤ w10.heap.size) := kq.size
  clear kq x0
  have T2 : Hid (∀ W, Below w10.heap.size w10 W → W.heap[A]? = some (.cells #[.slice a l.length c] 24 (0, 0)) ∧ W.heap[A + 1]? = some (.cells #[.int .i64 r.need, .slice p.ra r.rs.length p.rc, .slice p.wa r.ws.length p.wc, .int .i64 r.h.k, .int .i64 r.h.n, .string r.h.t, .slice p.a1 r.h.keys.length p.c1, .slice p.a2 r.sub.len p.c2, .slice p.ea r.es.length p.ec] 32 (0, 0)) ∧ DeRow 0 W.heap.size W a l ∧ RunRow 0 W.heap.size W p r ∧ Vars W ∧ Below w.heap.size w W ∧ VeRow 0 wA.heap.size W wa x ∧ RwOwn vXR.heap.size w5.heap.size W ga x) := fun W hW => by
    have blkK : ∀ g, g < w9.heap.size → (g < vXD.heap.size ∨ w4.heap.size ≤ g) → W.heap[g]? = w9.heap[g]? := fun g h1 h2 => (hW.block g (Nat.lt_of_lt_of_le h1 K10.out.size)).trans (K10.out.block g h1 h2)
    have bwo : Below w.heap.size w w9 := (T.out _ (Below.refl _ _)).2.2.2.2.2.1
    have bwn : Below w.heap.size w W := ⟨(hW.os.trans K10.out.os).trans bwo.os, (hW.tape.trans K10.out.tape).trans bwo.tape, (hW.output.trans K10.out.output).trans bwo.output, Nat.le_trans bwo.size (Nat.le_trans K10.out.size hW.size), fun g hg => (blkK g (Nat.lt_of_lt_of_le hg bwo.size) (by have := ZZ.out; omega)).trans (bwo.block g hg)⟩
    exact ⟨(blkK A (by have := ZZ.out; have := Z9.out; omega) (by have := ZZ.out; have := Z9.out; omega)).trans (T.out _ (Below.refl _ _)).1, (blkK (A + 1) (by have := ZZ.out; have := Z9.out; omega) (by have := ZZ.out; have := Z9.out; omega)).trans (T.out _ (Below.refl _ _)).2.1, DeRow.up HD0.out bwn, RunRow.up HR0.out bwn, Vars.up HV0.out bwn, bwn, VeRow.keep (T.out _ (Below.refl _ _)).2.2.2.2.2.2.1 (fun g h1 h2 => blkK g (by have := ZZ.out; have := Z9.out; omega) (by have := ZZ.out; have := Z9.out; omega)), RwOwn.keep (T.out _ (Below.refl _ _)).2.2.2.2.2.2.2.2.2 (fun g h1 h2 => blkK g (by have := ZZ.out; have := Z9.out; omega) (by have := ZZ.out; have := Z9.out; omega))⟩
  clear T
  have T := T2
  clear T2
  clear K10
  have GR : Hid (VeRow 0 w10.heap.size w10 ga x) := VeRow.wide (RwOwn.row (T.out _ (Below.refl _ _)).2.2.2.2.2.2.2) (Nat.zero_le _) (by have := ZZ.out; have := Z9.out; have := ZK10.out; omega)
  have hk2' : ¬ k2 < 0 := by omega
  have W5R : Hid (VeRow 0 w10.heap.size w10 wa x) := VeRow.wide (T.out _ (Below.refl _ _)).2.2.2.2.2.2.1 (Nat.le_refl _) (by have := ZZ.out; have := Z9.out; have := ZK10.out; omega)
  go_wp2_with fail
  refine (eq_Pus ga wa gc wc9 x _ GR.out W5R.out HL.out).mono ?_
  rintro e w11 ⟨rfl, bq⟩
  have Z11 : Hid (w10.heap.size ≤ w11.heap.size) := bq.size
  have zq := bq.size
  have bb : Below w10.heap.size w10 w11 := bq
  have T2 : Hid (∀ W, Below w11.heap.size w11 W → W.heap[A]? = some (.cells #[.slice a l.length c] 24 (0, 0)) ∧ W.heap[A + 1]? = some (.cells #[.int .i64 r.need, .slice p.ra r.rs.length p.rc, .slice p.wa r.ws.length p.wc, .int .i64 r.h.k, .int .i64 r.h.n, .string r.h.t, .slice p.a1 r.h.keys.length p.c1, .slice p.a2 r.sub.len p.c2, .slice p.ea r.es.length p.ec] 32 (0, 0)) ∧ DeRow 0 W.heap.size W a l ∧ RunRow 0 W.heap.size W p r ∧ Vars W ∧ Below w.heap.size w W ∧ VeRow 0 wA.heap.size W wa x ∧ RwOwn vXR.heap.size w5.heap.size W ga x) := fun W hW => by
    have hq : Below w10.heap.size w10 W := Below.trans bb (hW.mono (by have h1 := (bb).size; omega))
    have t := T.out W hq
    exact ⟨t.1, t.2.1, t.2.2.1, t.2.2.2.1, t.2.2.2.2.1, t.2.2.2.2.2.1, t.2.2.2.2.2.2.1, t.2.2.2.2.2.2.2⟩
  clear T
  have T := T2
  clear T2
  clear bq bb zq
  clear W5R
  clear GR
  have ZK11 : Hid (w8.heap.size ≤ w11.heap.size) := by have := Z9.out; have := ZK10.out; have := Z11.out; unfold Hid; omega
  go_wp2_with fail
  refine (mark_wr ga gc x vXR.heap.size w5.heap.size _ (T.out _ (Below.refl _ _)).2.2.2.2.2.2.2 HL.out).mono ?_
  rintro e w12 ⟨m1, rfl, hm1, hmk, kq⟩
  have K12 : Hid (KeptR vXR.heap.size w5.heap.size w11 w12) := kq
  have ZK12 : Hid (w11.heap.size ≤ w12.heap.size) := kq.size
  have MK : Hid (RwMk vXR.heap.size w5.heap.size w12 ga x.length 1) := hmk
  have HM1 : Hid (m1 = 1 + 2 * x.length) := hm1
  clear kq hmk hm1
  have T2 : Hid (∀ W, Below w12.heap.size w12 W → W.heap[A]? = some (.cells #[.slice a l.length c] 24 (0, 0)) ∧ W.heap[A + 1]? = some (.cells #[.int .i64 r.need, .slice p.ra r.rs.length p.rc, .slice p.wa r.ws.length p.wc, .int .i64 r.h.k, .int .i64 r.h.n, .string r.h.t, .slice p.a1 r.h.keys.length p.c1, .slice p.a2 r.sub.len p.c2, .slice p.ea r.es.length p.ec] 32 (0, 0)) ∧ DeRow 0 W.heap.size W a l ∧ RunRow 0 W.heap.size W p r ∧ Vars W ∧ Below w.heap.size w W ∧ VeRow 0 wA.heap.size W wa x ∧ RwMk vXR.heap.size w5.heap.size W ga x.length 1) := fun W hW => by
    have blkK : ∀ g, g < w11.heap.size → (g < vXR.heap.size ∨ w5.heap.size ≤ g) → W.heap[g]? = w11.heap[g]? := fun g h1 h2 => (hW.block g (Nat.lt_of_lt_of_le h1 K12.out.size)).trans (K12.out.block g h1 h2)
    have bwo : Below w.heap.size w w11 := (T.out _ (Below.refl _ _)).2.2.2.2.2.1
    have bwn : Below w.heap.size w W := ⟨(hW.os.trans K12.out.os).trans bwo.os, (hW.tape.trans K12.out.tape).trans bwo.tape, (hW.output.trans K12.out.output).trans bwo.output, Nat.le_trans bwo.size (Nat.le_trans K12.out.size hW.size), fun g hg => (blkK g (Nat.lt_of_lt_of_le hg bwo.size) (by have := ZZ.out; omega)).trans (bwo.block g hg)⟩
    exact ⟨(blkK A (by have := ZZ.out; have := ZK11.out; omega) (by have := ZZ.out; have := ZK11.out; omega)).trans (T.out _ (Below.refl _ _)).1, (blkK (A + 1) (by have := ZZ.out; have := ZK11.out; omega) (by have := ZZ.out; have := ZK11.out; omega)).trans (T.out _ (Below.refl _ _)).2.1, DeRow.up HD0.out bwn, RunRow.up HR0.out bwn, Vars.up HV0.out bwn, bwn, VeRow.keep (T.out _ (Below.refl _ _)).2.2.2.2.2.2.1 (fun g h1 h2 => blkK g (by have := ZZ.out; have := ZK11.out; omega) (by have := ZZ.out; have := ZK11.out; omega)), RwMk.keep MK.out (fun g h1 h2 => hW.block g (by have := ZZ.out; have := ZK11.out; have := ZK11.out; have := ZK12.out; omega))⟩
  clear T
  have T := T2
  clear T2
  clear K12 MK
  go_wp2_with fail
  refine (held_wr ga gc x.length _ _ _ (T.out _ (Below.refl _ _)).2.2.2.2.2.2.2 HL.out).mono ?_
  rintro e w13 ⟨m2, rfl, hm2, hw13⟩
  have hw13' := hw13.symm
  subst hw13'
  clear hw13
  have hm12 : m2 = m1 := by rw [hm2, HM1.out]
  have hm2p : ¬ m2 < 0 := by rw [hm2]; omega
  subst hm12
  clear hm2
  go_wp2_with fail
  have x0 := fun o => row_cell (T.out _ (Below.refl _ _)).1 o
  have x1 := fun o => row_cell (T.out _ (Below.refl _ _)).2.1 o
  go_cut [15, 16] from 94 to 101 (fun u6 u7 wx => WIs w12 x y u6 u7 wx)
  case first =>
    go_region_with (first
      | (go_at_call 8
         refine Calls.mono (to_doc_o a c l _ (T.out _ (by repeat (first | exact Below.refl _ _ | refine Below.drew ?_))).2.2.1 HE.out) ?_
         rintro e y3 ⟨a3, d3, rfl, o3, b3⟩
         have y3z : Below w12.heap.size w12 y3 := Below.trans (Below.refl _ _).drew b3
         have Y3 : Hid (Below w12.heap.size w12 y3) := y3z
         have R3 : Hid (DeRow 0 y3.heap.size y3 a3 l) := DeRow.wide (DeOwn.row o3) (Nat.zero_le _) (Nat.le_refl _)
         have x3 := fun o => row_cell (T.out _ Y3.out).2.1 o
         clear o3 b3 y3z)
      | (go_at_call 9
         refine Calls.mono (to_run r p _ (T.out _ Y3.out).2.2.2.1 HS.out.1) ?_
         rintro e y4 ⟨q4, rfl, o4, b4⟩
         have Y4 : Hid (Below w12.heap.size w12 y4) := Y3.out.trans (b4.mono Y3.out.size)
         have R4 : Hid (DeRow 0 y4.heap.size y4 a3 l) := DeRow.up R3.out b4
         have P4 : Hid (RunRow 0 y4.heap.size y4 q4 r) := RunRow.wide o4.row (Nat.zero_le _) (Nat.le_refl _)
         clear o4 b4)
      | (go_at_call 14
         refine Calls.mono (IQ.out a3 d3 ⟨q4.ra, r.rs.length, q4.wa, r.ws.length, q4.a1, r.h.keys.length, q4.a2, r.sub.len, q4.ea, r.es.length⟩ _ R4.out P4.out (Nat.le_refl _) (T.out _ Y4.out).2.2.2.2.1) ?_
         rintro e y5 ⟨⟨a5, c5, rfl, rq⟩, b5⟩
         have Y5 : Hid (Below w12.heap.size w12 y5) := Y4.out.trans (b5.mono Y4.out.size)
         have P5 : Hid (VeRow 0 y5.heap.size y5 a5 x) := VeRow.wide rq.row (Nat.zero_le _) (Nat.le_refl _)
         clear rq b5))
    all_goals (try go_wp2_with fail)
    all_goals go_meet
    all_goals exact ⟨a5, c5, rfl, rfl, P5.out, Y5.out⟩
  clear x0 x1
  obtain ⟨w14, rfl⟩ : ∃ x, x = wc := ⟨_, rfl⟩
  obtain ⟨ha, hc9, rfl, rfl, hrow, bq⟩ := hcut
  have HW : Hid _ := hrow
  have Z14 : Hid (w12.heap.size ≤ w14.heap.size) := bq.size
  have T2 : Hid (∀ W, Below w14.heap.size w14 W → W.heap[A]? = some (.cells #[.slice a l.length c] 24 (0, 0)) ∧ W.heap[A + 1]? = some (.cells #[.int .i64 r.need, .slice p.ra r.rs.length p.rc, .slice p.wa r.ws.length p.wc, .int .i64 r.h.k, .int .i64 r.h.n, .string r.h.t, .slice p.a1 r.h.keys.length p.c1, .slice p.a2 r.sub.len p.c2, .slice p.ea r.es.length p.ec] 32 (0, 0)) ∧ DeRow 0 W.heap.size W a l ∧ RunRow 0 W.heap.size W p r ∧ Vars W ∧ Below w.heap.size w W ∧ VeRow 0 wA.heap.size W wa x ∧ RwMk vXR.heap.size w5.heap.size W ga x.length 1 ∧ VeRow 0 W.heap.size W ha x) := fun W hW => by
    have hq : Below w12.heap.size w12 W := Below.trans bq (hW.mono (by have h1 := (bq).size; omega))
    have t := T.out W hq
    exact ⟨t.1, t.2.1, t.2.2.1, t.2.2.2.1, t.2.2.2.2.1, t.2.2.2.2.2.1, t.2.2.2.2.2.2.1, t.2.2.2.2.2.2.2, VeRow.up HW.out hW⟩
  clear T
  have T := T2
  clear T2
  clear hrow HW bq
  have W5R : Hid (VeRow 0 w14.heap.size w14 wa x) := VeRow.wide (T.out _ (Below.refl _ _)).2.2.2.2.2.2.1 (Nat.le_refl _) (by have := ZZ.out; have := ZK11.out; have := ZK12.out; have := Z14.out; omega)
  go_wp2_with fail
  refine (eq_Pus ha wa hc9 wc9 x _ (T.out _ (Below.refl _ _)).2.2.2.2.2.2.2.2 W5R.out HL.out).mono ?_
  rintro e w15 ⟨rfl, bq⟩
  have zq := bq.size
  have bb : Below w14.heap.size w14 w15 := bq
  have T2 : Hid (∀ W, Below w15.heap.size w15 W → W.heap[A]? = some (.cells #[.slice a l.length c] 24 (0, 0)) ∧ W.heap[A + 1]? = some (.cells #[.int .i64 r.need, .slice p.ra r.rs.length p.rc, .slice p.wa r.ws.length p.wc, .int .i64 r.h.k, .int .i64 r.h.n, .string r.h.t, .slice p.a1 r.h.keys.length p.c1, .slice p.a2 r.sub.len p.c2, .slice p.ea r.es.length p.ec] 32 (0, 0)) ∧ DeRow 0 W.heap.size W a l ∧ RunRow 0 W.heap.size W p r ∧ Vars W ∧ Below w.heap.size w W ∧ VeRow 0 wA.heap.size W wa x ∧ RwMk vXR.heap.size w5.heap.size W ga x.length 1 ∧ VeRow 0 W.heap.size W ha x) := fun W hW => by
    have hq : Below w14.heap.size w14 W := Below.trans bb (hW.mono (by have h1 := (bb).size; omega))
    have t := T.out W hq
    exact ⟨t.1, t.2.1, t.2.2.1, t.2.2.2.1, t.2.2.2.2.1, t.2.2.2.2.2.1, t.2.2.2.2.2.2.1, t.2.2.2.2.2.2.2.1, t.2.2.2.2.2.2.2.2⟩
  clear T
  have T := T2
  clear T2
  clear bq bb zq
  go_wp2_with fail
  refine (held_wr ga gc x.length _ _ _ (T.out _ (Below.refl _ _)).2.2.2.2.2.2.2.1 HL.out).mono ?_
  rintro e w16 ⟨m3, rfl, hm3, hw16⟩
  have hw16' := hw16.symm
  subst hw16'
  clear hw16
  have hm32 : m3 = m2 := by rw [hm3, HM1.out]
  subst hm32
  have QB : Hid (Below w.heap.size w w15) := (T.out _ (Below.refl _ _)).2.2.2.2.2.1
  clear T hm3
  go_wp2_with fail
  go_ret
  exact ⟨rfl, QB.out⟩
end Go.Proofs.YtnkaoeijcdchiaaGreatDoor.G
