/- FnTxn's walk. -/
import Derived.Test.YtoahbfledamnnaaStTxImpl
import Derived.Test.YtoahbfledamnnaaStTxImplRt
import Derived.Test.YtoahbfledamnnaaStTxCommit
import Derived.Test.YtoahbfledamnnaaStSameOf
import Derived.Deep.CutRange
namespace Go.Proofs.Ytoahbfledamnnaa.G
open Go.ChangeShapes Go.WideShapes Go.ChangeAt Go.RowKit
set_option linter.unusedVariables false

theorem ByteRow.far {w w' : World} {a : Option Addr} {n : Nat} (h : ByteRow w.heap.size w a n) (hb : Below w.heap.size w w') : ByteRow w'.heap.size w' a n := by
  rcases h with h | ⟨b, o, e, h1, h2, h3⟩
  · exact .inl h
  · refine .inr ⟨b, o, e, Nat.lt_of_lt_of_le h1 hb.size, Nat.le_refl _, fun i hi => ?_⟩
    obtain ⟨x, hx, e⟩ := h3 i hi
    exact ⟨x, hx, (World.cell?_of_block (w := w) (hb.block b h1)).trans e⟩
/-- What WriteAll of drawn puts leaves: a store of its own variable, an hour, a code. -/
def XIs (V : World) (l : Chs) (now : Int) (u8 u9 u10 : Value) (W : World) : Prop :=
  ∃ (X : Nat) (ps : List Ve) (m : Chs) (nr : Int) (ax : Option Addr) (cx : Nat), u8 = .pointer (some ⟨X, 0, none⟩) ∧ u9 = .int .i64 nr ∧ u10 = .int .i64 0 ∧ putsB ps = true ∧ StIs l now ps m nr ∧ W.heap[X]? = some (.cells #[.slice ax m.length cx, .int .i64 nr] 25 (0, 0)) ∧ ChRow 0 W.heap.size W ax m ∧ Below V.heap.size V W
set_option maxHeartbeats 16000000 in
set_option maxRecDepth 40000 in
theorem fn_txn (n c n2 c2 : Nat) (a a2 : Option Addr) (w : World) (hr : ByteRow w.heap.size w a n) (hr2 : ByteRow w.heap.size w a2 n2) :
    Calls Try.prog 3 #[.slice a n c, .slice a2 n2 c2] w fun e w' => e = .returned (.bool true) ∧ Below w.heap.size w w' := by
  have HA : Hid _ := hr
  have HB : Hid _ := hr2
  clear hr hr2
  by_cases h1 : 1048576 < n
  · have h1' : (1048576 : Int) < n := by omega
    go_enter Try.func3, Try.ntmps3
    go_wp2_with fail
    go_ret
    exact ⟨rfl, Below.refl _ _⟩
  by_cases h2 : 1048576 < n2
  · have h1' : ¬ (1048576 : Int) < n := by omega
    have h2' : (1048576 : Int) < n2 := by omega
    go_enter Try.func3, Try.ntmps3
    go_wp2_with fail
    go_ret
    exact ⟨rfl, Below.refl _ _⟩
  have h1' : ¬ (1048576 : Int) < n := by omega
  have h2' : ¬ (1048576 : Int) < n2 := by omega
  go_enter Try.func3, Try.ntmps3
  go_wp2_with fail
  refine (storeOf_any n c a _ HA.out (by omega)).mono ?_
  rintro e w1 ⟨⟨l, now, v, rfl, o1, s1, n1⟩, b1⟩
  obtain ⟨a1, c1, hv1, r1⟩ := OwnK.chRow o1
  subst hv1
  have hal := storeB_all s1
  have hlen := storeB_bd s1
  have HS : Hid (storeB l now = true) := s1
  have HBD : Hid (ChsBd 1048576 l) := ⟨by have := hal.1; omega, fun x hx => by have := hlen x hx; omega⟩
  have H16 : Hid (l.length = 16) := hal.1
  have R1 : Hid (ChRow 0 w1.heap.size w1 a1 l) := ChRow.wide r1 (Nat.zero_le _) (Nat.le_refl _)
  have B1 : Hid _ := b1
  have z1 := b1.size
  clear o1 s1 r1 b1 hal hlen
  obtain ⟨w2, hw2⟩ : ∃ x : World, x = w1.alloc (.cells #[.slice a1 l.length c1, .int .i64 now] 25) := ⟨_, rfl⟩
  have b2 : Below w1.heap.size w1 w2 := by rw [hw2]; exact (Below.refl _ _).alloc (Nat.le_refl _) _
  have k2 : w2.heap[w1.heap.size]? = some (.cells #[.slice a1 l.length c1, .int .i64 now] 25 (0, 0)) := by rw [hw2]; exact heap_alloc_new _ _
  have zk := (Array.getElem?_eq_some_iff.1 k2).1
  obtain ⟨S, hS⟩ : ∃ S, S = w1.heap.size := ⟨_, rfl⟩
  rw [← hS] at k2 zk
  have T : Hid (∀ W, Below w2.heap.size w2 W → W.heap[S]? = some (.cells #[.slice a1 l.length c1, .int .i64 now] 25 (0, 0)) ∧ ChRow 0 W.heap.size W a1 l ∧ ByteRow W.heap.size W a2 n2 ∧ Below w.heap.size w W) := fun W hW => by
    have h2 : Below w1.heap.size w1 W := b2.trans (hW.mono b2.size)
    have h3 : Below w.heap.size w W := B1.out.trans (h2.mono z1)
    exact ⟨(hW.block _ zk).trans k2, ChRow.up R1.out h2, ByteRow.far HB.out h3, h3⟩
  go_upto_region 4 with fail
  rw [← hw2, ← hS]
  clear hw2 b2 k2 zk hS R1 B1 HA HB z1
  have HB1 : Hid (beginN l now = now) := by unfold Hid beginN; rw [if_pos HS.out]
  have HB2 : Hid (badN l now = 0) := by unfold Hid badN; rw [if_pos HS.out]
  have x1 := fun o => row_cell (T.out _ (Below.refl _ _)).1 o
  go_wp2_with fail
  refine (impl_begin a1 c1 l now _ (T.out _ (Below.refl _ _)).2.1 HBD.out).mono ?_
  rintro e wB ⟨⟨rb, cb, wb, db, rfl⟩, bq⟩
  rw [HB1.out, HB2.out]
  have zq := bq.size
  clear x1
  obtain ⟨vT1, hvT1⟩ : ∃ x : World, x = wB.alloc (.cells #[.int .i64 now, .slice rb 0 cb, .slice wb 0 db] 30) := ⟨_, rfl⟩
  have bvT1 : Below wB.heap.size wB vT1 := by rw [hvT1]; exact (Below.refl _ _).alloc (Nat.le_refl _) _
  have cvT1 : vT1.heap[wB.heap.size]? = some (.cells #[.int .i64 now, .slice rb 0 cb, .slice wb 0 db] 30 (0, 0)) := by rw [hvT1]; exact heap_alloc_new _ _
  have zvT1 := (Array.getElem?_eq_some_iff.1 cvT1).1
  obtain ⟨T1, hT1⟩ : ∃ T1, T1 = wB.heap.size := ⟨_, rfl⟩
  rw [← hT1] at cvT1 zvT1
  have bb : Below w2.heap.size w2 vT1 := bq.trans (bvT1.mono zq)
  have T2 : Hid (∀ W, Below vT1.heap.size vT1 W → W.heap[S]? = some (.cells #[.slice a1 l.length c1, .int .i64 now] 25 (0, 0)) ∧ ChRow 0 W.heap.size W a1 l ∧ ByteRow W.heap.size W a2 n2 ∧ Below w.heap.size w W ∧ W.heap[T1]? = some (.cells #[.int .i64 now, .slice rb 0 cb, .slice wb 0 db] 30 (0, 0))) := fun W hW => by
    have hq : Below w2.heap.size w2 W := Below.trans bb (hW.mono (by have h1 := (bb).size; omega))
    have t := T.out W hq
    exact ⟨t.1, t.2.1, t.2.2.1, t.2.2.2, (hW.block _ zvT1).trans cvT1⟩
  clear T
  have T := T2
  clear T2
  go_upto_region 5 with fail
  rw [← hvT1, ← hT1]
  clear hvT1 bvT1 cvT1 zvT1 hT1 bb bq zq
  have x1 := fun o => row_cell (T.out _ (Below.refl _ _)).1 o
  have xa1 := fun ob o => (World.cell?_alloc_past (w := vT1) ob S o (Array.getElem?_eq_some_iff.1 (T.out _ (Below.refl _ _)).1).1).trans (x1 o)
  go_cut [8, 9, 10] from 42 to 49 (fun u8 u9 u10 wx => XIs vT1 l now u8 u9 u10 wx)
  case first =>
    go_region_with (first
      | (go_at_call 8
         refine Calls.mono (putsOf_any n2 c2 a2 _ (T.out _ (by repeat (first | exact Below.refl _ _ | refine Below.drew ?_ | refine Below.alloc ?_ (by first | omega | (simp <;> omega)) _))).2.2.1 (by omega)) ?_
         rintro e y1 ⟨⟨ps, pa, pc, rfl, p3, hp3⟩, hb3⟩
         have q1 : Below vT1.heap.size vT1 y1 := Below.trans (by repeat (first | exact Below.refl _ _ | refine Below.drew ?_ | refine Below.alloc ?_ (by first | omega | (simp <;> omega)) _)) (hb3.mono (by first | exact Nat.le_refl _ | (simp <;> omega)))
         have Q1 : Hid _ := q1
         have P1 : Hid (VeRow 0 y1.heap.size y1 pa ps) := p3
         have HP : Hid (putsB ps = true) := hp3
         have hpl : ps.length ≤ 400 := (putsB_all hp3).1
         have zy1 := q1.size
         have ka := fun o => row_cell (T.out _ q1).1 o
         have ka2 := fun ob o => (World.cell?_alloc_past (w := y1) ob S o (Array.getElem?_eq_some_iff.1 (T.out _ q1).1).1).trans (ka o)
         obtain ⟨m, nr, hst⟩ := stIs l now ps
         have HST : Hid (StIs l now ps m nr) := hst
         have HWA : Hid (WaIs l now ps m nr nr 0) := hst.wa HS.out HP.out (by omega)
         clear p3 hp3 hst
         first
         | (have kb : y1.heap[vT1.heap.size]? = some (.cells #[.slice none 0 0, .int .i64 0] 25 (0, 0)) := (hb3.block vT1.heap.size (by simp)).trans (heap_alloc_new vT1 _)
            have KB1 : Hid _ := kb
            have kl := (Array.getElem?_eq_some_iff.1 kb).1
            clear kb)
         | skip
         clear hb3 q1)
      | (go_at_call 7
         refine Calls.mono (impl_wa a1 pa c1 pc l ps now _ (T.out _ (Below.trans Q1.out (by repeat (first | exact Below.refl _ _ | refine Below.drew ?_ | refine Below.alloc ?_ (by first | omega | (simp <;> omega)) _)))).2.1 (VeRow.up P1.out (by repeat (first | exact Below.refl _ _ | refine Below.drew ?_ | refine Below.alloc ?_ (by first | omega | (simp <;> omega)) _))) HBD.out (by omega) HWA.out) ?_
         rintro e y2 ⟨ax, cx, bs, rfl, o4, hb4⟩
         have O4 : Hid _ := o4
         have q2 : Below vT1.heap.size vT1 y2 := Q1.out.trans (Below.trans (by repeat (first | exact Below.refl _ _ | refine Below.drew ?_ | refine Below.alloc ?_ (by first | omega | (simp <;> omega)) _)) (hb4.mono (by first | exact Nat.le_refl _ | (simp <;> omega))) |>.mono zy1)
         have Q2 : Hid _ := q2
         have zy2 := q2.size
         first
         | (have kb : y2.heap[vT1.heap.size]? = some (.cells #[.slice none 0 0, .int .i64 0] 25 (0, 0)) := (hb4.block vT1.heap.size kl).trans KB1.out
            have KB2 : Hid _ := kb
            have kz := fun o => row_cell kb o
            have kf := fun o => row_frozen kb o
            clear kb)
         | (have kb : y2.heap[y1.heap.size]? = some (.cells #[.slice none 0 0, .int .i64 0] 25 (0, 0)) := (hb4.block y1.heap.size (by simp)).trans (heap_alloc_new y1 _)
            have KB2 : Hid _ := kb
            have kz := fun o => row_cell kb o
            have kf := fun o => row_frozen kb o
            clear kb)
         | skip
         clear o4 hb4 q2))
    all_goals (try go_wp2_with fail)
    all_goals go_meet
    all_goals (first
      | exact ⟨_, ps, m, nr, ax, cx, rfl, rfl, rfl, HP.out, HST.out, heap_alloc_new _ _, ChRow.up (ChRow.wide (StHas.row O4.out) (Nat.zero_le _) (Nat.le_refl _)) ((Below.refl _ _).alloc (Nat.le_refl _) _), Q2.out.alloc zy2 _⟩
      | (refine ⟨_, ps, m, nr, ax, cx, rfl, rfl, rfl, HP.out, HST.out, ?_, ?_, ?_⟩
         · have h1 := row_set (row_set KB2.out 0 (.slice ax m.length cx)) 1 (.int .i64 nr)
           simpa using h1
         · refine ChRow.wide (ChRow.keep (StHas.row O4.out) (fun g h1 h2 => ?_)) (Nat.zero_le _) (by simp)
           first
           | (have h1'' : y1.heap.size + 1 ≤ g := by simpa using h1
              rw [heap_set _ _ _ _ _ (by omega), heap_set _ _ _ _ _ (by omega)])
           | (have h1' : y1.heap.size ≤ g := h1
              rw [heap_set _ _ _ _ _ (by omega), heap_set _ _ _ _ _ (by omega)])
         · repeat (refine Below.setCell ?_ (by first | omega | (simp <;> omega)) _)
           exact Q2.out))
  clear xa1 x1
  obtain ⟨wx, rfl⟩ : ∃ x, x = wc := ⟨_, rfl⟩
  obtain ⟨X, ps, m, nr, ax, cx, rfl, rfl, rfl, hps, hst, cX, rX, bX⟩ := hcut
  have HP : Hid (putsB ps = true) := hps
  have HST : Hid (StIs l now ps m nr) := hst
  have HSM : Hid (storeB m nr = true) := hst.ok HS.out hps (by omega)
  have hh := hst.hour
  have HBM : Hid (ChsBd 1048576 m) := by
    have := store_small HSM.out
    exact ⟨by have := this.1; omega, fun x hx => by have := this.2 x hx; omega⟩
  have zX := (Array.getElem?_eq_some_iff.1 cX).1
  have T2 : Hid (∀ W, Below wx.heap.size wx W → W.heap[S]? = some (.cells #[.slice a1 l.length c1, .int .i64 now] 25 (0, 0)) ∧ ChRow 0 W.heap.size W a1 l ∧ ByteRow W.heap.size W a2 n2 ∧ Below w.heap.size w W ∧ W.heap[T1]? = some (.cells #[.int .i64 now, .slice rb 0 cb, .slice wb 0 db] 30 (0, 0)) ∧ W.heap[X]? = some (.cells #[.slice ax m.length cx, .int .i64 nr] 25 (0, 0)) ∧ ChRow 0 W.heap.size W ax m) := fun W hW => by
    have hq : Below vT1.heap.size vT1 W := Below.trans bX (hW.mono (by have h1 := (bX).size; omega))
    have t := T.out W hq
    exact ⟨t.1, t.2.1, t.2.2.1, t.2.2.2.1, t.2.2.2.2, (hW.block _ zX).trans cX, ChRow.up rX hW⟩
  clear T
  have T := T2
  clear T2
  clear hps hst cX rX bX zX
  go_wp2_with fail
  refine (at_zero a2 n2 c2 16 _ (T.out _ (Below.refl _ _)).2.2.1 (by omega) (by omega) (by omega)).mono ?_
  rintro e w6 ⟨⟨k, hk, rfl⟩, bq⟩
  have zq := bq.size
  have bb : Below wx.heap.size wx w6 := bq
  have T2 : Hid (∀ W, Below w6.heap.size w6 W → W.heap[S]? = some (.cells #[.slice a1 l.length c1, .int .i64 now] 25 (0, 0)) ∧ ChRow 0 W.heap.size W a1 l ∧ ByteRow W.heap.size W a2 n2 ∧ Below w.heap.size w W ∧ W.heap[T1]? = some (.cells #[.int .i64 now, .slice rb 0 cb, .slice wb 0 db] 30 (0, 0)) ∧ W.heap[X]? = some (.cells #[.slice ax m.length cx, .int .i64 nr] 25 (0, 0)) ∧ ChRow 0 W.heap.size W ax m) := fun W hW => by
    have hq : Below wx.heap.size wx W := Below.trans bb (hW.mono (by have h1 := (bb).size; omega))
    have t := T.out W hq
    exact ⟨t.1, t.2.1, t.2.2.1, t.2.2.2.1, t.2.2.2.2.1, t.2.2.2.2.2.1, t.2.2.2.2.2.2⟩
  clear T
  have T := T2
  clear T2
  go_upto_region 7 with fail
  clear bq bb zq
  obtain ⟨zz, hzz⟩ : ∃ z, z = readV (chAt l k) now := ⟨_, rfl⟩
  have hkI : (0 : Int) ≤ (k : Int) ∧ (k : Int) < 16 := ⟨by omega, by omega⟩
  have HRR : Hid (readR l now k now = zz) := by rw [Hid, hzz, readR, if_pos (ask_ok2 HS.out (by omega) (by omega) hk), Int.toNat_natCast]
  have HASK : Hid (askN l now k now = 0) := ask_ok2 HS.out (by omega) (by omega) hk
  have HRM : Hid (readV (chAt m k) now = zz) := by
    have h1 := HST.out.old HS.out HP.out (by omega) hk
    rw [HRR.out, readR, if_pos (ask_ok2 HSM.out (by omega) (by omega) hk), Int.toNat_natCast] at h1
    exact h1
  have HX0 : Hid (txnB m nr now [] [] = true) := tx_none HSM.out (by omega) (by omega)
  have HX1 : Hid (txnB m nr now [(k : Int)] [] = true) := tx_read HSM.out (by omega) (by omega) hkI
  have HX2 : Hid (txnB m nr now [(k : Int)] [⟨(k : Int), 3⟩] = true) := tx_both HSM.out (by omega) (by omega) hkI (put_three hkI)
  have HIN : Hid (inS (k : Int) 0 15 = true) := (inS_iff _ _ _).2 ⟨by omega, by omega⟩
  have HY0 : Hid (RtIs m nr now [] [] k now [(k : Int)] [] zz 0) := .inr (.inr ⟨HX0.out, HIN.out, rfl, (rdK_one _).symm, rfl, by rw [rdV_none, Int.toNat_natCast, HRM.out], rfl⟩)
  have HY1 : Hid (WtIs m nr now [(k : Int)] [] k 3 now [(k : Int)] [⟨(k : Int), 3⟩] 0) := .inr (.inr (.inr ⟨HX1.out, put_three hkI, by simp, rfl, rfl, rfl, rfl⟩))
  have HY2 : Hid (RtIs m nr now [(k : Int)] [⟨(k : Int), 3⟩] k now [(k : Int)] [⟨(k : Int), 3⟩] 3 0) := .inr (.inr ⟨HX2.out, HIN.out, rfl, (rdK_two _ _).symm, rfl, (rdV_own _ _ _ _).symm, rfl⟩)
  clear hzz
  have hq := fun (W : World) (h1 : ChRow 0 W.heap.size W ax m) (h2 : TxRow 0 W.heap.size W rb wb [] []) => impl_rt ax rb wb cx cb db m nr now [] [] k now [(k : Int)] [] zz 0 W h1 HBM.out h2 ⟨by simp, by simp⟩ HY0.out
  simp only [List.length_nil, List.length_singleton] at hq
  have x1 := fun o => row_cell (T.out _ (Below.refl _ _)).2.2.2.2.2.1 o
  have x2 := fun o => row_cell (T.out _ (Below.refl _ _)).2.2.2.2.1 o
  go_wp2_with fail
  refine (hq _ (T.out _ (Below.refl _ _)).2.2.2.2.2.2 ⟨.inl rfl, .inl rfl⟩).mono ?_
  rintro e w7 ⟨r2, q2, v2, e2, rfl, oq, bq⟩
  have OT2 : Hid (TxRow 0 w7.heap.size w7 r2 v2 [(k : Int)] []) := TxRow.wide oq.row (Nat.zero_le _) (Nat.le_refl _)
  have zq := bq.size
  clear x1 x2
  obtain ⟨vT2, hvT2⟩ : ∃ x : World, x = w7.alloc (.cells #[.int .i64 now, .slice r2 1 q2, .slice v2 0 e2] 30) := ⟨_, rfl⟩
  have bvT2 : Below w7.heap.size w7 vT2 := by rw [hvT2]; exact (Below.refl _ _).alloc (Nat.le_refl _) _
  have cvT2 : vT2.heap[w7.heap.size]? = some (.cells #[.int .i64 now, .slice r2 1 q2, .slice v2 0 e2] 30 (0, 0)) := by rw [hvT2]; exact heap_alloc_new _ _
  have zvT2 := (Array.getElem?_eq_some_iff.1 cvT2).1
  obtain ⟨T2, hT2⟩ : ∃ T2, T2 = w7.heap.size := ⟨_, rfl⟩
  rw [← hT2] at cvT2 zvT2
  have bb : Below w6.heap.size w6 vT2 := bq.trans (bvT2.mono zq)
  have T2 : Hid (∀ W, Below vT2.heap.size vT2 W → W.heap[S]? = some (.cells #[.slice a1 l.length c1, .int .i64 now] 25 (0, 0)) ∧ ChRow 0 W.heap.size W a1 l ∧ ByteRow W.heap.size W a2 n2 ∧ Below w.heap.size w W ∧ W.heap[T1]? = some (.cells #[.int .i64 now, .slice rb 0 cb, .slice wb 0 db] 30 (0, 0)) ∧ W.heap[X]? = some (.cells #[.slice ax m.length cx, .int .i64 nr] 25 (0, 0)) ∧ ChRow 0 W.heap.size W ax m ∧ W.heap[T2]? = some (.cells #[.int .i64 now, .slice r2 1 q2, .slice v2 0 e2] 30 (0, 0)) ∧ TxRow 0 W.heap.size W r2 v2 [(k : Int)] []) := fun W hW => by
    have hq : Below w6.heap.size w6 W := Below.trans bb (hW.mono (by have h1 := (bb).size; omega))
    have t := T.out W hq
    exact ⟨t.1, t.2.1, t.2.2.1, t.2.2.2.1, t.2.2.2.2.1, t.2.2.2.2.2.1, t.2.2.2.2.2.2, (hW.block _ zvT2).trans cvT2, TxRow.up OT2.out ((bvT2).trans (hW.mono (bvT2).size))⟩
  clear T
  have T := T2
  clear T2
  go_upto_region 8 with fail
  rw [← hvT2, ← hT2]
  clear hvT2 bvT2 cvT2 zvT2 hT2 bb bq zq
  clear hq oq OT2
  have x1 := fun o => row_cell (T.out _ (Below.refl _ _)).1 o
  go_wp2_with fail
  refine (impl_readAt a1 c1 l now k now _ (T.out _ (Below.refl _ _)).2.1 HBD.out).mono ?_
  rintro e w8 ⟨rfl, bq⟩
  rw [HRR.out, HASK.out]
  have zq := bq.size
  clear x1
  have bb : Below vT2.heap.size vT2 w8 := bq
  have T2 : Hid (∀ W, Below w8.heap.size w8 W → W.heap[S]? = some (.cells #[.slice a1 l.length c1, .int .i64 now] 25 (0, 0)) ∧ ChRow 0 W.heap.size W a1 l ∧ ByteRow W.heap.size W a2 n2 ∧ Below w.heap.size w W ∧ W.heap[T1]? = some (.cells #[.int .i64 now, .slice rb 0 cb, .slice wb 0 db] 30 (0, 0)) ∧ W.heap[X]? = some (.cells #[.slice ax m.length cx, .int .i64 nr] 25 (0, 0)) ∧ ChRow 0 W.heap.size W ax m ∧ W.heap[T2]? = some (.cells #[.int .i64 now, .slice r2 1 q2, .slice v2 0 e2] 30 (0, 0)) ∧ TxRow 0 W.heap.size W r2 v2 [(k : Int)] []) := fun W hW => by
    have hq : Below vT2.heap.size vT2 W := Below.trans bb (hW.mono (by have h1 := (bb).size; omega))
    have t := T.out W hq
    exact ⟨t.1, t.2.1, t.2.2.1, t.2.2.2.1, t.2.2.2.2.1, t.2.2.2.2.2.1, t.2.2.2.2.2.2.1, t.2.2.2.2.2.2.2.1, t.2.2.2.2.2.2.2.2⟩
  clear T
  have T := T2
  clear T2
  go_upto_region 9 with fail
  clear bq bb zq
  have hq := fun (W : World) (h1 : ChRow 0 W.heap.size W ax m) (h2 : TxRow 0 W.heap.size W r2 v2 [(k : Int)] []) => impl_wt ax r2 v2 cx q2 e2 m nr now [(k : Int)] [] k 3 now [(k : Int)] [⟨(k : Int), 3⟩] 0 W h1 HBM.out h2 ⟨by simp, by simp⟩ HY1.out
  simp only [List.length_nil, List.length_singleton] at hq
  have x1 := fun o => row_cell (T.out _ (Below.refl _ _)).2.2.2.2.2.1 o
  have x2 := fun o => row_cell (T.out _ (Below.refl _ _)).2.2.2.2.2.2.2.1 o
  go_wp2_with fail
  refine (hq _ (T.out _ (Below.refl _ _)).2.2.2.2.2.2.1 (T.out _ (Below.refl _ _)).2.2.2.2.2.2.2.2).mono ?_
  rintro e w9 ⟨r3, q3, v3, e3, rfl, oq, bq⟩
  have OT3 : Hid (TxRow 0 w9.heap.size w9 r3 v3 [(k : Int)] [⟨(k : Int), 3⟩]) := TxRow.wide oq.row (Nat.zero_le _) (Nat.le_refl _)
  have zq := bq.size
  clear x1 x2
  obtain ⟨vT3, hvT3⟩ : ∃ x : World, x = w9.alloc (.cells #[.int .i64 now, .slice r3 1 q3, .slice v3 1 e3] 30) := ⟨_, rfl⟩
  have bvT3 : Below w9.heap.size w9 vT3 := by rw [hvT3]; exact (Below.refl _ _).alloc (Nat.le_refl _) _
  have cvT3 : vT3.heap[w9.heap.size]? = some (.cells #[.int .i64 now, .slice r3 1 q3, .slice v3 1 e3] 30 (0, 0)) := by rw [hvT3]; exact heap_alloc_new _ _
  have zvT3 := (Array.getElem?_eq_some_iff.1 cvT3).1
  obtain ⟨T3, hT3⟩ : ∃ T3, T3 = w9.heap.size := ⟨_, rfl⟩
  rw [← hT3] at cvT3 zvT3
  have bb : Below w8.heap.size w8 vT3 := bq.trans (bvT3.mono zq)
  have T2 : Hid (∀ W, Below vT3.heap.size vT3 W → W.heap[S]? = some (.cells #[.slice a1 l.length c1, .int .i64 now] 25 (0, 0)) ∧ ChRow 0 W.heap.size W a1 l ∧ ByteRow W.heap.size W a2 n2 ∧ Below w.heap.size w W ∧ W.heap[T1]? = some (.cells #[.int .i64 now, .slice rb 0 cb, .slice wb 0 db] 30 (0, 0)) ∧ W.heap[X]? = some (.cells #[.slice ax m.length cx, .int .i64 nr] 25 (0, 0)) ∧ ChRow 0 W.heap.size W ax m ∧ W.heap[T2]? = some (.cells #[.int .i64 now, .slice r2 1 q2, .slice v2 0 e2] 30 (0, 0)) ∧ TxRow 0 W.heap.size W r2 v2 [(k : Int)] [] ∧ W.heap[T3]? = some (.cells #[.int .i64 now, .slice r3 1 q3, .slice v3 1 e3] 30 (0, 0)) ∧ TxRow 0 W.heap.size W r3 v3 [(k : Int)] [⟨(k : Int), 3⟩]) := fun W hW => by
    have hq : Below w8.heap.size w8 W := Below.trans bb (hW.mono (by have h1 := (bb).size; omega))
    have t := T.out W hq
    exact ⟨t.1, t.2.1, t.2.2.1, t.2.2.2.1, t.2.2.2.2.1, t.2.2.2.2.2.1, t.2.2.2.2.2.2.1, t.2.2.2.2.2.2.2.1, t.2.2.2.2.2.2.2.2, (hW.block _ zvT3).trans cvT3, TxRow.up OT3.out ((bvT3).trans (hW.mono (bvT3).size))⟩
  clear T
  have T := T2
  clear T2
  go_upto_region 10 with fail
  rw [← hvT3, ← hT3]
  clear hvT3 bvT3 cvT3 zvT3 hT3 bb bq zq
  clear hq oq OT3
  have hq := fun (W : World) (h1 : ChRow 0 W.heap.size W ax m) (h2 : TxRow 0 W.heap.size W r3 v3 [(k : Int)] [⟨(k : Int), 3⟩]) => impl_rt ax r3 v3 cx q3 e3 m nr now [(k : Int)] [⟨(k : Int), 3⟩] k now [(k : Int)] [⟨(k : Int), 3⟩] 3 0 W h1 HBM.out h2 ⟨by simp, by simp⟩ HY2.out
  simp only [List.length_singleton] at hq
  have x1 := fun o => row_cell (T.out _ (Below.refl _ _)).2.2.2.2.2.1 o
  have x2 := fun o => row_cell (T.out _ (Below.refl _ _)).2.2.2.2.2.2.2.2.2.1 o
  go_wp2_with fail
  refine (hq _ (T.out _ (Below.refl _ _)).2.2.2.2.2.2.1 (T.out _ (Below.refl _ _)).2.2.2.2.2.2.2.2.2.2).mono ?_
  rintro e w10 ⟨r4, q4, v4, e4, rfl, oq, bq⟩
  have OT4 : Hid (TxRow 0 w10.heap.size w10 r4 v4 [(k : Int)] [⟨(k : Int), 3⟩]) := TxRow.wide oq.row (Nat.zero_le _) (Nat.le_refl _)
  have zq := bq.size
  clear x1 x2
  obtain ⟨vT4, hvT4⟩ : ∃ x : World, x = w10.alloc (.cells #[.int .i64 now, .slice r4 1 q4, .slice v4 1 e4] 30) := ⟨_, rfl⟩
  have bvT4 : Below w10.heap.size w10 vT4 := by rw [hvT4]; exact (Below.refl _ _).alloc (Nat.le_refl _) _
  have cvT4 : vT4.heap[w10.heap.size]? = some (.cells #[.int .i64 now, .slice r4 1 q4, .slice v4 1 e4] 30 (0, 0)) := by rw [hvT4]; exact heap_alloc_new _ _
  have zvT4 := (Array.getElem?_eq_some_iff.1 cvT4).1
  obtain ⟨T4, hT4⟩ : ∃ T4, T4 = w10.heap.size := ⟨_, rfl⟩
  rw [← hT4] at cvT4 zvT4
  have bb : Below vT3.heap.size vT3 vT4 := bq.trans (bvT4.mono zq)
  have T2 : Hid (∀ W, Below vT4.heap.size vT4 W → W.heap[S]? = some (.cells #[.slice a1 l.length c1, .int .i64 now] 25 (0, 0)) ∧ ChRow 0 W.heap.size W a1 l ∧ ByteRow W.heap.size W a2 n2 ∧ Below w.heap.size w W ∧ W.heap[T1]? = some (.cells #[.int .i64 now, .slice rb 0 cb, .slice wb 0 db] 30 (0, 0)) ∧ W.heap[X]? = some (.cells #[.slice ax m.length cx, .int .i64 nr] 25 (0, 0)) ∧ ChRow 0 W.heap.size W ax m ∧ W.heap[T2]? = some (.cells #[.int .i64 now, .slice r2 1 q2, .slice v2 0 e2] 30 (0, 0)) ∧ TxRow 0 W.heap.size W r2 v2 [(k : Int)] [] ∧ W.heap[T3]? = some (.cells #[.int .i64 now, .slice r3 1 q3, .slice v3 1 e3] 30 (0, 0)) ∧ TxRow 0 W.heap.size W r3 v3 [(k : Int)] [⟨(k : Int), 3⟩] ∧ W.heap[T4]? = some (.cells #[.int .i64 now, .slice r4 1 q4, .slice v4 1 e4] 30 (0, 0)) ∧ TxRow 0 W.heap.size W r4 v4 [(k : Int)] [⟨(k : Int), 3⟩]) := fun W hW => by
    have hq : Below vT3.heap.size vT3 W := Below.trans bb (hW.mono (by have h1 := (bb).size; omega))
    have t := T.out W hq
    exact ⟨t.1, t.2.1, t.2.2.1, t.2.2.2.1, t.2.2.2.2.1, t.2.2.2.2.2.1, t.2.2.2.2.2.2.1, t.2.2.2.2.2.2.2.1, t.2.2.2.2.2.2.2.2.1, t.2.2.2.2.2.2.2.2.2.1, t.2.2.2.2.2.2.2.2.2.2, (hW.block _ zvT4).trans cvT4, TxRow.up OT4.out ((bvT4).trans (hW.mono (bvT4).size))⟩
  clear T
  have T := T2
  clear T2
  go_upto_region 11 with fail
  rw [← hvT4, ← hT4]
  clear hvT4 bvT4 cvT4 zvT4 hT4 bb bq zq
  clear hq oq OT4
  have x1 := fun o => row_cell (T.out _ (Below.refl _ _)).1 o
  go_wp2_with fail
  refine (txnOf_any n2 c2 a2 a1 c1 l now _ (T.out _ (Below.refl _ _)).2.2.1 (by omega) (T.out _ (Below.refl _ _)).2.1 HS.out (by omega)).mono ?_
  rintro e wT1 ⟨⟨sT, rT, wT, raT, rqT, waT, wqT, rfl, hT1, hT2, hT3⟩, bq⟩
  have OT : Hid (TxRow 0 wT1.heap.size wT1 raT waT rT wT) := hT1
  have HTX : Hid (txnB l now sT rT wT = true) := hT2
  have zq := bq.size
  clear x1
  obtain ⟨vTA, hvTA⟩ : ∃ x : World, x = wT1.alloc (.cells #[.int .i64 sT, .slice raT rT.length rqT, .slice waT wT.length wqT] 30) := ⟨_, rfl⟩
  have bvTA : Below wT1.heap.size wT1 vTA := by rw [hvTA]; exact (Below.refl _ _).alloc (Nat.le_refl _) _
  have cvTA : vTA.heap[wT1.heap.size]? = some (.cells #[.int .i64 sT, .slice raT rT.length rqT, .slice waT wT.length wqT] 30 (0, 0)) := by rw [hvTA]; exact heap_alloc_new _ _
  have zvTA := (Array.getElem?_eq_some_iff.1 cvTA).1
  obtain ⟨TA, hTA⟩ : ∃ TA, TA = wT1.heap.size := ⟨_, rfl⟩
  rw [← hTA] at cvTA zvTA
  have bb : Below vT4.heap.size vT4 vTA := bq.trans (bvTA.mono zq)
  have T2 : Hid (∀ W, Below vTA.heap.size vTA W → W.heap[S]? = some (.cells #[.slice a1 l.length c1, .int .i64 now] 25 (0, 0)) ∧ ChRow 0 W.heap.size W a1 l ∧ ByteRow W.heap.size W a2 n2 ∧ Below w.heap.size w W ∧ W.heap[T1]? = some (.cells #[.int .i64 now, .slice rb 0 cb, .slice wb 0 db] 30 (0, 0)) ∧ W.heap[X]? = some (.cells #[.slice ax m.length cx, .int .i64 nr] 25 (0, 0)) ∧ ChRow 0 W.heap.size W ax m ∧ W.heap[T2]? = some (.cells #[.int .i64 now, .slice r2 1 q2, .slice v2 0 e2] 30 (0, 0)) ∧ TxRow 0 W.heap.size W r2 v2 [(k : Int)] [] ∧ W.heap[T3]? = some (.cells #[.int .i64 now, .slice r3 1 q3, .slice v3 1 e3] 30 (0, 0)) ∧ TxRow 0 W.heap.size W r3 v3 [(k : Int)] [⟨(k : Int), 3⟩] ∧ W.heap[T4]? = some (.cells #[.int .i64 now, .slice r4 1 q4, .slice v4 1 e4] 30 (0, 0)) ∧ TxRow 0 W.heap.size W r4 v4 [(k : Int)] [⟨(k : Int), 3⟩] ∧ W.heap[TA]? = some (.cells #[.int .i64 sT, .slice raT rT.length rqT, .slice waT wT.length wqT] 30 (0, 0)) ∧ TxRow 0 W.heap.size W raT waT rT wT) := fun W hW => by
    have hq : Below vT4.heap.size vT4 W := Below.trans bb (hW.mono (by have h1 := (bb).size; omega))
    have t := T.out W hq
    exact ⟨t.1, t.2.1, t.2.2.1, t.2.2.2.1, t.2.2.2.2.1, t.2.2.2.2.2.1, t.2.2.2.2.2.2.1, t.2.2.2.2.2.2.2.1, t.2.2.2.2.2.2.2.2.1, t.2.2.2.2.2.2.2.2.2.1, t.2.2.2.2.2.2.2.2.2.2.1, t.2.2.2.2.2.2.2.2.2.2.2.1, t.2.2.2.2.2.2.2.2.2.2.2.2, (hW.block _ zvTA).trans cvTA, TxRow.up OT.out ((bvTA).trans (hW.mono (bvTA).size))⟩
  clear T
  have T := T2
  clear T2
  go_upto_region 12 with fail
  rw [← hvTA, ← hTA]
  clear hvTA bvTA cvTA zvTA hTA bb bq zq
  clear OT hT1 hT2
  have HTB : Hid (TxBd 1048576 rT wT) := ⟨by have := readsB_len (txnB_all HTX.out).2.2.2; omega, by have := (putsB_all (txnB_all HTX.out).2.2.1).1; omega⟩
  have HTC : Hid (txC l now sT rT wT = 0) := by rw [Hid, txC, HTX.out]; rfl
  have x1 := fun o => row_cell (T.out _ (Below.refl _ _)).1 o
  have x2 := fun o => row_cell (T.out _ (Below.refl _ _)).2.2.2.2.2.2.2.2.2.2.2.2.2.1 o
  go_wp2_with fail
  refine (impl_conflicts a1 raT waT c1 rqT wqT l now sT rT wT _ (T.out _ (Below.refl _ _)).2.1 HBD.out (T.out _ (Below.refl _ _)).2.2.2.2.2.2.2.2.2.2.2.2.2.2 HTB.out).mono ?_
  rintro e w12 ⟨rfl, bq⟩
  rw [HTC.out]
  have zq := bq.size
  clear x1 x2
  have bb : Below vTA.heap.size vTA w12 := bq
  have T2 : Hid (∀ W, Below w12.heap.size w12 W → W.heap[S]? = some (.cells #[.slice a1 l.length c1, .int .i64 now] 25 (0, 0)) ∧ ChRow 0 W.heap.size W a1 l ∧ ByteRow W.heap.size W a2 n2 ∧ Below w.heap.size w W ∧ W.heap[T1]? = some (.cells #[.int .i64 now, .slice rb 0 cb, .slice wb 0 db] 30 (0, 0)) ∧ W.heap[X]? = some (.cells #[.slice ax m.length cx, .int .i64 nr] 25 (0, 0)) ∧ ChRow 0 W.heap.size W ax m ∧ W.heap[T2]? = some (.cells #[.int .i64 now, .slice r2 1 q2, .slice v2 0 e2] 30 (0, 0)) ∧ TxRow 0 W.heap.size W r2 v2 [(k : Int)] [] ∧ W.heap[T3]? = some (.cells #[.int .i64 now, .slice r3 1 q3, .slice v3 1 e3] 30 (0, 0)) ∧ TxRow 0 W.heap.size W r3 v3 [(k : Int)] [⟨(k : Int), 3⟩] ∧ W.heap[T4]? = some (.cells #[.int .i64 now, .slice r4 1 q4, .slice v4 1 e4] 30 (0, 0)) ∧ TxRow 0 W.heap.size W r4 v4 [(k : Int)] [⟨(k : Int), 3⟩] ∧ W.heap[TA]? = some (.cells #[.int .i64 sT, .slice raT rT.length rqT, .slice waT wT.length wqT] 30 (0, 0)) ∧ TxRow 0 W.heap.size W raT waT rT wT) := fun W hW => by
    have hq : Below vTA.heap.size vTA W := Below.trans bb (hW.mono (by have h1 := (bb).size; omega))
    have t := T.out W hq
    exact ⟨t.1, t.2.1, t.2.2.1, t.2.2.2.1, t.2.2.2.2.1, t.2.2.2.2.2.1, t.2.2.2.2.2.2.1, t.2.2.2.2.2.2.2.1, t.2.2.2.2.2.2.2.2.1, t.2.2.2.2.2.2.2.2.2.1, t.2.2.2.2.2.2.2.2.2.2.1, t.2.2.2.2.2.2.2.2.2.2.2.1, t.2.2.2.2.2.2.2.2.2.2.2.2.1, t.2.2.2.2.2.2.2.2.2.2.2.2.2.1, t.2.2.2.2.2.2.2.2.2.2.2.2.2.2⟩
  clear T
  have T := T2
  clear T2
  go_upto_region 13 with fail
  clear bq bb zq
  have x1 := fun o => row_cell (T.out _ (Below.refl _ _)).1 o
  have x2 := fun o => row_cell (T.out _ (Below.refl _ _)).2.2.2.2.2.2.2.2.2.2.2.2.2.1 o
  go_wp2_with fail
  refine (spec_conflicts a1 raT waT c1 rqT wqT l now sT rT wT _ (T.out _ (Below.refl _ _)).2.1 HBD.out (T.out _ (Below.refl _ _)).2.2.2.2.2.2.2.2.2.2.2.2.2.2 HTB.out hT3).mono ?_
  rintro e w13 ⟨rfl, bq⟩
  rw [HTC.out]
  have zq := bq.size
  clear x1 x2
  have bb : Below w12.heap.size w12 w13 := bq
  have T2 : Hid (∀ W, Below w13.heap.size w13 W → W.heap[S]? = some (.cells #[.slice a1 l.length c1, .int .i64 now] 25 (0, 0)) ∧ ChRow 0 W.heap.size W a1 l ∧ ByteRow W.heap.size W a2 n2 ∧ Below w.heap.size w W ∧ W.heap[T1]? = some (.cells #[.int .i64 now, .slice rb 0 cb, .slice wb 0 db] 30 (0, 0)) ∧ W.heap[X]? = some (.cells #[.slice ax m.length cx, .int .i64 nr] 25 (0, 0)) ∧ ChRow 0 W.heap.size W ax m ∧ W.heap[T2]? = some (.cells #[.int .i64 now, .slice r2 1 q2, .slice v2 0 e2] 30 (0, 0)) ∧ TxRow 0 W.heap.size W r2 v2 [(k : Int)] [] ∧ W.heap[T3]? = some (.cells #[.int .i64 now, .slice r3 1 q3, .slice v3 1 e3] 30 (0, 0)) ∧ TxRow 0 W.heap.size W r3 v3 [(k : Int)] [⟨(k : Int), 3⟩] ∧ W.heap[T4]? = some (.cells #[.int .i64 now, .slice r4 1 q4, .slice v4 1 e4] 30 (0, 0)) ∧ TxRow 0 W.heap.size W r4 v4 [(k : Int)] [⟨(k : Int), 3⟩] ∧ W.heap[TA]? = some (.cells #[.int .i64 sT, .slice raT rT.length rqT, .slice waT wT.length wqT] 30 (0, 0)) ∧ TxRow 0 W.heap.size W raT waT rT wT) := fun W hW => by
    have hq : Below w12.heap.size w12 W := Below.trans bb (hW.mono (by have h1 := (bb).size; omega))
    have t := T.out W hq
    exact ⟨t.1, t.2.1, t.2.2.1, t.2.2.2.1, t.2.2.2.2.1, t.2.2.2.2.2.1, t.2.2.2.2.2.2.1, t.2.2.2.2.2.2.2.1, t.2.2.2.2.2.2.2.2.1, t.2.2.2.2.2.2.2.2.2.1, t.2.2.2.2.2.2.2.2.2.2.1, t.2.2.2.2.2.2.2.2.2.2.2.1, t.2.2.2.2.2.2.2.2.2.2.2.2.1, t.2.2.2.2.2.2.2.2.2.2.2.2.2.1, t.2.2.2.2.2.2.2.2.2.2.2.2.2.2⟩
  clear T
  have T := T2
  clear T2
  go_upto_region 14 with fail
  clear bq bb zq
  generalize confR l now sT rT wT = bC
  have x4 := fun o => row_cell (T.out _ (Below.refl _ _)).2.2.2.2.2.2.2.2.2.2.2.1 o
  have x5 := fun o => row_cell (T.out _ (Below.refl _ _)).2.2.2.2.2.1 o
  obtain ⟨wO, hwO⟩ : ∃ x : World, x = w13.alloc (.cells #[.int .i64 k] 3) := ⟨_, rfl⟩
  have bO : Below w13.heap.size w13 wO := by rw [hwO]; exact (Below.refl _ _).alloc (Nat.le_refl _) _
  have cO : wO.heap[w13.heap.size]? = some (.cells #[.int .i64 k] 3 (0, 0)) := by rw [hwO]; exact heap_alloc_new _ _
  have rO : Hid (NuRow 0 wO.heap.size wO (some ⟨w13.heap.size, 0, none⟩) [(k : Int)]) := nu_of cO (Nat.zero_le _) (Array.getElem?_eq_some_iff.1 cO).1 (fun i h => by
    obtain rfl : i = 0 := by simp at h; omega
    rfl)
  have hsi := same_ints r4 (some ⟨w13.heap.size, 0, none⟩) q4 1 [(k : Int)] wO (NuRow.up (T.out _ (Below.refl _ _)).2.2.2.2.2.2.2.2.2.2.2.2.1.1 bO) rO.out (by simp)
  have hto := fun (W : World) (h1 : ChRow 0 W.heap.size W ax m) (h2 : TxRow 0 W.heap.size W r4 v4 [(k : Int)] [⟨(k : Int), 3⟩]) => impl_txnOK ax r4 v4 cx q4 e4 m nr now [(k : Int)] [⟨(k : Int), 3⟩] W h1 HBM.out h2 ⟨by simp, by simp⟩
  simp only [List.length_singleton] at hsi hto
  rw [HX2.out] at hto
  have HSI : Hid _ := hsi
  have HTO : Hid _ := hto
  have BO : Hid _ := bO
  have HWO : Hid _ := hwO
  clear hsi hto bO cO rO hwO
  go_wp2_with fail
  rw [← HWO.out]
  refine Calls.mono HSI.out ?_
  rintro e y1 ⟨rfl, hb1⟩
  have Y1 : Hid (Below w13.heap.size w13 y1) := BO.out.trans (hb1.mono BO.out.size)
  have k4 := fun o => row_cell (T.out _ Y1.out).2.2.2.2.2.2.2.2.2.2.2.1 o
  have k5 := fun o => row_cell (T.out _ Y1.out).2.2.2.2.2.1 o
  clear hb1 x4 x5
  go_wp2_with fail
  refine Calls.mono (HTO.out _ (T.out _ Y1.out).2.2.2.2.2.2.1 (T.out _ Y1.out).2.2.2.2.2.2.2.2.2.2.2.2.1) ?_
  rintro e y2 ⟨rfl, hb2⟩
  have Y2 : Hid (Below w.heap.size w y2) := (T.out _ (Y1.out.trans (hb2.mono Y1.out.size))).2.2.2.1
  clear hb2 k4 k5
  go_wp2_with fail
  go_ret
  exact ⟨by simp, Y2.out⟩
end Go.Proofs.Ytoahbfledamnnaa.G
