/- FnCommit's walk. -/
import Derived.Test.YtoahbfledamnnaaStTxImpl
import Derived.Test.YtoahbfledamnnaaStTxImplRt
import Derived.Test.YtoahbfledamnnaaStTxCommit
import Derived.Test.YtoahbfledamnnaaStSameOf
import Derived.Deep.CutRange
namespace Go.Proofs.Ytoahbfledamnnaa.G
open Go.ChangeShapes Go.WideShapes Go.ChangeAt Go.RowKit
set_option linter.unusedVariables false

theorem ByteRow.far {w w' : World} {a : Option Addr} {n : Nat} (h : ByteRow w.heap.size w a n) (hb : Below w.heap.size w w') : ByteRow w'.heap.size w' a n := by
  rcases h with h | ⟨b, o, e, h1, h2, h3⟩
  · exact .inl h
  · refine .inr ⟨b, o, e, Nat.lt_of_lt_of_le h1 hb.size, Nat.le_refl _, fun i hi => ?_⟩
    obtain ⟨x, hx, e⟩ := h3 i hi
    exact ⟨x, hx, (World.cell?_of_block (w := w) (hb.block b h1)).trans e⟩
/-- What WriteAll of drawn puts leaves: a store of its own variable, an hour, a code. -/
def XIs (V : World) (l : Chs) (now : Int) (u8 u9 u10 : Value) (W : World) : Prop :=
  ∃ (X : Nat) (ps : List Ve) (m : Chs) (nr : Int) (ax : Option Addr) (cx : Nat), u8 = .pointer (some ⟨X, 0, none⟩) ∧ u9 = .int .i64 nr ∧ u10 = .int .i64 0 ∧ putsB ps = true ∧ StIs l now ps m nr ∧ W.heap[X]? = some (.cells #[.slice ax m.length cx, .int .i64 nr] 25 (0, 0)) ∧ ChRow 0 W.heap.size W ax m ∧ Below V.heap.size V W
set_option maxHeartbeats 16000000 in
set_option maxRecDepth 40000 in
theorem fn_commit (n c n2 c2 : Nat) (a a2 : Option Addr) (w : World) (hr : ByteRow w.heap.size w a n) (hr2 : ByteRow w.heap.size w a2 n2) :
    Calls Try.prog 4 #[.slice a n c, .slice a2 n2 c2] w fun e w' => e = .returned (.bool true) ∧ Below w.heap.size w w' := by
  have HA : Hid _ := hr
  have HB : Hid _ := hr2
  clear hr hr2
  by_cases h1 : 1048576 < n
  · have h1' : (1048576 : Int) < n := by omega
    go_enter Try.func4, Try.ntmps4
    go_wp2_with fail
    go_ret
    exact ⟨rfl, Below.refl _ _⟩
  by_cases h2 : 1048576 < n2
  · have h1' : ¬ (1048576 : Int) < n := by omega
    have h2' : (1048576 : Int) < n2 := by omega
    go_enter Try.func4, Try.ntmps4
    go_wp2_with fail
    go_ret
    exact ⟨rfl, Below.refl _ _⟩
  have h1' : ¬ (1048576 : Int) < n := by omega
  have h2' : ¬ (1048576 : Int) < n2 := by omega
  go_enter Try.func4, Try.ntmps4
  go_wp2_with fail
  refine (storeOf_any n c a _ HA.out (by omega)).mono ?_
  rintro e w1 ⟨⟨l, now, v, rfl, o1, s1, n1⟩, b1⟩
  obtain ⟨a1, c1, hv1, r1⟩ := OwnK.chRow o1
  subst hv1
  have hal := storeB_all s1
  have hlen := storeB_bd s1
  have HS : Hid (storeB l now = true) := s1
  have HBD : Hid (ChsBd 1048576 l) := ⟨by have := hal.1; omega, fun x hx => by have := hlen x hx; omega⟩
  have H16 : Hid (l.length = 16) := hal.1
  have R1 : Hid (ChRow 0 w1.heap.size w1 a1 l) := ChRow.wide r1 (Nat.zero_le _) (Nat.le_refl _)
  have B1 : Hid _ := b1
  have z1 := b1.size
  clear o1 s1 r1 b1 hal hlen
  obtain ⟨w2, hw2⟩ : ∃ x : World, x = w1.alloc (.cells #[.slice a1 l.length c1, .int .i64 now] 25) := ⟨_, rfl⟩
  have b2 : Below w1.heap.size w1 w2 := by rw [hw2]; exact (Below.refl _ _).alloc (Nat.le_refl _) _
  have k2 : w2.heap[w1.heap.size]? = some (.cells #[.slice a1 l.length c1, .int .i64 now] 25 (0, 0)) := by rw [hw2]; exact heap_alloc_new _ _
  have zk := (Array.getElem?_eq_some_iff.1 k2).1
  obtain ⟨S, hS⟩ : ∃ S, S = w1.heap.size := ⟨_, rfl⟩
  rw [← hS] at k2 zk
  have T : Hid (∀ W, Below w2.heap.size w2 W → W.heap[S]? = some (.cells #[.slice a1 l.length c1, .int .i64 now] 25 (0, 0)) ∧ ChRow 0 W.heap.size W a1 l ∧ ByteRow W.heap.size W a2 n2 ∧ Below w.heap.size w W) := fun W hW => by
    have h2 : Below w1.heap.size w1 W := b2.trans (hW.mono b2.size)
    have h3 : Below w.heap.size w W := B1.out.trans (h2.mono z1)
    exact ⟨(hW.block _ zk).trans k2, ChRow.up R1.out h2, ByteRow.far HB.out h3, h3⟩
  go_upto_region 4 with fail
  rw [← hw2, ← hS]
  clear hw2 b2 k2 zk hS R1 B1 HA HB z1
  go_wp2_with fail
  refine (at_zero a2 n2 c2 8 _ (T.out _ (Below.refl _ _)).2.2.1 (by omega) (by omega) (by omega)).mono ?_
  rintro e w4 ⟨⟨k8, hk8, rfl⟩, bq⟩
  have zq := bq.size
  have bb : Below w2.heap.size w2 w4 := bq
  have T2 : Hid (∀ W, Below w4.heap.size w4 W → W.heap[S]? = some (.cells #[.slice a1 l.length c1, .int .i64 now] 25 (0, 0)) ∧ ChRow 0 W.heap.size W a1 l ∧ ByteRow W.heap.size W a2 n2 ∧ Below w.heap.size w W) := fun W hW => by
    have hq : Below w2.heap.size w2 W := Below.trans bb (hW.mono (by have h1 := (bb).size; omega))
    have t := T.out W hq
    exact ⟨t.1, t.2.1, t.2.2.1, t.2.2.2⟩
  clear T
  have T := T2
  clear T2
  go_upto_region 5 with fail
  clear bq bb zq
  rw [show (2 : Int) * (k8 : Int) = ((2 * k8 : Nat) : Int) by omega]
  obtain ⟨k, hkk⟩ : ∃ k : Nat, k = 2 * k8 := ⟨_, rfl⟩
  rw [← hkk]
  have hk : k < 16 := by omega
  have hke : (k : Int) % 2 = 0 := by omega
  clear hkk hk8
  have HB1 : Hid (beginN l now = now) := by unfold Hid beginN; rw [if_pos HS.out]
  have HB2 : Hid (badN l now = 0) := by unfold Hid badN; rw [if_pos HS.out]
  have x1 := fun o => row_cell (T.out _ (Below.refl _ _)).1 o
  go_wp2_with fail
  refine (impl_begin a1 c1 l now _ (T.out _ (Below.refl _ _)).2.1 HBD.out).mono ?_
  rintro e wB ⟨⟨rb, cb, wb, db, rfl⟩, bq⟩
  rw [HB1.out, HB2.out]
  have zq := bq.size
  clear x1
  obtain ⟨vT1, hvT1⟩ : ∃ x : World, x = wB.alloc (.cells #[.int .i64 now, .slice rb 0 cb, .slice wb 0 db] 30) := ⟨_, rfl⟩
  have bvT1 : Below wB.heap.size wB vT1 := by rw [hvT1]; exact (Below.refl _ _).alloc (Nat.le_refl _) _
  have cvT1 : vT1.heap[wB.heap.size]? = some (.cells #[.int .i64 now, .slice rb 0 cb, .slice wb 0 db] 30 (0, 0)) := by rw [hvT1]; exact heap_alloc_new _ _
  have zvT1 := (Array.getElem?_eq_some_iff.1 cvT1).1
  obtain ⟨T1, hT1⟩ : ∃ T1, T1 = wB.heap.size := ⟨_, rfl⟩
  rw [← hT1] at cvT1 zvT1
  have bb : Below w4.heap.size w4 vT1 := bq.trans (bvT1.mono zq)
  have T2 : Hid (∀ W, Below vT1.heap.size vT1 W → W.heap[S]? = some (.cells #[.slice a1 l.length c1, .int .i64 now] 25 (0, 0)) ∧ ChRow 0 W.heap.size W a1 l ∧ ByteRow W.heap.size W a2 n2 ∧ Below w.heap.size w W ∧ W.heap[T1]? = some (.cells #[.int .i64 now, .slice rb 0 cb, .slice wb 0 db] 30 (0, 0))) := fun W hW => by
    have hq : Below w4.heap.size w4 W := Below.trans bb (hW.mono (by have h1 := (bb).size; omega))
    have t := T.out W hq
    exact ⟨t.1, t.2.1, t.2.2.1, t.2.2.2, (hW.block _ zvT1).trans cvT1⟩
  clear T
  have T := T2
  clear T2
  go_upto_region 6 with fail
  rw [← hvT1, ← hT1]
  clear hvT1 bvT1 cvT1 zvT1 hT1 bb bq zq
  obtain ⟨zz, hzz⟩ : ∃ z, z = readV (chAt l k) now := ⟨_, rfl⟩
  have hkI : (0 : Int) ≤ (k : Int) ∧ (k : Int) < 16 := ⟨by omega, by omega⟩
  have HIN : Hid (inS (k : Int) 0 15 = true) := (inS_iff _ _ _).2 ⟨by omega, by omega⟩
  have HX0 : Hid (txnB l now now [] [] = true) := tx_none HS.out (by omega) (by omega)
  have HX1 : Hid (txnB l now now [(k : Int)] [] = true) := tx_read HS.out (by omega) (by omega) hkI
  have HY0 : Hid (RtIs l now now [] [] k now [(k : Int)] [] zz 0) := .inr (.inr ⟨HX0.out, HIN.out, rfl, (rdK_one _).symm, rfl, by rw [rdV_none, Int.toNat_natCast, hzz], rfl⟩)
  have HVZ : Hid (zz = 0 ∨ valB (k : Int) zz = true) := by
    have h1 := chain_of HS.out hkI
    rw [Int.toNat_natCast] at h1
    rw [Hid, hzz]; exact readV_val h1 _
  clear hzz
  have hq := fun (W : World) (h1 : ChRow 0 W.heap.size W a1 l) (h2 : TxRow 0 W.heap.size W rb wb [] []) => impl_rt a1 rb wb c1 cb db l now now [] [] k now [(k : Int)] [] zz 0 W h1 HBD.out h2 ⟨by simp, by simp⟩ HY0.out
  simp only [List.length_nil, List.length_singleton] at hq
  have x1 := fun o => row_cell (T.out _ (Below.refl _ _)).1 o
  have x2 := fun o => row_cell (T.out _ (Below.refl _ _)).2.2.2.2 o
  go_wp2_with fail
  refine (hq _ (T.out _ (Below.refl _ _)).2.1 ⟨.inl rfl, .inl rfl⟩).mono ?_
  rintro e w6 ⟨r2, q2, v2, e2, rfl, oq, bq⟩
  have OT2 : Hid (TxRow 0 w6.heap.size w6 r2 v2 [(k : Int)] []) := TxRow.wide oq.row (Nat.zero_le _) (Nat.le_refl _)
  have zq := bq.size
  clear x1 x2
  obtain ⟨vT2, hvT2⟩ : ∃ x : World, x = w6.alloc (.cells #[.int .i64 now, .slice r2 1 q2, .slice v2 0 e2] 30) := ⟨_, rfl⟩
  have bvT2 : Below w6.heap.size w6 vT2 := by rw [hvT2]; exact (Below.refl _ _).alloc (Nat.le_refl _) _
  have cvT2 : vT2.heap[w6.heap.size]? = some (.cells #[.int .i64 now, .slice r2 1 q2, .slice v2 0 e2] 30 (0, 0)) := by rw [hvT2]; exact heap_alloc_new _ _
  have zvT2 := (Array.getElem?_eq_some_iff.1 cvT2).1
  obtain ⟨T2, hT2⟩ : ∃ T2, T2 = w6.heap.size := ⟨_, rfl⟩
  rw [← hT2] at cvT2 zvT2
  have bb : Below vT1.heap.size vT1 vT2 := bq.trans (bvT2.mono zq)
  have T2 : Hid (∀ W, Below vT2.heap.size vT2 W → W.heap[S]? = some (.cells #[.slice a1 l.length c1, .int .i64 now] 25 (0, 0)) ∧ ChRow 0 W.heap.size W a1 l ∧ ByteRow W.heap.size W a2 n2 ∧ Below w.heap.size w W ∧ W.heap[T1]? = some (.cells #[.int .i64 now, .slice rb 0 cb, .slice wb 0 db] 30 (0, 0)) ∧ W.heap[T2]? = some (.cells #[.int .i64 now, .slice r2 1 q2, .slice v2 0 e2] 30 (0, 0)) ∧ TxRow 0 W.heap.size W r2 v2 [(k : Int)] []) := fun W hW => by
    have hq : Below vT1.heap.size vT1 W := Below.trans bb (hW.mono (by have h1 := (bb).size; omega))
    have t := T.out W hq
    exact ⟨t.1, t.2.1, t.2.2.1, t.2.2.2.1, t.2.2.2.2, (hW.block _ zvT2).trans cvT2, TxRow.up OT2.out ((bvT2).trans (hW.mono (bvT2).size))⟩
  clear T
  have T := T2
  clear T2
  go_upto_region 7 with fail
  rw [← hvT2, ← hT2]
  clear hvT2 bvT2 cvT2 zvT2 hT2 bb bq zq
  clear hq oq OT2
  by_cases hbig : 2147483647 ≤ zz
  · have QF : Hid (Below w.heap.size w vT2) := (T.out _ (Below.refl _ _)).2.2.2.1
    clear T
    go_wp2_with fail
    go_ret
    exact ⟨by simp, QF.out⟩
  have hlt : zz < 2147483647 := by omega
  have hlow : -2147483648 ≤ zz := by
    rcases HVZ.out with h | h
    · omega
    · unfold valB at h
      rw [if_neg (by omega)] at h
      simp only [intB, decide_eq_true_eq] at h
      exact h.1
  have HPZ : Hid (putB (k : Int) (zz + 1) = true) := put_next hkI hke HVZ.out hlt
  obtain ⟨z1, hz1⟩ : ∃ z : Int, z = zz + 1 := ⟨_, rfl⟩
  rw [← hz1] at HPZ
  have HX2 : Hid (txnB l now now [(k : Int)] [⟨(k : Int), z1⟩] = true) := tx_both HS.out (by omega) (by omega) hkI HPZ.out
  have HY1 : Hid (WtIs l now now [(k : Int)] [] k z1 now [(k : Int)] [⟨(k : Int), z1⟩] 0) := .inr (.inr (.inr ⟨HX1.out, HPZ.out, by simp, rfl, rfl, rfl, rfl⟩))
  obtain ⟨m, hm⟩ : ∃ m : Chs, m = wrAll ((now : Int) + 1) l [⟨(k : Int), z1⟩] := ⟨_, rfl⟩
  obtain ⟨n9, hn9⟩ : ∃ z : Int, z = (now : Int) + 1 := ⟨_, rfl⟩
  have HC1 : Hid (CtIs l now now [(k : Int)] [⟨(k : Int), z1⟩] m n9 n9 0) := by
    rw [hm, hn9]; exact .inr ⟨HX2.out, co_first HS.out hkI (by omega)⟩
  have hst : StIs l now [⟨(k : Int), z1⟩] m n9 := .inr ⟨by simp, hm, hn9⟩
  have HSM : Hid (storeB m n9 = true) := hst.ok HS.out (puts_one' HPZ.out) (by omega)
  have HBM : Hid (ChsBd 1048576 m) := by
    have := store_small HSM.out
    exact ⟨by have := this.1; omega, fun x hx => by have := this.2 x hx; omega⟩
  have HX3 : Hid (txnB m n9 now [(k : Int)] [⟨(k : Int), z1⟩] = true) := tx_both HSM.out (by omega) (by omega) hkI HPZ.out
  have HX4 : Hid (txnB m n9 now [(k : Int)] [] = true) := tx_read HSM.out (by omega) (by omega) hkI
  have HC2 : Hid (CtIs m n9 now [(k : Int)] [⟨(k : Int), z1⟩] m n9 0 16) := by
    rw [hn9] at HX3 ⊢; rw [hm] at HX3 ⊢; exact .inr ⟨HX3.out, co_second HS.out hkI HPZ.out⟩
  have HC3 : Hid (CtIs m n9 now [(k : Int)] [] m n9 now 0) := .inr ⟨HX4.out, co_reads _ _ _ _⟩
  have HASK : Hid (askN m n9 k n9 = 0) := ask_ok2 HSM.out (by omega) (by omega) hk
  have HRR : Hid (readR m n9 k n9 = z1) := by
    rw [Hid, readR, if_pos HASK.out, hm, hn9]; exact rd_new HS.out hkI HPZ.out
  have HN9 : Hid (n9 = (now : Int) + 1) := hn9
  have hn9' : n9 ≤ 14 ∧ 0 ≤ n9 := by omega
  have HZ1 : Hid (z1 = zz + 1) := hz1
  clear hm hn9 hst hz1
  go_upto_region 9 with fail
  have hq := fun (W : World) (h1 : ChRow 0 W.heap.size W a1 l) (h2 : TxRow 0 W.heap.size W r2 v2 [(k : Int)] []) => impl_wt a1 r2 v2 c1 q2 e2 l now now [(k : Int)] [] k z1 now [(k : Int)] [⟨(k : Int), z1⟩] 0 W h1 HBD.out h2 ⟨by simp, by simp⟩ HY1.out
  rw [HZ1.out] at hq
  simp only [List.length_nil, List.length_singleton] at hq
  have x1 := fun o => row_cell (T.out _ (Below.refl _ _)).1 o
  have x2 := fun o => row_cell (T.out _ (Below.refl _ _)).2.2.2.2.2.1 o
  go_wp2_with fail
  refine (hq _ (T.out _ (Below.refl _ _)).2.1 (T.out _ (Below.refl _ _)).2.2.2.2.2.2).mono ?_
  rintro e w9 ⟨r3, q3, v3, e3, rfl, oq, bq⟩
  have OT3 : Hid (TxRow 0 w9.heap.size w9 r3 v3 [(k : Int)] [⟨(k : Int), z1⟩]) := by rw [HZ1.out]; exact TxRow.wide oq.row (Nat.zero_le _) (Nat.le_refl _)
  have zq := bq.size
  clear x1 x2
  obtain ⟨vT3, hvT3⟩ : ∃ x : World, x = w9.alloc (.cells #[.int .i64 now, .slice r3 1 q3, .slice v3 1 e3] 30) := ⟨_, rfl⟩
  have bvT3 : Below w9.heap.size w9 vT3 := by rw [hvT3]; exact (Below.refl _ _).alloc (Nat.le_refl _) _
  have cvT3 : vT3.heap[w9.heap.size]? = some (.cells #[.int .i64 now, .slice r3 1 q3, .slice v3 1 e3] 30 (0, 0)) := by rw [hvT3]; exact heap_alloc_new _ _
  have zvT3 := (Array.getElem?_eq_some_iff.1 cvT3).1
  obtain ⟨T3, hT3⟩ : ∃ T3, T3 = w9.heap.size := ⟨_, rfl⟩
  rw [← hT3] at cvT3 zvT3
  have bb : Below vT2.heap.size vT2 vT3 := bq.trans (bvT3.mono zq)
  have T2 : Hid (∀ W, Below vT3.heap.size vT3 W → W.heap[S]? = some (.cells #[.slice a1 l.length c1, .int .i64 now] 25 (0, 0)) ∧ ChRow 0 W.heap.size W a1 l ∧ ByteRow W.heap.size W a2 n2 ∧ Below w.heap.size w W ∧ W.heap[T1]? = some (.cells #[.int .i64 now, .slice rb 0 cb, .slice wb 0 db] 30 (0, 0)) ∧ W.heap[T2]? = some (.cells #[.int .i64 now, .slice r2 1 q2, .slice v2 0 e2] 30 (0, 0)) ∧ TxRow 0 W.heap.size W r2 v2 [(k : Int)] [] ∧ W.heap[T3]? = some (.cells #[.int .i64 now, .slice r3 1 q3, .slice v3 1 e3] 30 (0, 0)) ∧ TxRow 0 W.heap.size W r3 v3 [(k : Int)] [⟨(k : Int), z1⟩]) := fun W hW => by
    have hq : Below vT2.heap.size vT2 W := Below.trans bb (hW.mono (by have h1 := (bb).size; omega))
    have t := T.out W hq
    exact ⟨t.1, t.2.1, t.2.2.1, t.2.2.2.1, t.2.2.2.2.1, t.2.2.2.2.2.1, t.2.2.2.2.2.2, (hW.block _ zvT3).trans cvT3, TxRow.up OT3.out ((bvT3).trans (hW.mono (bvT3).size))⟩
  clear T
  have T := T2
  clear T2
  go_upto_region 10 with fail
  rw [← hvT3, ← hT3]
  clear hvT3 bvT3 cvT3 zvT3 hT3 bb bq zq
  clear hq oq OT3
  have hq := fun (W : World) (h1 : ChRow 0 W.heap.size W a1 l) (h2 : TxRow 0 W.heap.size W r3 v3 [(k : Int)] [⟨(k : Int), z1⟩]) => impl_ct a1 r3 v3 c1 q3 e3 l now now [(k : Int)] [⟨(k : Int), z1⟩] m n9 n9 0 W h1 HBD.out h2 ⟨by simp, by simp⟩ HC1.out
  simp only [List.length_singleton] at hq
  have x1 := fun o => row_cell (T.out _ (Below.refl _ _)).1 o
  have x2 := fun o => row_cell (T.out _ (Below.refl _ _)).2.2.2.2.2.2.2.1 o
  go_wp2_with fail
  refine (hq _ (T.out _ (Below.refl _ _)).2.1 (T.out _ (Below.refl _ _)).2.2.2.2.2.2.2.2).mono ?_
  rintro e w10 ⟨ax, cx, bx, rfl, oq, bq⟩
  have OX : Hid (ChRow 0 w10.heap.size w10 ax m) := ChRow.wide (StHas.row oq) (Nat.zero_le _) (Nat.le_refl _)
  have zq := bq.size
  clear x1 x2
  obtain ⟨vX, hvX⟩ : ∃ x : World, x = w10.alloc (.cells #[.slice ax (List.length m) cx, .int .i64 n9] 25) := ⟨_, rfl⟩
  have bvX : Below w10.heap.size w10 vX := by rw [hvX]; exact (Below.refl _ _).alloc (Nat.le_refl _) _
  have cvX : vX.heap[w10.heap.size]? = some (.cells #[.slice ax (List.length m) cx, .int .i64 n9] 25 (0, 0)) := by rw [hvX]; exact heap_alloc_new _ _
  have zvX := (Array.getElem?_eq_some_iff.1 cvX).1
  obtain ⟨X, hX⟩ : ∃ X, X = w10.heap.size := ⟨_, rfl⟩
  rw [← hX] at cvX zvX
  have bb : Below vT3.heap.size vT3 vX := bq.trans (bvX.mono zq)
  have T2 : Hid (∀ W, Below vX.heap.size vX W → W.heap[S]? = some (.cells #[.slice a1 l.length c1, .int .i64 now] 25 (0, 0)) ∧ ChRow 0 W.heap.size W a1 l ∧ ByteRow W.heap.size W a2 n2 ∧ Below w.heap.size w W ∧ W.heap[T1]? = some (.cells #[.int .i64 now, .slice rb 0 cb, .slice wb 0 db] 30 (0, 0)) ∧ W.heap[T2]? = some (.cells #[.int .i64 now, .slice r2 1 q2, .slice v2 0 e2] 30 (0, 0)) ∧ TxRow 0 W.heap.size W r2 v2 [(k : Int)] [] ∧ W.heap[T3]? = some (.cells #[.int .i64 now, .slice r3 1 q3, .slice v3 1 e3] 30 (0, 0)) ∧ TxRow 0 W.heap.size W r3 v3 [(k : Int)] [⟨(k : Int), z1⟩] ∧ W.heap[X]? = some (.cells #[.slice ax (List.length m) cx, .int .i64 n9] 25 (0, 0)) ∧ ChRow 0 W.heap.size W ax m) := fun W hW => by
    have hq : Below vT3.heap.size vT3 W := Below.trans bb (hW.mono (by have h1 := (bb).size; omega))
    have t := T.out W hq
    exact ⟨t.1, t.2.1, t.2.2.1, t.2.2.2.1, t.2.2.2.2.1, t.2.2.2.2.2.1, t.2.2.2.2.2.2.1, t.2.2.2.2.2.2.2.1, t.2.2.2.2.2.2.2.2, (hW.block _ zvX).trans cvX, ChRow.up OX.out ((bvX).trans (hW.mono (bvX).size))⟩
  clear T
  have T := T2
  clear T2
  go_upto_region 11 with fail
  rw [← hvX, ← hX]
  clear hvX bvX cvX zvX hX bb bq zq
  clear hq oq OX
  have hq := fun (W : World) (h1 : ChRow 0 W.heap.size W ax m) (h2 : TxRow 0 W.heap.size W r3 v3 [(k : Int)] [⟨(k : Int), z1⟩]) => impl_ct ax r3 v3 cx q3 e3 m n9 now [(k : Int)] [⟨(k : Int), z1⟩] m n9 0 16 W h1 HBM.out h2 ⟨by simp, by simp⟩ HC2.out
  simp only [List.length_singleton] at hq
  have x1 := fun o => row_cell (T.out _ (Below.refl _ _)).2.2.2.2.2.2.2.2.2.1 o
  have x2 := fun o => row_cell (T.out _ (Below.refl _ _)).2.2.2.2.2.2.2.1 o
  go_wp2_with fail
  refine (hq _ (T.out _ (Below.refl _ _)).2.2.2.2.2.2.2.2.2.2 (T.out _ (Below.refl _ _)).2.2.2.2.2.2.2.2.1).mono ?_
  rintro e w11 ⟨ay, cy, bY, rfl, oq, bq⟩
  have OY : Hid (ChRow 0 w11.heap.size w11 ay m) := ChRow.wide (StHas.row oq) (Nat.zero_le _) (Nat.le_refl _)
  have zq := bq.size
  clear x1 x2
  obtain ⟨vY, hvY⟩ : ∃ x : World, x = w11.alloc (.cells #[.slice ay (List.length m) cy, .int .i64 n9] 25) := ⟨_, rfl⟩
  have bvY : Below w11.heap.size w11 vY := by rw [hvY]; exact (Below.refl _ _).alloc (Nat.le_refl _) _
  have cvY : vY.heap[w11.heap.size]? = some (.cells #[.slice ay (List.length m) cy, .int .i64 n9] 25 (0, 0)) := by rw [hvY]; exact heap_alloc_new _ _
  have zvY := (Array.getElem?_eq_some_iff.1 cvY).1
  obtain ⟨Y, hY⟩ : ∃ Y, Y = w11.heap.size := ⟨_, rfl⟩
  rw [← hY] at cvY zvY
  have bb : Below vX.heap.size vX vY := bq.trans (bvY.mono zq)
  have T2 : Hid (∀ W, Below vY.heap.size vY W → W.heap[S]? = some (.cells #[.slice a1 l.length c1, .int .i64 now] 25 (0, 0)) ∧ ChRow 0 W.heap.size W a1 l ∧ ByteRow W.heap.size W a2 n2 ∧ Below w.heap.size w W ∧ W.heap[T1]? = some (.cells #[.int .i64 now, .slice rb 0 cb, .slice wb 0 db] 30 (0, 0)) ∧ W.heap[T2]? = some (.cells #[.int .i64 now, .slice r2 1 q2, .slice v2 0 e2] 30 (0, 0)) ∧ TxRow 0 W.heap.size W r2 v2 [(k : Int)] [] ∧ W.heap[T3]? = some (.cells #[.int .i64 now, .slice r3 1 q3, .slice v3 1 e3] 30 (0, 0)) ∧ TxRow 0 W.heap.size W r3 v3 [(k : Int)] [⟨(k : Int), z1⟩] ∧ W.heap[X]? = some (.cells #[.slice ax (List.length m) cx, .int .i64 n9] 25 (0, 0)) ∧ ChRow 0 W.heap.size W ax m ∧ W.heap[Y]? = some (.cells #[.slice ay (List.length m) cy, .int .i64 n9] 25 (0, 0)) ∧ ChRow 0 W.heap.size W ay m) := fun W hW => by
    have hq : Below vX.heap.size vX W := Below.trans bb (hW.mono (by have h1 := (bb).size; omega))
    have t := T.out W hq
    exact ⟨t.1, t.2.1, t.2.2.1, t.2.2.2.1, t.2.2.2.2.1, t.2.2.2.2.2.1, t.2.2.2.2.2.2.1, t.2.2.2.2.2.2.2.1, t.2.2.2.2.2.2.2.2.1, t.2.2.2.2.2.2.2.2.2.1, t.2.2.2.2.2.2.2.2.2.2, (hW.block _ zvY).trans cvY, ChRow.up OY.out ((bvY).trans (hW.mono (bvY).size))⟩
  clear T
  have T := T2
  clear T2
  go_upto_region 12 with fail
  rw [← hvY, ← hY]
  clear hvY bvY cvY zvY hY bb bq zq
  clear hq oq OY
  have hq := fun (W : World) (h1 : ChRow 0 W.heap.size W ax m) (h2 : TxRow 0 W.heap.size W r2 v2 [(k : Int)] []) => impl_ct ax r2 v2 cx q2 e2 m n9 now [(k : Int)] [] m n9 now 0 W h1 HBM.out h2 ⟨by simp, by simp⟩ HC3.out
  simp only [List.length_nil, List.length_singleton] at hq
  have x1 := fun o => row_cell (T.out _ (Below.refl _ _)).2.2.2.2.2.2.2.2.2.1 o
  have x2 := fun o => row_cell (T.out _ (Below.refl _ _)).2.2.2.2.2.1 o
  go_wp2_with fail
  refine (hq _ (T.out _ (Below.refl _ _)).2.2.2.2.2.2.2.2.2.2.1 (T.out _ (Below.refl _ _)).2.2.2.2.2.2.1).mono ?_
  rintro e w12 ⟨az, cz, bZ, rfl, oq, bq⟩
  have OZ : Hid (ChRow 0 w12.heap.size w12 az m) := ChRow.wide (StHas.row oq) (Nat.zero_le _) (Nat.le_refl _)
  have zq := bq.size
  clear x1 x2
  obtain ⟨vZ, hvZ⟩ : ∃ x : World, x = w12.alloc (.cells #[.slice az (List.length m) cz, .int .i64 n9] 25) := ⟨_, rfl⟩
  have bvZ : Below w12.heap.size w12 vZ := by rw [hvZ]; exact (Below.refl _ _).alloc (Nat.le_refl _) _
  have cvZ : vZ.heap[w12.heap.size]? = some (.cells #[.slice az (List.length m) cz, .int .i64 n9] 25 (0, 0)) := by rw [hvZ]; exact heap_alloc_new _ _
  have zvZ := (Array.getElem?_eq_some_iff.1 cvZ).1
  obtain ⟨Z, hZ⟩ : ∃ Z, Z = w12.heap.size := ⟨_, rfl⟩
  rw [← hZ] at cvZ zvZ
  have bb : Below vY.heap.size vY vZ := bq.trans (bvZ.mono zq)
  have T2 : Hid (∀ W, Below vZ.heap.size vZ W → W.heap[S]? = some (.cells #[.slice a1 l.length c1, .int .i64 now] 25 (0, 0)) ∧ ChRow 0 W.heap.size W a1 l ∧ ByteRow W.heap.size W a2 n2 ∧ Below w.heap.size w W ∧ W.heap[T1]? = some (.cells #[.int .i64 now, .slice rb 0 cb, .slice wb 0 db] 30 (0, 0)) ∧ W.heap[T2]? = some (.cells #[.int .i64 now, .slice r2 1 q2, .slice v2 0 e2] 30 (0, 0)) ∧ TxRow 0 W.heap.size W r2 v2 [(k : Int)] [] ∧ W.heap[T3]? = some (.cells #[.int .i64 now, .slice r3 1 q3, .slice v3 1 e3] 30 (0, 0)) ∧ TxRow 0 W.heap.size W r3 v3 [(k : Int)] [⟨(k : Int), z1⟩] ∧ W.heap[X]? = some (.cells #[.slice ax (List.length m) cx, .int .i64 n9] 25 (0, 0)) ∧ ChRow 0 W.heap.size W ax m ∧ W.heap[Y]? = some (.cells #[.slice ay (List.length m) cy, .int .i64 n9] 25 (0, 0)) ∧ ChRow 0 W.heap.size W ay m ∧ W.heap[Z]? = some (.cells #[.slice az (List.length m) cz, .int .i64 n9] 25 (0, 0)) ∧ ChRow 0 W.heap.size W az m) := fun W hW => by
    have hq : Below vY.heap.size vY W := Below.trans bb (hW.mono (by have h1 := (bb).size; omega))
    have t := T.out W hq
    exact ⟨t.1, t.2.1, t.2.2.1, t.2.2.2.1, t.2.2.2.2.1, t.2.2.2.2.2.1, t.2.2.2.2.2.2.1, t.2.2.2.2.2.2.2.1, t.2.2.2.2.2.2.2.2.1, t.2.2.2.2.2.2.2.2.2.1, t.2.2.2.2.2.2.2.2.2.2.1, t.2.2.2.2.2.2.2.2.2.2.2.1, t.2.2.2.2.2.2.2.2.2.2.2.2, (hW.block _ zvZ).trans cvZ, ChRow.up OZ.out ((bvZ).trans (hW.mono (bvZ).size))⟩
  clear T
  have T := T2
  clear T2
  go_upto_region 13 with fail
  rw [← hvZ, ← hZ]
  clear hvZ bvZ cvZ zvZ hZ bb bq zq
  clear hq oq OZ
  have x1 := fun o => row_cell (T.out _ (Below.refl _ _)).2.2.2.2.2.2.2.2.2.1 o
  go_wp2_with fail
  refine (impl_readAt ax cx m n9 k n9 _ (T.out _ (Below.refl _ _)).2.2.2.2.2.2.2.2.2.2.1 HBM.out).mono ?_
  rintro e w13 ⟨rfl, bq⟩
  rw [HRR.out, HASK.out]
  have zq := bq.size
  clear x1
  have bb : Below vZ.heap.size vZ w13 := bq
  have T2 : Hid (∀ W, Below w13.heap.size w13 W → W.heap[S]? = some (.cells #[.slice a1 l.length c1, .int .i64 now] 25 (0, 0)) ∧ ChRow 0 W.heap.size W a1 l ∧ ByteRow W.heap.size W a2 n2 ∧ Below w.heap.size w W ∧ W.heap[T1]? = some (.cells #[.int .i64 now, .slice rb 0 cb, .slice wb 0 db] 30 (0, 0)) ∧ W.heap[T2]? = some (.cells #[.int .i64 now, .slice r2 1 q2, .slice v2 0 e2] 30 (0, 0)) ∧ TxRow 0 W.heap.size W r2 v2 [(k : Int)] [] ∧ W.heap[T3]? = some (.cells #[.int .i64 now, .slice r3 1 q3, .slice v3 1 e3] 30 (0, 0)) ∧ TxRow 0 W.heap.size W r3 v3 [(k : Int)] [⟨(k : Int), z1⟩] ∧ W.heap[X]? = some (.cells #[.slice ax (List.length m) cx, .int .i64 n9] 25 (0, 0)) ∧ ChRow 0 W.heap.size W ax m ∧ W.heap[Y]? = some (.cells #[.slice ay (List.length m) cy, .int .i64 n9] 25 (0, 0)) ∧ ChRow 0 W.heap.size W ay m ∧ W.heap[Z]? = some (.cells #[.slice az (List.length m) cz, .int .i64 n9] 25 (0, 0)) ∧ ChRow 0 W.heap.size W az m) := fun W hW => by
    have hq : Below vZ.heap.size vZ W := Below.trans bb (hW.mono (by have h1 := (bb).size; omega))
    have t := T.out W hq
    exact ⟨t.1, t.2.1, t.2.2.1, t.2.2.2.1, t.2.2.2.2.1, t.2.2.2.2.2.1, t.2.2.2.2.2.2.1, t.2.2.2.2.2.2.2.1, t.2.2.2.2.2.2.2.2.1, t.2.2.2.2.2.2.2.2.2.1, t.2.2.2.2.2.2.2.2.2.2.1, t.2.2.2.2.2.2.2.2.2.2.2.1, t.2.2.2.2.2.2.2.2.2.2.2.2.1, t.2.2.2.2.2.2.2.2.2.2.2.2.2.1, t.2.2.2.2.2.2.2.2.2.2.2.2.2.2⟩
  clear T
  have T := T2
  clear T2
  go_upto_region 14 with fail
  clear bq bb zq
  have x1 := fun o => row_cell (T.out _ (Below.refl _ _)).1 o
  go_wp2_with fail
  refine (txnOf_any n2 c2 a2 a1 c1 l now _ (T.out _ (Below.refl _ _)).2.2.1 (by omega) (T.out _ (Below.refl _ _)).2.1 HS.out (by omega)).mono ?_
  rintro e wT1 ⟨⟨sT, rT, wT, raT, rqT, waT, wqT, rfl, hT1, hT2, hT3⟩, bq⟩
  have OT : Hid (TxRow 0 wT1.heap.size wT1 raT waT rT wT) := hT1
  have HTX : Hid (txnB l now sT rT wT = true) := hT2
  have zq := bq.size
  clear x1
  obtain ⟨vTA, hvTA⟩ : ∃ x : World, x = wT1.alloc (.cells #[.int .i64 sT, .slice raT rT.length rqT, .slice waT wT.length wqT] 30) := ⟨_, rfl⟩
  have bvTA : Below wT1.heap.size wT1 vTA := by rw [hvTA]; exact (Below.refl _ _).alloc (Nat.le_refl _) _
  have cvTA : vTA.heap[wT1.heap.size]? = some (.cells #[.int .i64 sT, .slice raT rT.length rqT, .slice waT wT.length wqT] 30 (0, 0)) := by rw [hvTA]; exact heap_alloc_new _ _
  have zvTA := (Array.getElem?_eq_some_iff.1 cvTA).1
  obtain ⟨TA, hTA⟩ : ∃ TA, TA = wT1.heap.size := ⟨_, rfl⟩
  rw [← hTA] at cvTA zvTA
  have bb : Below w13.heap.size w13 vTA := bq.trans (bvTA.mono zq)
  have T2 : Hid (∀ W, Below vTA.heap.size vTA W → W.heap[S]? = some (.cells #[.slice a1 l.length c1, .int .i64 now] 25 (0, 0)) ∧ ChRow 0 W.heap.size W a1 l ∧ ByteRow W.heap.size W a2 n2 ∧ Below w.heap.size w W ∧ W.heap[T1]? = some (.cells #[.int .i64 now, .slice rb 0 cb, .slice wb 0 db] 30 (0, 0)) ∧ W.heap[T2]? = some (.cells #[.int .i64 now, .slice r2 1 q2, .slice v2 0 e2] 30 (0, 0)) ∧ TxRow 0 W.heap.size W r2 v2 [(k : Int)] [] ∧ W.heap[T3]? = some (.cells #[.int .i64 now, .slice r3 1 q3, .slice v3 1 e3] 30 (0, 0)) ∧ TxRow 0 W.heap.size W r3 v3 [(k : Int)] [⟨(k : Int), z1⟩] ∧ W.heap[X]? = some (.cells #[.slice ax (List.length m) cx, .int .i64 n9] 25 (0, 0)) ∧ ChRow 0 W.heap.size W ax m ∧ W.heap[Y]? = some (.cells #[.slice ay (List.length m) cy, .int .i64 n9] 25 (0, 0)) ∧ ChRow 0 W.heap.size W ay m ∧ W.heap[Z]? = some (.cells #[.slice az (List.length m) cz, .int .i64 n9] 25 (0, 0)) ∧ ChRow 0 W.heap.size W az m ∧ W.heap[TA]? = some (.cells #[.int .i64 sT, .slice raT rT.length rqT, .slice waT wT.length wqT] 30 (0, 0)) ∧ TxRow 0 W.heap.size W raT waT rT wT) := fun W hW => by
    have hq : Below w13.heap.size w13 W := Below.trans bb (hW.mono (by have h1 := (bb).size; omega))
    have t := T.out W hq
    exact ⟨t.1, t.2.1, t.2.2.1, t.2.2.2.1, t.2.2.2.2.1, t.2.2.2.2.2.1, t.2.2.2.2.2.2.1, t.2.2.2.2.2.2.2.1, t.2.2.2.2.2.2.2.2.1, t.2.2.2.2.2.2.2.2.2.1, t.2.2.2.2.2.2.2.2.2.2.1, t.2.2.2.2.2.2.2.2.2.2.2.1, t.2.2.2.2.2.2.2.2.2.2.2.2.1, t.2.2.2.2.2.2.2.2.2.2.2.2.2.1, t.2.2.2.2.2.2.2.2.2.2.2.2.2.2, (hW.block _ zvTA).trans cvTA, TxRow.up OT.out ((bvTA).trans (hW.mono (bvTA).size))⟩
  clear T
  have T := T2
  clear T2
  go_upto_region 15 with fail
  rw [← hvTA, ← hTA]
  clear hvTA bvTA cvTA zvTA hTA bb bq zq
  clear OT hT1 hT2
  have HTB : Hid (TxBd 1048576 rT wT) := ⟨by have := readsB_len (txnB_all HTX.out).2.2.2; omega, by have := (putsB_all (txnB_all HTX.out).2.2.1).1; omega⟩
  obtain ⟨m7, nr7, h7, cd7, hct, hbd7, _⟩ := ctIs l now sT rT wT
  have HCT : Hid (CtIs l now sT rT wT m7 nr7 h7 cd7) := hct
  have HB7 : Hid (ChsBd 1048576 m7) := hbd7
  clear hct hbd7
  have hq := fun (W : World) (h1 : ChRow 0 W.heap.size W a1 l) (h2 : TxRow 0 W.heap.size W raT waT rT wT) => impl_ct a1 raT waT c1 rqT wqT l now sT rT wT m7 nr7 h7 cd7 W h1 HBD.out h2 HTB.out HCT.out
  have x1 := fun o => row_cell (T.out _ (Below.refl _ _)).1 o
  have x2 := fun o => row_cell (T.out _ (Below.refl _ _)).2.2.2.2.2.2.2.2.2.2.2.2.2.2.2.1 o
  go_wp2_with fail
  refine (hq _ (T.out _ (Below.refl _ _)).2.1 (T.out _ (Below.refl _ _)).2.2.2.2.2.2.2.2.2.2.2.2.2.2.2.2).mono ?_
  rintro e w15 ⟨au, cu, bU, rfl, oq, bq⟩
  have OU : Hid (ChRow 0 w15.heap.size w15 au m7) := ChRow.wide (StHas.row oq) (Nat.zero_le _) (Nat.le_refl _)
  have zq := bq.size
  clear x1 x2
  obtain ⟨vU, hvU⟩ : ∃ x : World, x = w15.alloc (.cells #[.slice au (List.length m7) cu, .int .i64 nr7] 25) := ⟨_, rfl⟩
  have bvU : Below w15.heap.size w15 vU := by rw [hvU]; exact (Below.refl _ _).alloc (Nat.le_refl _) _
  have cvU : vU.heap[w15.heap.size]? = some (.cells #[.slice au (List.length m7) cu, .int .i64 nr7] 25 (0, 0)) := by rw [hvU]; exact heap_alloc_new _ _
  have zvU := (Array.getElem?_eq_some_iff.1 cvU).1
  obtain ⟨U, hU⟩ : ∃ U, U = w15.heap.size := ⟨_, rfl⟩
  rw [← hU] at cvU zvU
  have bb : Below vTA.heap.size vTA vU := bq.trans (bvU.mono zq)
  have T2 : Hid (∀ W, Below vU.heap.size vU W → W.heap[S]? = some (.cells #[.slice a1 l.length c1, .int .i64 now] 25 (0, 0)) ∧ ChRow 0 W.heap.size W a1 l ∧ ByteRow W.heap.size W a2 n2 ∧ Below w.heap.size w W ∧ W.heap[T1]? = some (.cells #[.int .i64 now, .slice rb 0 cb, .slice wb 0 db] 30 (0, 0)) ∧ W.heap[T2]? = some (.cells #[.int .i64 now, .slice r2 1 q2, .slice v2 0 e2] 30 (0, 0)) ∧ TxRow 0 W.heap.size W r2 v2 [(k : Int)] [] ∧ W.heap[T3]? = some (.cells #[.int .i64 now, .slice r3 1 q3, .slice v3 1 e3] 30 (0, 0)) ∧ TxRow 0 W.heap.size W r3 v3 [(k : Int)] [⟨(k : Int), z1⟩] ∧ W.heap[X]? = some (.cells #[.slice ax (List.length m) cx, .int .i64 n9] 25 (0, 0)) ∧ ChRow 0 W.heap.size W ax m ∧ W.heap[Y]? = some (.cells #[.slice ay (List.length m) cy, .int .i64 n9] 25 (0, 0)) ∧ ChRow 0 W.heap.size W ay m ∧ W.heap[Z]? = some (.cells #[.slice az (List.length m) cz, .int .i64 n9] 25 (0, 0)) ∧ ChRow 0 W.heap.size W az m ∧ W.heap[TA]? = some (.cells #[.int .i64 sT, .slice raT rT.length rqT, .slice waT wT.length wqT] 30 (0, 0)) ∧ TxRow 0 W.heap.size W raT waT rT wT ∧ W.heap[U]? = some (.cells #[.slice au (List.length m7) cu, .int .i64 nr7] 25 (0, 0)) ∧ ChRow 0 W.heap.size W au m7) := fun W hW => by
    have hq : Below vTA.heap.size vTA W := Below.trans bb (hW.mono (by have h1 := (bb).size; omega))
    have t := T.out W hq
    exact ⟨t.1, t.2.1, t.2.2.1, t.2.2.2.1, t.2.2.2.2.1, t.2.2.2.2.2.1, t.2.2.2.2.2.2.1, t.2.2.2.2.2.2.2.1, t.2.2.2.2.2.2.2.2.1, t.2.2.2.2.2.2.2.2.2.1, t.2.2.2.2.2.2.2.2.2.2.1, t.2.2.2.2.2.2.2.2.2.2.2.1, t.2.2.2.2.2.2.2.2.2.2.2.2.1, t.2.2.2.2.2.2.2.2.2.2.2.2.2.1, t.2.2.2.2.2.2.2.2.2.2.2.2.2.2.1, t.2.2.2.2.2.2.2.2.2.2.2.2.2.2.2.1, t.2.2.2.2.2.2.2.2.2.2.2.2.2.2.2.2, (hW.block _ zvU).trans cvU, ChRow.up OU.out ((bvU).trans (hW.mono (bvU).size))⟩
  clear T
  have T := T2
  clear T2
  go_upto_region 16 with fail
  rw [← hvU, ← hU]
  clear hvU bvU cvU zvU hU bb bq zq
  clear hq oq OU
  have x1 := fun o => row_cell (T.out _ (Below.refl _ _)).1 o
  have x2 := fun o => row_cell (T.out _ (Below.refl _ _)).2.2.2.2.2.2.2.2.2.2.2.2.2.2.2.1 o
  go_wp2_with fail
  refine (spec_ct a1 raT waT c1 rqT wqT l now sT rT wT _ (T.out _ (Below.refl _ _)).2.1 HBD.out (T.out _ (Below.refl _ _)).2.2.2.2.2.2.2.2.2.2.2.2.2.2.2.2.1 HTB.out hT3 HCT.out).mono ?_
  rintro e w16 ⟨⟨vv, rfl, oq⟩, bq⟩
  obtain ⟨aw, cw, hvw, rw9⟩ := OwnK.chRow oq
  subst hvw
  have OW : Hid (ChRow 0 w16.heap.size w16 aw m7) := ChRow.wide rw9 (Nat.zero_le _) (Nat.le_refl _)
  have zq := bq.size
  clear x1 x2
  obtain ⟨vWW, hvWW⟩ : ∃ x : World, x = w16.alloc (.cells #[.slice aw (List.length m7) cw, .int .i64 nr7] 25) := ⟨_, rfl⟩
  have bvWW : Below w16.heap.size w16 vWW := by rw [hvWW]; exact (Below.refl _ _).alloc (Nat.le_refl _) _
  have cvWW : vWW.heap[w16.heap.size]? = some (.cells #[.slice aw (List.length m7) cw, .int .i64 nr7] 25 (0, 0)) := by rw [hvWW]; exact heap_alloc_new _ _
  have zvWW := (Array.getElem?_eq_some_iff.1 cvWW).1
  obtain ⟨WW, hWW⟩ : ∃ WW, WW = w16.heap.size := ⟨_, rfl⟩
  rw [← hWW] at cvWW zvWW
  have bb : Below vU.heap.size vU vWW := bq.trans (bvWW.mono zq)
  have T2 : Hid (∀ W, Below vWW.heap.size vWW W → W.heap[S]? = some (.cells #[.slice a1 l.length c1, .int .i64 now] 25 (0, 0)) ∧ ChRow 0 W.heap.size W a1 l ∧ ByteRow W.heap.size W a2 n2 ∧ Below w.heap.size w W ∧ W.heap[T1]? = some (.cells #[.int .i64 now, .slice rb 0 cb, .slice wb 0 db] 30 (0, 0)) ∧ W.heap[T2]? = some (.cells #[.int .i64 now, .slice r2 1 q2, .slice v2 0 e2] 30 (0, 0)) ∧ TxRow 0 W.heap.size W r2 v2 [(k : Int)] [] ∧ W.heap[T3]? = some (.cells #[.int .i64 now, .slice r3 1 q3, .slice v3 1 e3] 30 (0, 0)) ∧ TxRow 0 W.heap.size W r3 v3 [(k : Int)] [⟨(k : Int), z1⟩] ∧ W.heap[X]? = some (.cells #[.slice ax (List.length m) cx, .int .i64 n9] 25 (0, 0)) ∧ ChRow 0 W.heap.size W ax m ∧ W.heap[Y]? = some (.cells #[.slice ay (List.length m) cy, .int .i64 n9] 25 (0, 0)) ∧ ChRow 0 W.heap.size W ay m ∧ W.heap[Z]? = some (.cells #[.slice az (List.length m) cz, .int .i64 n9] 25 (0, 0)) ∧ ChRow 0 W.heap.size W az m ∧ W.heap[TA]? = some (.cells #[.int .i64 sT, .slice raT rT.length rqT, .slice waT wT.length wqT] 30 (0, 0)) ∧ TxRow 0 W.heap.size W raT waT rT wT ∧ W.heap[U]? = some (.cells #[.slice au (List.length m7) cu, .int .i64 nr7] 25 (0, 0)) ∧ ChRow 0 W.heap.size W au m7 ∧ W.heap[WW]? = some (.cells #[.slice aw (List.length m7) cw, .int .i64 nr7] 25 (0, 0)) ∧ ChRow 0 W.heap.size W aw m7) := fun W hW => by
    have hq : Below vU.heap.size vU W := Below.trans bb (hW.mono (by have h1 := (bb).size; omega))
    have t := T.out W hq
    exact ⟨t.1, t.2.1, t.2.2.1, t.2.2.2.1, t.2.2.2.2.1, t.2.2.2.2.2.1, t.2.2.2.2.2.2.1, t.2.2.2.2.2.2.2.1, t.2.2.2.2.2.2.2.2.1, t.2.2.2.2.2.2.2.2.2.1, t.2.2.2.2.2.2.2.2.2.2.1, t.2.2.2.2.2.2.2.2.2.2.2.1, t.2.2.2.2.2.2.2.2.2.2.2.2.1, t.2.2.2.2.2.2.2.2.2.2.2.2.2.1, t.2.2.2.2.2.2.2.2.2.2.2.2.2.2.1, t.2.2.2.2.2.2.2.2.2.2.2.2.2.2.2.1, t.2.2.2.2.2.2.2.2.2.2.2.2.2.2.2.2.1, t.2.2.2.2.2.2.2.2.2.2.2.2.2.2.2.2.2.1, t.2.2.2.2.2.2.2.2.2.2.2.2.2.2.2.2.2.2, (hW.block _ zvWW).trans cvWW, ChRow.up OW.out ((bvWW).trans (hW.mono (bvWW).size))⟩
  clear T
  have T := T2
  clear T2
  go_upto_region 17 with fail
  rw [← hvWW, ← hWW]
  clear hvWW bvWW cvWW zvWW hWW bb bq zq
  clear oq rw9 OW
  have hb1 : (n9 == (now : Int) + 1) = true := by rw [HN9.out]; simp
  have hb2 : (z1 == zz + 1) = true := by rw [HZ1.out]; simp
  have x1 := fun o => row_cell (T.out _ (Below.refl _ _)).1 o
  have x2 := fun o => row_cell (T.out _ (Below.refl _ _)).2.2.2.2.2.2.2.2.2.2.2.1 o
  have x3 := fun o => row_cell (T.out _ (Below.refl _ _)).2.2.2.2.2.2.2.2.2.1 o
  go_wp2_with fail
  refine (same_store ay ax cy cx m n9 _ (T.out _ (Below.refl _ _)).2.2.2.2.2.2.2.2.2.2.2.2.1 (T.out _ (Below.refl _ _)).2.2.2.2.2.2.2.2.2.2.1 HBM.out).mono ?_
  rintro e y1 ⟨rfl, b1⟩
  have Y1 : Hid (Below vWW.heap.size vWW y1) := b1
  clear b1 x1 x2 x3
  have x1 := fun o => row_cell (T.out _ Y1.out).1 o
  have x2 := fun o => row_cell (T.out _ Y1.out).2.2.2.2.2.2.2.2.2.2.2.2.2.1 o
  have x3 := fun o => row_cell (T.out _ Y1.out).2.2.2.2.2.2.2.2.2.1 o
  go_wp2_with fail
  refine (same_store az ax cz cx m n9 _ (T.out _ Y1.out).2.2.2.2.2.2.2.2.2.2.2.2.2.2.1 (T.out _ Y1.out).2.2.2.2.2.2.2.2.2.2.1 HBM.out).mono ?_
  rintro e y2 ⟨rfl, b2⟩
  have Y2 : Hid (Below vWW.heap.size vWW y2) := Y1.out.trans (b2.mono Y1.out.size)
  clear b2 x1 x2 x3
  have x2 := fun o => row_cell (T.out _ Y2.out).2.2.2.2.2.2.2.2.2.2.2.2.2.2.2.2.2.1 o
  have x3 := fun o => row_cell (T.out _ Y2.out).2.2.2.2.2.2.2.2.2.2.2.2.2.2.2.2.2.2.2.1 o
  go_wp2_with fail
  refine (same_store au aw cu cw m7 nr7 _ (T.out _ Y2.out).2.2.2.2.2.2.2.2.2.2.2.2.2.2.2.2.2.2.1 (T.out _ Y2.out).2.2.2.2.2.2.2.2.2.2.2.2.2.2.2.2.2.2.2.2 HB7.out).mono ?_
  rintro e y3 ⟨rfl, b3⟩
  have Y3 : Hid (Below w.heap.size w y3) := (T.out _ (Y2.out.trans (b3.mono Y2.out.size))).2.2.2.1
  clear b3 x2 x3
  go_wp2_with fail
  go_ret
  exact ⟨by simp, Y3.out⟩
end Go.Proofs.Ytoahbfledamnnaa.G
