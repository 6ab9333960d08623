/- The draws: a chance, a size, a source, a write, some writes. -/
import Derived.Test.YtoojbgngjnepeaaStSrc
namespace Go.Proofs.Ytoojbgngjnepeaa.G
open Go.ChangeShapes Go.WideShapes Go.ChangeAt Go.RowKit
set_option linter.unusedVariables false

theorem SrcSt.lt {w : World} {L : Nat} {a : Option Addr} {n k : Nat} (h : SrcSt w L a n k) : L < w.heap.size := by
  obtain ⟨c, p, sd, hh, _⟩ := h
  exact (Array.getElem?_eq_some_iff.1 hh).1
theorem SrcSt.move {w w' : World} {L : Nat} {a : Option Addr} {n k : Nat} (h : SrcSt w L a n k) (hb : w'.heap[L]? = w.heap[L]?) : SrcSt w' L a n k := by
  obtain ⟨c, p, sd, hh, h2⟩ := h
  exact ⟨c, p, sd, hb.trans hh, h2⟩
theorem SrcSt.more {w : World} {L : Nat} {a : Option Addr} {n k k' : Nat} (h : SrcSt w L a n k) (hk : k ≤ k') : SrcSt w L a n k' := by
  obtain ⟨c, p, sd, hh, h1, h2⟩ := h
  exact ⟨c, p, sd, hh, by omega, h2⟩
theorem ByteRow.up {L : Nat} {w w' : World} {a : Option Addr} {n : Nat} (h : ByteRow L w a n) (hL : L ≤ w.heap.size) (hb : Below w.heap.size w w') : ByteRow L w' a n :=
  ByteRow.keep h hb.size (fun k hk => hb.block k (by omega))

set_option maxHeartbeats 1000000 in
theorem next_pos (m : Nat) (L n k : Nat) (a : Option Addr) (w : World) (h : SrcSt w L a n k) (hr : ByteRow L w a n) (hk : k ≤ 100000) (hn : n ≤ 1048576) (hm : 1 ≤ m) (hm2 : m ≤ 256) :
    Calls Try.prog 29 #[.pointer (some ⟨L, 0, none⟩), .int .i64 m] w fun e w' => (∃ v : Nat, v < m ∧ e = .returned (.int .i64 v)) ∧ SrcSt w' L a n (k + 1) ∧ w.grownBy w' (some L) := by
  by_cases h2 : 2 ≤ m
  · exact next_any m L n k a w h hr hk hn h2 hm2
  · obtain rfl : m = 1 := by omega
    have HS : Hid _ := h.more (show k ≤ k + 1 by omega)
    clear h hr
    go_enter Try.func29, Try.ntmps29
    go_wp2_with fail
    go_ret
    exact ⟨⟨0, by omega, rfl⟩, HS.out, grown_refl _ _⟩
set_option maxHeartbeats 1000000 in
theorem chance_any (m : Nat) (L n k : Nat) (a : Option Addr) (w : World) (h : SrcSt w L a n k) (hr : ByteRow L w a n) (hk : k ≤ 100000) (hn : n ≤ 1048576) (hm : 1 ≤ m) (hm2 : m ≤ 256) :
    Calls Try.prog 33 #[.pointer (some ⟨L, 0, none⟩), .int .i64 m] w fun e w' => (∃ b : Bool, e = .returned (.bool b)) ∧ SrcSt w' L a n (k + 1) ∧ w.grownBy w' (some L) := by
  go_enter Try.func33, Try.ntmps33
  go_wp2_with fail
  refine (next_pos m L n k a _ h hr hk hn hm hm2).mono ?_
  rintro e w1 ⟨⟨v, hv, rfl⟩, st, hg⟩
  have HS1 : Hid (SrcSt w1 L a n (k + 1)) := st
  have HG1 : Hid (w.grownBy w1 (some L)) := hg
  clear st hg h hr
  go_wp2_with fail
  go_ret
  exact ⟨⟨_, rfl⟩, HS1.out, HG1.out⟩
set_option maxHeartbeats 1000000 in
theorem size_any (L n k : Nat) (a : Option Addr) (w : World) (h : SrcSt w L a n k) (hn : n ≤ 1048576) :
    Calls Try.prog 30 #[.pointer (some ⟨L, 0, none⟩), .int .i64 10] w fun e w' => (∃ v : Nat, 1 ≤ v ∧ v ≤ 10 ∧ e = .returned (.int .i64 v)) ∧ Below w.heap.size w w' := by
  obtain ⟨c, p, sd, hh, hp, hs0, hsd⟩ := h
  have d0 := row_cell hh 0
  simp at d0
  clear hh
  obtain ⟨r, hr, hr2⟩ := tdiv_nat n 12
  have hr' : (n : Int).tdiv 12 = r := hr
  by_cases h10 : (1 : Int) + r ≤ 10
  · go_enter Try.func30, Try.ntmps30
    go_wp2_with fail
    go_ret
    exact ⟨⟨1 + r, by omega, by omega, by go_num⟩, Below.refl _ _⟩
  · go_enter Try.func30, Try.ntmps30
    go_wp2_with fail
    go_ret
    exact ⟨⟨10, by omega, by omega, rfl⟩, Below.refl _ _⟩
set_option maxHeartbeats 1000000 in
theorem source_any (n c : Nat) (a : Option Addr) (w : World) (hn : n ≤ 1048576) :
    Calls Try.prog 13 #[.slice a n c] w fun e w' => e = .returned (.pointer (some ⟨w.heap.size, 0, none⟩)) ∧ SrcSt w' w.heap.size a n 0 ∧ Below w.heap.size w w' := by
  obtain ⟨r, hr, hr2⟩ := tmod_nat n 1000 (by omega)
  have hr' : (n : Int).tmod 1000 = r := hr
  go_enter Try.func13, Try.ntmps13
  go_wp2_with fail
  go_ret
  exact ⟨rfl, ⟨c, 0, r, heap_alloc_new _ _, by omega, by omega, by omega⟩, (Below.refl _ _).alloc (Nat.le_refl _) _⟩
theorem valB_odd {q v : Nat} (h : q % 2 = 1) (hv : v < 9) : valB q v = true := by
  have : ((q : Int) % 2 = 1) := by omega
  simp [valB, this, nodeB]; omega
theorem valB_even {q : Nat} {v : Int} (h : ¬ q % 2 = 1) (hv : -2147483648 ≤ v ∧ v ≤ 2147483647) : valB q v = true := by
  have : ¬ ((q : Int) % 2 = 1) := by omega
  simp [valB, this, intB]; omega
theorem putB_of {q : Nat} {v : Int} (h : q < 16) (hv : valB q v = true) : putB q v = true := by
  simp [putB, keyB, hv]; omega
theorem grown_far {a w : World} {r : Option Nat} (h : a.grownBy w r) {b : Nat} (hb : a.heap.size ≤ b) (o : Nat) (v : Value) : a.grownBy (w.setCell ⟨b, o, none⟩ v) r :=
  ⟨h.os, h.tape, h.output, by simpa using h.size, fun k hk hn => (heap_set _ _ _ _ _ (by omega)).trans (h.block k hk hn)⟩
set_option maxHeartbeats 2000000 in
theorem put_any (L n k : Nat) (a : Option Addr) (w : World) (h : SrcSt w L a n k) (hr : ByteRow L w a n) (hk : k ≤ 99990) (hn : n ≤ 1048576) :
    Calls Try.prog 45 #[.pointer (some ⟨L, 0, none⟩)] w fun e w' => (∃ p : Ve, e = .returned (.agg #[.int .i64 p.ts, .int .i64 p.v]) ∧ putB p.ts p.v = true) ∧ SrcSt w' L a n (k + 3) ∧ w.grownBy w' (some L) := by
  obtain ⟨wa, hwa⟩ : ∃ x : World, x = w.alloc (.cells #[.int .i64 0, .int .i64 0] 69) := ⟨_, rfl⟩
  have hL := h.lt
  have za : wa.heap.size = w.heap.size + 1 := by rw [hwa]; simp
  have ba : Below w.heap.size w wa := by rw [hwa]; exact (Below.refl _ _).alloc (Nat.le_refl _) _
  have ca : wa.heap[w.heap.size]? = some (.cells #[.int .i64 0, .int .i64 0] 69 (0, 0)) := by rw [hwa]; exact heap_alloc_new _ _
  have HS : Hid _ := h.move (ba.block L hL)
  have HR : Hid _ := hr.up (by omega) ba
  have GA : Hid (w.grownBy wa (some L)) := grown_below (grown_refl _ _) ba
  have CA : Hid _ := ca
  clear h hr ba ca
  go_enter Try.func45, Try.ntmps45
  go_wp2_with fail
  rw [← hwa]
  refine (next_any 16 L n k a _ HS.out HR.out (by omega) hn (by omega) (by omega)).mono ?_
  rintro e w1 ⟨⟨q, hq, rfl⟩, s1, g1⟩
  have c1 := (g1.block w.heap.size (by omega) (by simp; omega)).trans CA.out
  have HS1 : Hid _ := s1
  have HR1 : Hid _ := row_keep HR.out g1
  have G1 : Hid (w.grownBy w1 (some L)) := grown_trans GA.out g1
  have C1 : Hid _ := c1
  have z1 := g1.size
  clear s1 g1 c1 HS HR GA CA
  have hm : (q : Int).tmod 2 = ((q % 2 : Nat) : Int) := by rw [Int.tmod_eq_emod_of_nonneg (by omega)]; omega
  by_cases hodd : q % 2 = 1
  · have hm1 : (q : Int).tmod 2 = 1 := by omega
    clear hm
    go_wp2_with fail
    refine (next_any 9 L n (k + 1) a _ HS1.out HR1.out (by omega) hn (by omega) (by omega)).mono ?_
    rintro e w2 ⟨⟨v, hv, rfl⟩, s2, g2⟩
    have c2 := (g2.block w.heap.size (by omega) (by simp; omega)).trans C1.out
    have HS2 : Hid _ := s2
    have G2 : Hid (w.grownBy w2 (some L)) := grown_trans G1.out g2
    have x2 := fun o => row_cell c2 o
    have y2 := fun o => row_frozen c2 o
    have HV : Hid (putB q v = true) := putB_of hq (valB_odd hodd hv)
    clear s2 g2 c2 HS1 HR1 G1 C1
    go_wp2_with fail
    refine bodyPost_ret (v := .agg #[.int .i64 q, .int .i64 v]) (by simp [results, Try.results45, go_sem, x2]) rfl ⟨⟨⟨q, v⟩, rfl, HV.out⟩, ?_, ?_⟩
    · exact SrcSt.move (SrcSt.more HS2.out (by omega)) (by rw [heap_set _ _ _ _ _ (by omega), heap_set _ _ _ _ _ (by omega)])
    · exact grown_far (grown_far G2.out (Nat.le_refl _) _ _) (Nat.le_refl _) _ _
  · have hm1 : ¬ (q : Int).tmod 2 = 1 := by omega
    clear hm
    go_wp2_with fail
    refine (next_any 20 L n (k + 1) a _ HS1.out HR1.out (by omega) hn (by omega) (by omega)).mono ?_
    rintro e w2 ⟨⟨v, hv, rfl⟩, s2, g2⟩
    have z2 := g2.size
    obtain ⟨wb, hwb⟩ : ∃ x : World, x = w2.alloc (.cells #[.int .i64 ((v : Int) - 4), .int .i64 2147483647] 3) := ⟨_, rfl⟩
    have zb : wb.heap.size = w2.heap.size + 1 := by rw [hwb]; simp
    have bb : Below w2.heap.size w2 wb := by rw [hwb]; exact (Below.refl _ _).alloc (Nat.le_refl _) _
    have cb : wb.heap[w2.heap.size]? = some (.cells #[.int .i64 ((v : Int) - 4), .int .i64 2147483647] 3 (0, 0)) := by rw [hwb]; exact heap_alloc_new _ _
    have c2 := (bb.block w.heap.size (by omega)).trans ((g2.block w.heap.size (by omega) (by simp; omega)).trans C1.out)
    have HS2 : Hid _ := s2.move (bb.block L (by omega))
    have HR2 : Hid _ := (row_keep HR1.out g2).up (by omega) bb
    have G2 : Hid (w.grownBy wb (some L)) := grown_below (grown_trans G1.out g2) bb
    have C2 : Hid _ := c2
    have CB : Hid _ := cb
    clear s2 g2 c2 HS1 HR1 G1 C1 bb cb
    go_wp2_with fail
    rw [← hwb]
    refine (next_any 9 L n (k + 1 + 1) a _ HS2.out HR2.out (by omega) hn (by omega) (by omega)).mono ?_
    rintro e w3 ⟨⟨v2, hv2, rfl⟩, s3, g3⟩
    have c3 := (g3.block w.heap.size (by omega) (by simp; omega)).trans C2.out
    have b3 := (g3.block w2.heap.size (by omega) (by simp; omega)).trans CB.out
    have HS3 : Hid _ := s3
    have G3 : Hid (w.grownBy w3 (some L)) := grown_trans G2.out g3
    have x3 := fun o => row_cell c3 o
    have y3 := fun o => row_frozen c3 o
    have xb := fun o => row_cell b3 o
    have hd : (v2 : Int).tdiv 8 = ((v2 / 8 : Nat) : Int) := by rw [Int.tdiv_eq_ediv_of_nonneg (by omega)]; omega
    clear s3 g3 c3 b3 HS2 HR2 G2 C2 CB
    by_cases h8 : v2 / 8 = 0
    · have hd0 : (v2 : Int).tdiv 8 = 0 := by omega
      have HV : Hid (putB q ((v : Int) - 4) = true) := putB_of hq (valB_even hodd (by omega))
      clear hd
      go_wp2_with fail
      refine bodyPost_ret (v := .agg #[.int .i64 q, .int .i64 ((v : Int) - 4)]) (by simp [results, Try.results45, go_sem, x3]) rfl ⟨⟨⟨q, (v : Int) - 4⟩, rfl, HV.out⟩, ?_, ?_⟩
      · exact SrcSt.move (SrcSt.more HS3.out (by omega)) (by rw [heap_set _ _ _ _ _ (by omega), heap_set _ _ _ _ _ (by omega)])
      · exact grown_far (grown_far G3.out (Nat.le_refl _) _ _) (Nat.le_refl _) _ _
    · have hd0 : (v2 : Int).tdiv 8 = 1 := by omega
      have HV : Hid (putB q 2147483647 = true) := putB_of hq (valB_even hodd (by omega))
      clear hd
      go_wp2_with fail
      refine bodyPost_ret (v := .agg #[.int .i64 q, .int .i64 2147483647]) (by simp [results, Try.results45, go_sem, x3]) rfl ⟨⟨⟨q, 2147483647⟩, rfl, HV.out⟩, ?_, ?_⟩
      · exact SrcSt.move (SrcSt.more HS3.out (by omega)) (by rw [heap_set _ _ _ _ _ (by omega), heap_set _ _ _ _ _ (by omega)])
      · exact grown_far (grown_far G3.out (Nat.le_refl _) _ _) (Nat.le_refl _) _ _
end Go.Proofs.Ytoojbgngjnepeaa.G
