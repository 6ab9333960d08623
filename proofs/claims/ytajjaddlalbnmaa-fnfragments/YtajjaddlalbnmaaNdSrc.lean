/- The draws' source, beside documents: a row of bytes, a source of choices, one of some numbers, a chance. -/
import Derived.Test.YtajjaddlalbnmaaKdRows
import Derived.Test.YtajjaddlalbnmaaGBase
import Derived.Deep.QuietTactic
import Derived.BigQuiet
import Derived.BigRegion
namespace Go.Proofs.Ytajjaddlalbnmaa
open Go.ChangeShapes Go.WideShapes Go.ChangeAt Go.RowKit
open Go.Proofs.Ytajjaddlalbnmaa.G (row_cell row_frozen row_set)
set_option linter.unusedVariables false

/-- A slice of bytes: any place where there is none; else a block below B holds them. -/
def ByteRow (B : Nat) (w : World) (a : Option Addr) (n : Nat) : Prop :=
  n = 0 ∨ ∃ b o, a = some ⟨b, o, none⟩ ∧ b < B ∧ B ≤ w.heap.size ∧ ∀ i, i < n → ∃ c : Nat, c < 256 ∧ w.cell? ⟨b, o + i, none⟩ = some (.int .u8 (c : Int))
theorem ByteRow.keep {B : Nat} {w w' : World} {a : Option Addr} {n : Nat} (h : ByteRow B w a n) (hs : w.heap.size ≤ w'.heap.size) (hb : ∀ k, k < B → w'.heap[k]? = w.heap[k]?) : ByteRow B w' a n := by
  rcases h with h | ⟨b, o, rfl, h1, h2, h3⟩
  · exact .inl h
  · refine .inr ⟨b, o, rfl, h1, Nat.le_trans h2 hs, fun i hi => ?_⟩
    obtain ⟨c, hc, e⟩ := h3 i hi
    exact ⟨c, hc, (World.cell?_of_block (w := w) (hb b h1)).trans e⟩
theorem ByteRow.at_ {B : Nat} {w : World} {a : Option Addr} {n : Nat} (h : ByteRow B w a n) (hn : 0 < n) : ∃ b o, a = some ⟨b, o, none⟩ ∧ b < B ∧ ∀ i, i < n → ∃ c : Nat, c < 256 ∧ w.cell? ⟨b, o + i, none⟩ = some (.int .u8 (c : Int)) := by
  rcases h with h | ⟨b, o, rfl, h1, h2, h3⟩
  · omega
  · exact ⟨b, o, rfl, h1, h3⟩
theorem mod_wrap (i m : Nat) (hm : 0 < m) (hi : i ≤ 100000) : IntKind.i64.wrap ((i : Int).tmod (m : Int)) = ((i % m : Nat) : Int) := by
  have h1 : i % m ≤ i := Nat.mod_le _ _
  rw [Int.tmod_eq_emod_of_nonneg (by omega), ← Int.natCast_emod]
  unfold IntKind.wrap
  simp [IntKind.bits, IntKind.signed]
  omega
theorem tmod_nat (i m : Nat) (hm : 0 < m) : ∃ r : Nat, (i : Int).tmod m = (r : Int) ∧ r < m :=
  ⟨i % m, by rw [Int.tmod_eq_emod_of_nonneg (by omega)]; omega, Nat.mod_lt _ hm⟩
theorem tdiv_nat (i m : Nat) : ∃ r : Nat, (i : Int).tdiv m = (r : Int) ∧ r ≤ i :=
  ⟨i / m, by rw [Int.tdiv_eq_ediv_of_nonneg (by omega)]; omega, Nat.div_le_self _ _⟩
theorem tmod_int {x : Int} {m : Nat} (hx : 0 ≤ x) (hm : 0 < m) : ∃ r : Nat, x.tmod m = (r : Int) ∧ r < m := by
  obtain ⟨k, rfl⟩ := Int.eq_ofNat_of_zero_le hx
  exact tmod_nat k m hm

/-- A source of choices: the code, how much was read (at most k), the seed. -/
def SrcSt (w : World) (L : Nat) (a : Option Addr) (n k : Nat) : Prop :=
  ∃ (c p : Nat) (sd : Int), w.heap[L]? = some (.cells #[.slice a n c, .int .i64 p, .int .i64 sd] 57 (0, 0)) ∧ p ≤ k ∧ 0 ≤ sd ∧ sd < 2147483648
theorem row_keep {w w' : World} {B : Nat} {a : Option Addr} {n : Nat} (h : ByteRow B w a n) (hg : w.grownBy w' (some B)) : ByteRow B w' a n := by
  rcases h with h | ⟨b, o, rfl, h1, h2, h3⟩
  · exact .inl h
  · exact ByteRow.keep (.inr ⟨b, o, rfl, h1, h2, h3⟩) hg.size (fun k hk => hg.block k (by omega) (by intro e; simp only [Option.some.injEq] at e; omega))
theorem tmod31 (x : Int) (h : 0 ≤ x) : ∃ r : Int, x.tmod 2147483648 = r ∧ 0 ≤ r ∧ r < 2147483648 :=
  ⟨x % 2147483648, Int.tmod_eq_emod_of_nonneg h, by omega, by omega⟩
theorem top8 (x : Int) (h : 0 ≤ x) : ∃ v : Nat, (x.tdiv 65536).tmod 256 = (v : Int) ∧ v < 256 :=
  ⟨(x / 65536 % 256).toNat, by rw [Int.tdiv_eq_ediv_of_nonneg h, Int.tmod_eq_emod_of_nonneg (by omega)]; omega, by omega⟩

set_option maxHeartbeats 2000000 in
theorem byte_any (L n k : Nat) (a : Option Addr) (w : World) (h : SrcSt w L a n k) (hr : ByteRow L w a n) (hk : k ≤ 100000) (hn : n ≤ 1048576) :
    Calls Try.prog 47 #[.pointer (some ⟨L, 0, none⟩)] w fun e w' => (∃ v : Nat, v < 256 ∧ e = .returned (.int .i64 v)) ∧ SrcSt w' L a n (k + 1) ∧ w.grownBy w' (some L) := by
  obtain ⟨c, p, sd, hh, hp, hs0, hsd⟩ := h
  have d0 := row_cell hh 0
  have d1 := row_cell hh 1
  have d2 := row_cell hh 2
  have f1 := row_frozen hh 1
  have f2 := row_frozen hh 2
  simp at d0 d1 d2
  have hh2 := row_set hh 1 (.int .i64 ((p : Int) + 1))
  have HG : Hid (w.grownBy (w.setCell ⟨L, 1, none⟩ (.int .i64 ((p : Int) + 1))) (some L)) := grown_set (grown_refl w (some L)) 1 (.int .i64 ((p : Int) + 1))
  have HR : Hid (ByteRow L (w.setCell ⟨L, 1, none⟩ (.int .i64 ((p : Int) + 1))) a n) := row_keep hr HG.out
  have HH : Hid ((w.setCell ⟨L, 1, none⟩ (.int .i64 ((p : Int) + 1))).heap[L]? = some (.cells #[.slice a n c, .int .i64 ((p : Int) + 1), .int .i64 sd] 57 (0, 0))) := by unfold Hid; simpa using hh2
  clear hh hr hh2
  go_enter Try.func47, Try.ntmps47
  go_wp2_with fail
  clear d0 d1 d2 f1 f2
  generalize w.setCell ⟨L, 1, none⟩ (.int .i64 ((p : Int) + 1)) = wq at *
  have d0 := row_cell HH.out 0
  have d1 := row_cell HH.out 1
  have d2 := row_cell HH.out 2
  have f2 := row_frozen HH.out 2
  simp at d0 d1 d2
  by_cases hin : p + 1 ≤ n
  · obtain ⟨b, o, rfl, hb, hc⟩ := ByteRow.at_ HR.out (by omega)
    obtain ⟨c1, l1, e1⟩ := hc p (by omega)
    obtain ⟨r, q, br0, br1⟩ := tmod31 (sd * 31 + c1 + 7) (by omega)
    clear hc
    have hle : (p : Int) + 1 ≤ n := by omega
    have hlt : (p : Int) < n := by omega
    go_quiet (fail)
    go_wp2_with fail
    have hLs : L < wq.heap.size := (Array.getElem?_eq_some_iff.1 HH.out).1
    clear HR
    go_region
    have H3 : ((wq.drewN (nq + 1)).setCell ⟨L, 2, none⟩ (.int .i64 r)).heap[L]? = some (.cells #[.slice (some ⟨b, o, none⟩) n c, .int .i64 ((p : Int) + 1), .int .i64 r] 57 (0, 0)) := by
      have := row_set (w := wq.drewN (nq + 1)) HH.out 2 (.int .i64 r)
      simpa using this
    have G3 : wq.grownBy ((wq.drewN (nq + 1)).setCell ⟨L, 2, none⟩ (.int .i64 r)) (some L) := grown_set (grown_drewN wq (nq + 1) _) _ _
    have E3 := (World.cell?_of_block (a := ⟨b, o + p, none⟩) (w := wq) (G3.block b (by omega) (by intro e; simp only [Option.some.injEq] at e; omega))).trans e1
    have GW := grown_trans HG.out G3
    clear G3 d0 d1 d2 f2 e1
    generalize (wq.drewN (nq + 1)).setCell ⟨L, 2, none⟩ (.int .i64 r) = wz at *
    have d0 := row_cell H3 0
    have d1 := row_cell H3 1
    simp at d0 d1
    have H4 : Hid _ := H3
    clear H3
    go_wp2_with fail
    go_quiet (fail)
    go_wp2_with fail
    go_ret
    exact ⟨⟨c1, l1, rfl⟩, ⟨c, p + 1, r, H4.out, by omega, br0, br1⟩, grown_trans GW (grown_drewN wz _ _)⟩
  · have hle : ¬ (p : Int) + 1 ≤ n := by omega
    by_cases hbig : 3000 < (p : Int) + 1
    · go_quiet (fail)
      go_wp2_with fail
      go_ret
      exact ⟨⟨0, by omega, rfl⟩, ⟨c, p + 1, sd, HH.out, by omega, hs0, hsd⟩, grown_trans HG.out (grown_drewN wq nq _)⟩
    · obtain ⟨r, q, br0, br1⟩ := tmod31 (sd * 1103515245 + 12345) (by omega)
      obtain ⟨v, hv, hv2⟩ := top8 r br0
      have HR2 := row_set HH.out 2 (.int .i64 r)
      have HG2 := grown_set HG.out 2 (.int .i64 r)
      have HHR : Hid _ := HR2
      have HHG : Hid _ := HG2
      clear HR2 HG2
      go_quiet (fail)
      go_wp2_with fail
      go_ret
      have H3 : ((wq.drewN nq).setCell ⟨L, 2, none⟩ (.int .i64 r)).heap[L]? = some (.cells #[.slice a n c, .int .i64 ((p : Int) + 1), .int .i64 r] 57 (0, 0)) := by
        have := row_set (w := wq.drewN nq) HH.out 2 (.int .i64 r)
        simpa using this
      exact ⟨⟨(r / 65536 % 256).toNat, by omega, by rw [Int.toNat_of_nonneg (by omega)]; rfl⟩, ⟨c, p + 1, r, H3, by omega, br0, br1⟩, grown_set (grown_trans HG.out (grown_drewN wq nq _)) _ _⟩

set_option maxHeartbeats 1000000 in
theorem next_any (m : Nat) (L n k : Nat) (a : Option Addr) (w : World) (h : SrcSt w L a n k) (hr : ByteRow L w a n) (hk : k ≤ 100000) (hn : n ≤ 1048576) (hm : 2 ≤ m) (hm2 : m ≤ 256) :
    Calls Try.prog 27 #[.pointer (some ⟨L, 0, none⟩), .int .i64 m] w fun e w' => (∃ v : Nat, v < m ∧ e = .returned (.int .i64 v)) ∧ SrcSt w' L a n (k + 1) ∧ w.grownBy w' (some L) := by
  have HS : Hid (SrcSt w L a n k) := h
  have HR : Hid (ByteRow L w a n) := hr
  clear h hr
  go_enter Try.func27, Try.ntmps27
  go_wp2_with fail
  refine (byte_any L n k a _ HS.out HR.out hk hn).mono ?_
  rintro e w1 ⟨⟨v, hv, rfl⟩, st, hg⟩
  have HS1 : Hid (SrcSt w1 L a n (k + 1)) := st
  have HG1 : Hid (w.grownBy w1 (some L)) := hg
  clear st hg
  obtain ⟨r, q, br⟩ := tmod_nat v m (by omega)
  have hmz : (m : Int) ≠ 0 := by omega
  go_wp2_with fail
  go_ret
  exact ⟨⟨r, br, rfl⟩, HS1.out, HG1.out⟩


theorem SrcSt.lt {w : World} {L : Nat} {a : Option Addr} {n k : Nat} (h : SrcSt w L a n k) : L < w.heap.size := by
  obtain ⟨c, p, sd, hh, _⟩ := h
  exact (Array.getElem?_eq_some_iff.1 hh).1
theorem SrcSt.move {w w' : World} {L : Nat} {a : Option Addr} {n k : Nat} (h : SrcSt w L a n k) (hb : w'.heap[L]? = w.heap[L]?) : SrcSt w' L a n k := by
  obtain ⟨c, p, sd, hh, h2⟩ := h
  exact ⟨c, p, sd, hb.trans hh, h2⟩
theorem SrcSt.more {w : World} {L : Nat} {a : Option Addr} {n k k' : Nat} (h : SrcSt w L a n k) (hk : k ≤ k') : SrcSt w L a n k' := by
  obtain ⟨c, p, sd, hh, h1, h2⟩ := h
  exact ⟨c, p, sd, hh, by omega, h2⟩
theorem ByteRow.up {L : Nat} {w w' : World} {a : Option Addr} {n : Nat} (h : ByteRow L w a n) (hL : L ≤ w.heap.size) (hb : Below w.heap.size w w') : ByteRow L w' a n :=
  ByteRow.keep h hb.size (fun k hk => hb.block k (by omega))

set_option maxHeartbeats 1000000 in
theorem next_pos (m : Nat) (L n k : Nat) (a : Option Addr) (w : World) (h : SrcSt w L a n k) (hr : ByteRow L w a n) (hk : k ≤ 100000) (hn : n ≤ 1048576) (hm : 1 ≤ m) (hm2 : m ≤ 256) :
    Calls Try.prog 27 #[.pointer (some ⟨L, 0, none⟩), .int .i64 m] w fun e w' => (∃ v : Nat, v < m ∧ e = .returned (.int .i64 v)) ∧ SrcSt w' L a n (k + 1) ∧ w.grownBy w' (some L) := by
  by_cases h2 : 2 ≤ m
  · exact next_any m L n k a w h hr hk hn h2 hm2
  · obtain rfl : m = 1 := by omega
    have HS : Hid _ := h.more (show k ≤ k + 1 by omega)
    clear h hr
    go_enter Try.func27, Try.ntmps27
    go_wp2_with fail
    go_ret
    exact ⟨⟨0, by omega, rfl⟩, HS.out, grown_refl _ _⟩
set_option maxHeartbeats 1000000 in
theorem chance_any (m : Nat) (L n k : Nat) (a : Option Addr) (w : World) (h : SrcSt w L a n k) (hr : ByteRow L w a n) (hk : k ≤ 100000) (hn : n ≤ 1048576) (hm : 1 ≤ m) (hm2 : m ≤ 256) :
    Calls Try.prog 26 #[.pointer (some ⟨L, 0, none⟩), .int .i64 m] w fun e w' => (∃ b : Bool, e = .returned (.bool b)) ∧ SrcSt w' L a n (k + 1) ∧ w.grownBy w' (some L) := by
  go_enter Try.func26, Try.ntmps26
  go_wp2_with fail
  refine (next_pos m L n k a _ h hr hk hn hm hm2).mono ?_
  rintro e w1 ⟨⟨v, hv, rfl⟩, st, hg⟩
  have HS1 : Hid (SrcSt w1 L a n (k + 1)) := st
  have HG1 : Hid (w.grownBy w1 (some L)) := hg
  clear st hg h hr
  go_wp2_with fail
  go_ret
  exact ⟨⟨_, rfl⟩, HS1.out, HG1.out⟩
set_option maxHeartbeats 1000000 in
theorem source_any (n c : Nat) (a : Option Addr) (w : World) (hn : n ≤ 1048576) :
    Calls Try.prog 12 #[.slice a n c] w fun e w' => e = .returned (.pointer (some ⟨w.heap.size, 0, none⟩)) ∧ SrcSt w' w.heap.size a n 0 ∧ Below w.heap.size w w' := by
  obtain ⟨r, hr, hr2⟩ := tmod_nat n 1000 (by omega)
  have hr' : (n : Int).tmod 1000 = r := hr
  go_enter Try.func12, Try.ntmps12
  go_wp2_with fail
  go_ret
  exact ⟨rfl, ⟨c, 0, r, heap_alloc_new _ _, by omega, by omega, by omega⟩, (Below.refl _ _).alloc (Nat.le_refl _) _⟩
set_option maxHeartbeats 1000000 in
theorem pick_lit (l : List ByteArray) (b c L n k : Nat) (a : Option Addr) (w : World) (h : SrcSt w L a n k) (hr : ByteRow L w a n) (hk : k ≤ 100000) (hn : n ≤ 1048576) (h1 : 1 ≤ l.length) (h2 : l.length ≤ 256) (hb : L < b) (hrow : w.heap[b]? = some (.cells (l.map Value.string).toArray 9 (0, 0))) :
    Calls Try.prog 42 #[.pointer (some ⟨L, 0, none⟩), .slice (some ⟨b, 0, none⟩) l.length c] w fun e w' => (∃ s ∈ l, e = .returned (.string s)) ∧ SrcSt w' L a n (k + 1) ∧ w.grownBy w' (some L) := by
  have hne : ¬ (l.length : Int) = 0 := by omega
  have hne' : ((l.length : Int) == 0) = false := by rw [beq_eq_false_iff_ne]; exact hne
  have hbw := (Array.getElem?_eq_some_iff.1 hrow).1
  have HQ : Hid _ := next_pos l.length L n k a w h hr hk hn h1 h2
  have HRW : Hid _ := hrow
  clear h hr hrow
  go_enter Try.func42, Try.ntmps42
  go_wp2_with fail
  refine Calls.mono HQ.out ?_
  rintro e w1 ⟨⟨v, hv, rfl⟩, s1, g1⟩
  have S1 : Hid _ := s1
  have G1 : Hid _ := g1
  have r1 := grown_keeps HRW.out hbw g1 (by omega)
  have d0 : w1.cell? ⟨b, v, none⟩ = some (.string l[v]) := by
    rw [row_cell r1 v]
    simp [List.getElem?_eq_getElem hv]
  have hv' : (v : Int) < l.length := by omega
  clear s1 g1 r1 HQ
  go_wp2_with fail
  go_ret
  exact ⟨⟨l[v], List.getElem_mem hv, rfl⟩, S1.out, G1.out⟩
end Go.Proofs.Ytajjaddlalbnmaa
