/- The law's draws: a byte of the code, or one that is reckoned. -/
import Derived.Test.YtjbogjoadcikhaaDoorSrcAt
import Derived.Test.YtjbogjoadcikhaaDoorImplA
import Derived.BigRegion
namespace Go.Proofs.YtjbogjoadcikhaaDoor.L
open Go.ChangeShapes Go.WideShapes Go.ChangeAt Go.RowKit
set_option linter.unusedVariables false

/-- A source of choices: the code, how much was read (at most k), the seed. -/
def SrcSt (w : World) (L : Nat) (a : Option Addr) (n k : Nat) : Prop :=
  ∃ (c p : Nat) (sd : Int), w.heap[L]? = some (.cells #[.slice a n c, .int .i64 p, .int .i64 sd] 49 (0, 0)) ∧ p ≤ k ∧ 0 ≤ sd ∧ sd < 2147483648
theorem row_keep {w w' : World} {B : Nat} {a : Option Addr} {n : Nat} (h : ByteRow B w a n) (hg : w.grownBy w' (some B)) : ByteRow B w' a n := by
  rcases h with h | ⟨b, o, rfl, h1, h2, h3⟩
  · exact .inl h
  · exact ByteRow.keep (.inr ⟨b, o, rfl, h1, h2, h3⟩) hg.size (fun k hk => hg.block k (by omega) (by intro e; simp only [Option.some.injEq] at e; omega))
theorem tmod31 (x : Int) (h : 0 ≤ x) : ∃ r : Int, x.tmod 2147483648 = r ∧ 0 ≤ r ∧ r < 2147483648 :=
  ⟨x % 2147483648, Int.tmod_eq_emod_of_nonneg h, by omega, by omega⟩
theorem top8 (x : Int) (h : 0 ≤ x) : ∃ v : Nat, (x.tdiv 65536).tmod 256 = (v : Int) ∧ v < 256 :=
  ⟨(x / 65536 % 256).toNat, by rw [Int.tdiv_eq_ediv_of_nonneg h, Int.tmod_eq_emod_of_nonneg (by omega)]; omega, by omega⟩

set_option maxHeartbeats 2000000 in
theorem byte_any (L n k : Nat) (a : Option Addr) (w : World) (h : SrcSt w L a n k) (hr : ByteRow L w a n) (hk : k ≤ 100000) (hn : n ≤ 1048576) :
    Calls Tryd.prog 40 #[.pointer (some ⟨L, 0, none⟩)] w fun e w' => (∃ v : Nat, v < 256 ∧ e = .returned (.int .i64 v)) ∧ SrcSt w' L a n (k + 1) ∧ w.grownBy w' (some L) := by
  obtain ⟨c, p, sd, hh, hp, hs0, hsd⟩ := h
  have d0 := row_cell hh 0
  have d1 := row_cell hh 1
  have d2 := row_cell hh 2
  have f1 := row_frozen hh 1
  have f2 := row_frozen hh 2
  simp at d0 d1 d2
  have hh2 := row_set hh 1 (.int .i64 ((p : Int) + 1))
  have HG : Hid (w.grownBy (w.setCell ⟨L, 1, none⟩ (.int .i64 ((p : Int) + 1))) (some L)) := grown_set (grown_refl w (some L)) 1 (.int .i64 ((p : Int) + 1))
  have HR : Hid (ByteRow L (w.setCell ⟨L, 1, none⟩ (.int .i64 ((p : Int) + 1))) a n) := row_keep hr HG.out
  have HH : Hid ((w.setCell ⟨L, 1, none⟩ (.int .i64 ((p : Int) + 1))).heap[L]? = some (.cells #[.slice a n c, .int .i64 ((p : Int) + 1), .int .i64 sd] 49 (0, 0))) := by unfold Hid; simpa using hh2
  clear hh hr hh2
  go_enter Tryd.func40, Tryd.ntmps40
  go_wp2_with fail
  clear d0 d1 d2 f1 f2
  generalize w.setCell ⟨L, 1, none⟩ (.int .i64 ((p : Int) + 1)) = wq at *
  have d0 := row_cell HH.out 0
  have d1 := row_cell HH.out 1
  have d2 := row_cell HH.out 2
  have f2 := row_frozen HH.out 2
  simp at d0 d1 d2
  by_cases hin : p + 1 ≤ n
  · obtain ⟨b, o, rfl, hb, hc⟩ := ByteRow.at_ HR.out (by omega)
    obtain ⟨c1, l1, e1⟩ := hc p (by omega)
    obtain ⟨r, q, br0, br1⟩ := tmod31 (sd * 31 + c1 + 7) (by omega)
    clear hc
    have hle : (p : Int) + 1 ≤ n := by omega
    have hlt : (p : Int) < n := by omega
    go_quiet (fail)
    go_wp2_with fail
    have hLs : L < wq.heap.size := (Array.getElem?_eq_some_iff.1 HH.out).1
    clear HR
    go_region
    have H3 : ((wq.drewN (nq + 1)).setCell ⟨L, 2, none⟩ (.int .i64 r)).heap[L]? = some (.cells #[.slice (some ⟨b, o, none⟩) n c, .int .i64 ((p : Int) + 1), .int .i64 r] 49 (0, 0)) := by
      have := row_set (w := wq.drewN (nq + 1)) HH.out 2 (.int .i64 r)
      simpa using this
    have G3 : wq.grownBy ((wq.drewN (nq + 1)).setCell ⟨L, 2, none⟩ (.int .i64 r)) (some L) := grown_set (grown_drewN wq (nq + 1) _) _ _
    have E3 := (World.cell?_of_block (a := ⟨b, o + p, none⟩) (w := wq) (G3.block b (by omega) (by intro e; simp only [Option.some.injEq] at e; omega))).trans e1
    have GW := grown_trans HG.out G3
    clear G3 d0 d1 d2 f2 e1
    generalize (wq.drewN (nq + 1)).setCell ⟨L, 2, none⟩ (.int .i64 r) = wz at *
    have d0 := row_cell H3 0
    have d1 := row_cell H3 1
    simp at d0 d1
    have H4 : Hid _ := H3
    clear H3
    go_wp2_with fail
    go_quiet (fail)
    go_wp2_with fail
    go_ret
    exact ⟨⟨c1, l1, rfl⟩, ⟨c, p + 1, r, H4.out, by omega, br0, br1⟩, grown_trans GW (grown_drewN wz _ _)⟩
  · have hle : ¬ (p : Int) + 1 ≤ n := by omega
    by_cases hbig : 3000 < (p : Int) + 1
    · go_quiet (fail)
      go_wp2_with fail
      go_ret
      exact ⟨⟨0, by omega, rfl⟩, ⟨c, p + 1, sd, HH.out, by omega, hs0, hsd⟩, grown_trans HG.out (grown_drewN wq nq _)⟩
    · obtain ⟨r, q, br0, br1⟩ := tmod31 (sd * 1103515245 + 12345) (by omega)
      obtain ⟨v, hv, hv2⟩ := top8 r br0
      have HR2 := row_set HH.out 2 (.int .i64 r)
      have HG2 := grown_set HG.out 2 (.int .i64 r)
      have HHR : Hid _ := HR2
      have HHG : Hid _ := HG2
      clear HR2 HG2
      go_quiet (fail)
      go_wp2_with fail
      go_ret
      have H3 : ((wq.drewN nq).setCell ⟨L, 2, none⟩ (.int .i64 r)).heap[L]? = some (.cells #[.slice a n c, .int .i64 ((p : Int) + 1), .int .i64 r] 49 (0, 0)) := by
        have := row_set (w := wq.drewN nq) HH.out 2 (.int .i64 r)
        simpa using this
      exact ⟨⟨(r / 65536 % 256).toNat, by omega, by rw [Int.toNat_of_nonneg (by omega)]; rfl⟩, ⟨c, p + 1, r, H3, by omega, br0, br1⟩, grown_set (grown_trans HG.out (grown_drewN wq nq _)) _ _⟩
end Go.Proofs.YtjbogjoadcikhaaDoor.L
