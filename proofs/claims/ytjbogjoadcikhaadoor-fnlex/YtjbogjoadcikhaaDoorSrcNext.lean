/- The law's draws: one of some numbers, one of some texts. -/
import Derived.Test.YtjbogjoadcikhaaDoorSrcByte
namespace Go.Proofs.YtjbogjoadcikhaaDoor.L
open Go.ChangeShapes Go.WideShapes Go.ChangeAt Go.RowKit
set_option linter.unusedVariables false

set_option maxHeartbeats 1000000 in
theorem next_any (m : Nat) (L n k : Nat) (a : Option Addr) (w : World) (h : SrcSt w L a n k) (hr : ByteRow L w a n) (hk : k ≤ 100000) (hn : n ≤ 1048576) (hm : 2 ≤ m) (hm2 : m ≤ 256) :
    Calls Tryd.prog 25 #[.pointer (some ⟨L, 0, none⟩), .int .i64 m] w fun e w' => (∃ v : Nat, v < m ∧ e = .returned (.int .i64 v)) ∧ SrcSt w' L a n (k + 1) ∧ w.grownBy w' (some L) := by
  have HS : Hid (SrcSt w L a n k) := h
  have HR : Hid (ByteRow L w a n) := hr
  clear h hr
  go_enter Tryd.func25, Tryd.ntmps25
  go_wp2_with fail
  refine (byte_any L n k a _ HS.out HR.out hk hn).mono ?_
  rintro e w1 ⟨⟨v, hv, rfl⟩, st, hg⟩
  have HS1 : Hid (SrcSt w1 L a n (k + 1)) := st
  have HG1 : Hid (w.grownBy w1 (some L)) := hg
  clear st hg
  obtain ⟨r, q, br⟩ := tmod_nat v m (by omega)
  have hmz : (m : Int) ≠ 0 := by omega
  go_wp2_with fail
  go_ret
  exact ⟨⟨r, br, rfl⟩, HS1.out, HG1.out⟩

set_option maxHeartbeats 1000000 in
theorem pick_any (N cp : Nat) (ss : List ByteArray) (L n k : Nat) (a : Option Addr) (w : World) (h : SrcSt w L a n k) (hr : ByteRow L w a n) (hk : k ≤ 100000) (hn : n ≤ 1048576) (hm : 2 ≤ ss.length) (hm2 : ss.length ≤ 256)
    (hc : ∀ (j : Nat) x, ss[j]? = some x → w.cell? ⟨N, j, none⟩ = some (.string x)) (hNL : N ≠ L) (hN : N < w.heap.size) :
    Calls Tryd.prog 41 #[.pointer (some ⟨L, 0, none⟩), .slice (some ⟨N, 0, none⟩) ss.length cp] w fun e w' => (∃ x, x ∈ ss ∧ e = .returned (.string x)) ∧ SrcSt w' L a n (k + 1) ∧ w.grownBy w' (some L) := by
  have HS : Hid (SrcSt w L a n k) := h
  have HR : Hid (ByteRow L w a n) := hr
  have HC : Hid (∀ (j : Nat) x, ss[j]? = some x → w.cell? ⟨N, j, none⟩ = some (.string x)) := hc
  clear h hr hc
  have hne : ¬ (ss.length : Int) = 0 := by omega
  go_enter Tryd.func41, Tryd.ntmps41
  go_wp2_with fail
  refine (next_any ss.length L n k a _ HS.out HR.out hk hn hm hm2).mono ?_
  rintro e w1 ⟨⟨v, hv, rfl⟩, st, hg⟩
  have HS1 : Hid (SrcSt w1 L a n (k + 1)) := st
  have HG1 : Hid (w.grownBy w1 (some L)) := hg
  have e1 := (World.cell?_of_block (a := ⟨N, v, none⟩) (w := w) (w' := w1) (hg.block N hN (by intro e; simp only [Option.some.injEq] at e; exact hNL e))).trans (HC.out v ss[v] (List.getElem?_eq_getElem hv))
  clear st hg
  have hv' : (v : Int) < ss.length := by omega
  have hmem : ss[v] ∈ ss := List.getElem_mem hv
  generalize ss[v] = X at *
  go_wp2_with fail
  go_ret
  exact ⟨⟨X, hmem, rfl⟩, HS1.out, HG1.out⟩
end Go.Proofs.YtjbogjoadcikhaaDoor.L
