/- What the law counts of those that are done. -/
import Derived.Test.YtgnonbghgcpnoaaDoorDnRows
namespace Go.Proofs.YtgnonbghgcpnoaaDoor
open Go.ChangeShapes Go.WideShapes Go.ChangeAt Go.RowKit
set_option linter.unusedVariables false

set_option maxHeartbeats 2000000 in
theorem sz_done (x : Dn) (a b : Option Addr) (c d : Nat) (n : Int) (w : World) (hr : DeRow 0 w.heap.size w a x.defs) (hv : ArRow 0 w.heap.size w b x.vars) (hb : DnB0 x) (h0 : 0 ≤ n) (h1 : n ≤ 1048576) :
    Calls Tryd.prog 19 #[.agg #[.int .i64 x.id, .int .i64 x.code, .int .i64 x.ts, .int .i64 x.since, .bool x.wr, .slice a x.defs.length c, .slice b x.vars.length d, .string x.t], .int .i64 n] w fun e w' => ∃ m, e = .returned (.int .i64 m) ∧ Sz n m (DnBd x) ∧ Below w.heap.size w w' := by
  have B0 : Below w.heap.size w (w.alloc (.cells #[.int .i64 x.id, .int .i64 x.code, .int .i64 x.ts, .int .i64 x.since, .bool x.wr, .slice a x.defs.length c, .slice b x.vars.length d, .string x.t] 44)) := (Below.refl _ _).alloc (Nat.le_refl _) _
  have HR : Hid (DeRow 0 _ _ a x.defs ∧ ArRow 0 _ _ b x.vars) := ⟨DeRow.up hr B0, Row.up hv B0⟩
  have HB : Hid _ := B0
  have HD : Hid _ := hb
  clear hr hv hb B0
  go_enter Tryd.func19, Tryd.ntmps19
  go_wp2_with fail
  refine (sz_req_w a b c d x.defs x.vars n _ HR.out.1 HR.out.2 HD.out.1.1 HD.out.1.2.1 HD.out.1.2.2 (by omega) (by omega)).mono ?_
  rintro e w1 ⟨m1, rfl, hm, hb1⟩
  have M1 : Hid (Sz n m1 (RqSm x.defs x.vars)) := hm
  have hm1 := hm.1
  have q1 : Hid (Below w.heap.size w w1) := HB.out.trans (hb1.mono (by simp))
  have y1 := fun o => (hb1.cell (p := ⟨w.heap.size, o, none⟩) (by simp)).trans (row_cell (heap_alloc_new _ _) o)
  have ht := HD.out.2
  unfold maxLen at ht
  clear hm hb1
  by_cases g1 : m1 < 0
  · go_wp2_with fail
    go_ret
    exact ⟨-1, rfl, Sz.neg h0, q1.out⟩
  by_cases g2 : m1 - x.t.size < 0
  · go_wp2_with fail
    go_ret
    exact ⟨-1, rfl, Sz.neg h0, q1.out⟩
  go_wp2_with fail
  go_ret
  exact ⟨m1 - x.t.size, rfl, ⟨by omega, by omega, fun _ => ⟨M1.out.2.2 (by omega), by omega⟩⟩, q1.out⟩
set_option maxHeartbeats 2000000 in
theorem sz_dones (a : Option Addr) (c : Nat) (l : List Dn) (n : Int) (w : World) (hr : DnRow 0 w.heap.size w a l) (hl : l.length ≤ maxLen) (ht : ∀ x ∈ l, DnB0 x) (h0 : 0 ≤ n) (h1 : n ≤ 1048576) :
    Calls Tryd.prog 6 #[.slice a l.length c, .int .i64 n] w fun e w' => ∃ m, e = .returned (.int .i64 m) ∧ Sz n m (DnsBd l) ∧ Below w.heap.size w w' := by
  unfold maxLen at hl
  by_cases hz : n - l.length < 0
  · go_enter Tryd.func6, Tryd.ntmps6
    go_wp2_with fail
    go_ret
    exact ⟨-1, rfl, Sz.neg h0, Below.refl _ _⟩
  · have HR : Hid (DnRow 0 w.heap.size w a l) := hr
    have HT : Hid (∀ x ∈ l, DnB0 x) := ht
    clear hr ht
    go_enter Tryd.func6, Tryd.ntmps6
    go_wp2_with fail
    go_loopw [1, 5] (fun r i w' => ∃ (k : Nat) (m : Int), k ≤ l.length ∧ i = .int .i64 k ∧ r = .int .i64 m ∧ 0 ≤ m ∧ m ≤ n ∧ Below w.heap.size w w' ∧ Hid (∀ x ∈ l.take k, DnBd x)) (fun _ i _ => l.length - (intOf i).toNat)
    case atStart => exact ⟨0, _, by omega, rfl, rfl, by omega, by omega, Below.refl _ _, by simp [Hid]⟩
    case round =>
      rename_i wr
      obtain ⟨k, m, hk, rfl, rfl, hm0, hm1, hb, HK⟩ := hrel
      by_cases hlt : k < l.length
      · obtain ⟨g, o, a3, c3, b3, d3, ha, _, hbl, c0, c1, c2, c3x, c4x, c5, c6, c7, r1, r2⟩ := DnRow.cells (HR.out.keep (Below.agree hb (Nat.le_refl _))) k hlt
        subst ha
        have HX : Hid (DnB0 l[k]) := HT.out l[k] (List.getElem_mem hlt)
        have R1 : Hid (DeRow 0 wr.heap.size wr a3 l[k].defs ∧ ArRow 0 wr.heap.size wr b3 l[k].vars) := ⟨DeRow.wide r1 (Nat.le_refl _) hb.size, Row.wide r2 (Nat.le_refl _) hb.size⟩
        clear r1 r2
        go_wp2_with fail
        refine (sz_done l[k] a3 b3 c3 d3 m _ R1.out.1 R1.out.2 HX.out hm0 (by omega)).mono ?_
        rintro e w1 ⟨m1, rfl, hm, hb1⟩
        have HM : Hid (Sz m m1 (DnBd l[k])) := hm
        clear hm c0 c1 c2 c3x c4x c5 c6 c7
        by_cases hneg : m1 < 0
        · go_wp2_with fail
          go_ret
          exact ⟨-1, rfl, Sz.neg h0, hb.trans (hb1.mono hb.size)⟩
        · go_wp2_with fail
          go_roundw
          case rel => exact ⟨k + 1, m1, by omega, by go_num, rfl, by omega, by have := HM.out.1; omega, hb.trans (hb1.mono hb.size), all_take hlt HK.out (HM.out.2.2 (by omega))⟩
          case measure => simp [intOf]; omega
      · go_wp2_with fail
        go_ret
        rw [List.take_of_length_le (by omega)] at HK
        exact ⟨m, rfl, ⟨hm1, by omega, fun _ => ⟨by omega, HK.out⟩⟩, hb⟩
end Go.Proofs.YtgnonbghgcpnoaaDoor
