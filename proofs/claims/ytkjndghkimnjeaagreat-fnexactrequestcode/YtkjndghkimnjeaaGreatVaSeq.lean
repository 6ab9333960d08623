/- slices.Values of a list of arguments. -/
import Derived.Test.YtkjndghkimnjeaaGreatVaCmpA
import Derived.RangeFuncNested
import Derived.RangeFuncBound
import Derived.RangeFuncCalls
import Derived.RangeFuncLeaves
import Derived.RangeFuncBox
import Derived.Shelf.Abstract
import Derived.Shelf.RegionOpen
import Derived.WalkKit
import Derived.OwnWalkIn
import Derived.TacticsInMore
import Derived.LoopNIn
import Derived.LoopIn
namespace Go.Proofs.YtkjndghkimnjeaaGreat
open Go.ChangeShapes Go.WideShapes Go.ChangeAt Go.RowKit Go.Maps Go.Shelf
set_option linter.unusedVariables false
attribute [local go_sem] Oper.semAt_some

def arV (x : Ar) : Value := .agg #[.string x.nm, .int .i64 x.v.k, .int .i64 x.v.n, .string x.v.t]
set_option maxRecDepth 100000 in
set_option maxHeartbeats 2000000 in
theorem values1_ar (F : Fence) (n : Nat) (h7 : F.fn 165) (hro : F.round = none) (hn : 1 ≤ n) (l Bs n₀ b off cap : Nat) (zs : List Ar) (hz : zs.length ≤ 1048576) (hb : b < n₀) (J Jx : List Ar → World → Prop) (hJ : ∀ s W o, J s W → J s (W.alloc o))
    (hY : ∀ pre x W, J pre W → pre.length < zs.length → YieldAt F (n - 1) Tryz.prog l #[arV x] W fun e W' =>
      (e = .returned (.bool true) ∧ J (pre ++ [x]) W' ∧ Below n₀ W W') ∨ (e = .returned (.bool false) ∧ Jx (pre ++ [x]) W'))
    (W : World) (hW0 : n₀ ≤ W.heap.size) (hBs : W.cell? ⟨Bs, 0, none⟩ = some (.slice (some ⟨b, off, none⟩) zs.length cap))
    (hc : ∀ j (hj : j < zs.length), W.cell? ⟨b, off + j * 4, none⟩ = some (.string zs[j].nm) ∧ W.cell? ⟨b, off + j * 4 + 1, none⟩ = some (.int .i64 zs[j].v.k) ∧ W.cell? ⟨b, off + j * 4 + 2, none⟩ = some (.int .i64 zs[j].v.n) ∧ W.cell? ⟨b, off + j * 4 + 3, none⟩ = some (.string zs[j].v.t)) (h0 : J [] W) :
    CallsIn F n Tryz.prog 165 #[.func (.yield l) #[] #[], .pointer (some ⟨Bs, 0, none⟩)] W fun e W' => (∃ v, e = .returned v) ∧
      ((∃ ys, ys = zs ∧ J ys W') ∨ (∃ pre, pre <+: zs ∧ Jx pre W')) := by
  refine callsIn_of_wp Tryz.func165 rfl h7 ?_ hro
  simp only [Tryz.ntmps165, List.size_toArray, List.length_cons, List.length_nil, Nat.reduceAdd, Nat.reduceSub, Array.replicate_succ, Array.replicate_zero, List.push_toArray, List.append_toArray, List.nil_append, List.cons_append]
  gi_wp2
  gi_loopw [7] (fun i wr => ∃ k : Nat, k ≤ zs.length ∧ i = .int .i64 k ∧ J (zs.take k) wr ∧ Below n₀ W wr)
    (fun i _ => zs.length - (intOf i).toNat)
  case atStart => exact ⟨0, Nat.zero_le _, rfl, h0, Below.refl _ _⟩
  case round =>
    obtain ⟨k, hk, rfl, hJs, hnx⟩ := hrel
    by_cases hlt : k < zs.length
    · obtain ⟨fn, tmps, assign, body, hy, hR⟩ := hY _ zs[k] _ (hJ _ _ (.cells #[.string zs[k].nm, .int .i64 zs[k].v.k, .int .i64 zs[k].v.n, .string zs[k].v.t] 134) hJs) (by rw [List.length_take]; omega)
      obtain ⟨g0, g1, g2, g3⟩ := hc k hlt
      have c0 := (hnx.cell (p := ⟨b, off + k * 4, none⟩) hb).trans g0
      have c1 := (hnx.cell (p := ⟨b, off + k * 4 + 1, none⟩) hb).trans g1
      have c2 := (hnx.cell (p := ⟨b, off + k * 4 + 2, none⟩) hb).trans g2
      have c3 := (hnx.cell (p := ⟨b, off + k * 4 + 3, none⟩) hb).trans g3
      have hna : Below n₀ W (wr.alloc (.cells #[.string zs[k].nm, .int .i64 zs[k].v.k, .int .i64 zs[k].v.n, .string zs[k].v.t] 134)) := hnx.alloc (by have := hnx.size; omega) _
      clear g0 g1 g2 g3 hc hY
      unfold arV at hy
      have hlt' : (k : Int) < zs.length := by omega
      gi_wp2
      refine hR.mono ?_
      rintro e W3 (⟨rfl, hJ3, hk3⟩ | ⟨rfl, hJx3⟩)
      · gi_wp2
        go_roundw
        case rel => exact ⟨k + 1, by omega, by go_num, by rw [List.take_succ_eq_append_getElem hlt]; exact hJ3, hna.trans hk3⟩
        case measure => simp [intOf]; omega
      · gi_wp2
        refine bodyPost_ret (results_none rfl _ _ _) rfl ?_
        exact ⟨⟨_, rfl⟩, .inr ⟨_, by rw [← List.take_succ_eq_append_getElem hlt]; exact List.take_prefix _ _, hJx3⟩⟩
    · obtain rfl : k = zs.length := by omega
      have hlt' : ¬ ((zs.length : Nat) : Int) < zs.length := by omega
      clear hc hY
      gi_wp2
      go_end0
      exact ⟨⟨_, rfl⟩, .inl (by simpa using hJs)⟩
set_option maxRecDepth 100000 in
set_option maxHeartbeats 1000000 in
theorem values1_none (F : Fence) (n : Nat) (h7 : F.fn 165) (hro : F.round = none) (l Bs : Nat) (a : Option Addr) (cap : Nat) (J : List Ar → World → Prop) (W : World) (hBs : W.cell? ⟨Bs, 0, none⟩ = some (.slice a 0 cap)) (h0 : J [] W) :
    CallsIn F n Tryz.prog 165 #[.func (.yield l) #[] #[], .pointer (some ⟨Bs, 0, none⟩)] W fun e W' => (∃ v, e = .returned v) ∧ J [] W' := by
  refine callsIn_of_wp Tryz.func165 rfl h7 ?_ hro
  simp only [Tryz.ntmps165, List.size_toArray, List.length_cons, List.length_nil, Nat.reduceAdd, Nat.reduceSub, Array.replicate_succ, Array.replicate_zero, List.push_toArray, List.append_toArray, List.nil_append, List.cons_append]
  gi_wp2
  gi_loopw [7] (fun i wr => i = .int .i64 0 ∧ J [] wr) (fun _ _ => 0)
  case atStart => exact ⟨rfl, h0⟩
  case round =>
    obtain ⟨rfl, hJs⟩ := hrel
    gi_wp2
    go_end0
    exact ⟨⟨_, rfl⟩, hJs⟩
set_option maxHeartbeats 1000000 in
theorem values_ar (F : Fence) (n : Nat) (h5 : F.fn 159) (hro : F.round = none) (a : Option Addr) (len cap : Nat) (w : World) :
    CallsIn F n Tryz.prog 159 #[.slice a len cap] w fun e w' => e = .returned (.func (.func 165) #[] #[.pointer (some ⟨w.heap.size, 0, none⟩)]) ∧ w' = w.alloc (.cells #[.slice a len cap] 112) := by
  refine callsIn_of_wp Tryz.func159 rfl h5 ?_ hro
  simp only [Tryz.ntmps159, List.size_toArray, List.length_cons, List.length_nil, Nat.reduceAdd, Nat.reduceSub, Array.replicate_succ, Array.replicate_zero, List.push_toArray, List.append_toArray, List.nil_append, List.cons_append]
  gi_wp2
  go_ret
  exact ⟨rfl, rfl⟩
theorem values_stops_ar (F : Fence) (n : Nat) (h7 : F.fn 165) (hro : F.round = none) (hn : 1 ≤ n) (Bs n₀ : Nat) (a : Option Addr) (cap : Nat) (zs : List Ar) (hz : zs.length ≤ 1048576) (w : World) (hBs : Bs < w.heap.size) (hn₀ : n₀ ≤ w.heap.size)
    (hc : w.cell? ⟨Bs, 0, none⟩ = some (.slice a zs.length cap)) (hI : ArRow 0 n₀ w a zs) :
    SeqStopsK F n Tryz.prog 165 #[.pointer (some ⟨Bs, 0, none⟩)] (fun x : Ar => #[arV x]) (Below n₀) (fun ys => ys = zs) (fun pre => pre <+: zs) zs.length w := fun l J Jx W hW hJ _ hY h0 => by
  have hc' := (hW.cell (p := ⟨Bs, 0, none⟩) hBs).trans hc
  have hws := hW.size
  cases hzs : zs with
  | nil =>
    subst hzs
    exact (values1_none F n h7 hro l Bs a cap J W hc' h0).mono fun e W' ⟨he, hj⟩ => ⟨he, .inl ⟨_, rfl, hj⟩⟩
  | cons x r =>
    rw [← hzs]
    have hl0 : 0 < zs.length := by rw [hzs]; simp
    clear hzs
    obtain ⟨b, o, rfl, _, hb, _⟩ := Row.cells_ar hI 0 hl0
    refine values1_ar F n h7 hro hn l Bs n₀ b o cap zs hz hb J Jx (fun s V q hs => hJ s V _ none hs (World.grownBy_alloc V q none) (fun r e => by cases e)) hY W (by omega) hc' (fun j hj => ?_) h0
    obtain ⟨b', o', he, _, _, q0, q1, q2, q3⟩ := Row.cells_ar hI j hj
    cases he
    exact ⟨(hW.cell (p := ⟨b, o + j * 4, none⟩) (show b < w.heap.size by omega)).trans q0, (hW.cell (p := ⟨b, o + j * 4 + 1, none⟩) (show b < w.heap.size by omega)).trans q1, (hW.cell (p := ⟨b, o + j * 4 + 2, none⟩) (show b < w.heap.size by omega)).trans q2, (hW.cell (p := ⟨b, o + j * 4 + 3, none⟩) (show b < w.heap.size by omega)).trans q3⟩
end Go.Proofs.YtkjndghkimnjeaaGreat
