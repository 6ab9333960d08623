/- The law's own comparing of stores: of one store it says yes. -/
import Derived.Test.YtoojbgngjnepeaaStSpecTwo
import Derived.BigQuiet
import Derived.Deep.CutRange
import Derived.Deep.CutBlock
namespace Go.Proofs.Ytoojbgngjnepeaa.G
open Go.ChangeShapes Go.WideShapes Go.ChangeAt Go.RowKit
set_option linter.unusedVariables false

set_option maxHeartbeats 4000000 in
theorem same_store (a a' : Option Addr) (c c' : Nat) (l : Chs) (now : Int) (w : World) (hr : ChRow 0 w.heap.size w a l) (hr' : ChRow 0 w.heap.size w a' l) (hbd : ChsBd 1048576 l) :
    Calls Try.prog 9 #[.agg #[.slice a l.length c, .int .i64 now], .agg #[.slice a' l.length c', .int .i64 now]] w fun e w' => e = .returned (.bool true) ∧ Below w.heap.size w w' := by
  obtain ⟨V, hV⟩ : ∃ V : World, V = (w.alloc (.cells #[.slice a l.length c, .int .i64 now] 25)).alloc (.cells #[.slice a' l.length c', .int .i64 now] 25) := ⟨_, rfl⟩
  have zV : w.heap.size + 2 ≤ V.heap.size := by rw [hV]; simp
  have bV : Below w.heap.size w V := by
    rw [hV]
    repeat (first | exact Below.refl _ _ | refine Below.alloc ?_ (by first | omega | (simp <;> omega)) _)
  have c0 : V.heap[w.heap.size]? = some (.cells #[.slice a l.length c, .int .i64 now] 25 (0, 0)) := by
    rw [hV, Below.heap_alloc _ _ _ (by simp <;> omega)]; exact heap_alloc_new _ _
  have c1 : V.heap[w.heap.size + 1]? = some (.cells #[.slice a' l.length c', .int .i64 now] 25 (0, 0)) := by
    have := heap_alloc_new (w.alloc (.cells #[.slice a l.length c, .int .i64 now] 25)) (.cells #[.slice a' l.length c', .int .i64 now] 25)
    rw [hV]; simpa using this
  have KV : Hid (∀ W, Below V.heap.size V W → (W.heap[w.heap.size]? = some (.cells #[.slice a l.length c, .int .i64 now] 25 (0, 0)) ∧ W.heap[w.heap.size + 1]? = some (.cells #[.slice a' l.length c', .int .i64 now] 25 (0, 0))) ∧ Below w.heap.size w W) := fun W h => ⟨⟨(h.block _ (by omega)).trans c0, (h.block _ (by omega)).trans c1⟩, bV.trans (h.mono (by omega))⟩
  have HR : Hid _ := hr
  have HR' : Hid _ := hr'
  have hl := hbd.1
  have HT : Hid _ := hbd.2
  have x0 := fun o => row_cell c0 o
  have x1 := fun o => row_cell c1 o
  clear hr hr' hbd c0 c1 bV
  go_enter Try.func9, Try.ntmps9
  go_upto_region 1 with fail
  rw [← hV]
  clear hV
  go_wp2_with fail
  go_loopw [5] (fun i w' => ∃ (k : Nat), k ≤ l.length ∧ i = .int .i64 k ∧ Hid (Below V.heap.size V w')) (fun i _ => l.length - (intOf i).toNat)
  case atStart => exact ⟨0, by omega, rfl, Below.refl _ _⟩
  case round =>
    obtain ⟨wo, rfl⟩ : ∃ x, x = wr := ⟨_, rfl⟩
    obtain ⟨k, hk, rfl, HB⟩ := hrel
    obtain ⟨⟨e0, e1⟩, q⟩ := KV.out _ HB.out
    have x5 := fun o => row_cell e0 o
    have x6 := fun o => row_cell e1 o
    have Q : Hid _ := q
    by_cases hlt : k < l.length
    case neg =>
      obtain rfl : k = l.length := by omega
      have hlt' : ¬ (l.length : Int) < l.length := by omega
      clear e0 e1 q x0 x1
      go_wp2_with fail
      go_ret
      exact ⟨rfl, Q.out⟩
    obtain ⟨b, o, a3, c3, ha, _, hbl, d0, _, r3⟩ := ChRow.cells (ChRow.keep HR.out (agree q (Nat.le_refl _))) k hlt
    obtain ⟨b', o', a4, c4, ha', _, hbl', d0', _, r4⟩ := ChRow.cells (ChRow.keep HR'.out (agree q (Nat.le_refl _))) k hlt
    subst ha ha'
    have hX : l[k].length ≤ 1048576 := HT.out l[k] (List.getElem_mem hlt)
    have R3 : Hid _ := r3
    have R4 : Hid _ := r4
    have hlt' : (k : Int) < l.length := by omega
    have D0 : Hid _ := d0
    have D1 : Hid _ := d0'
    have zo := HB.out.size
    clear e0 e1 q r3 r4 x0 x1
    go_wp2_with fail
    go_quiet (fail)
    go_wp2_with fail
    go_loopw [6] (fun i w' => ∃ (n : Nat), n ≤ l[k].length ∧ i = .int .i64 n ∧ Hid (Below wo.heap.size wo w')) (fun i _ => l[k].length - (intOf i).toNat)
    case atStart => exact ⟨0, by omega, rfl, below_drewN (Below.refl _ _) _⟩
    case round =>
      obtain ⟨wi, rfl⟩ : ∃ x, x = wr := ⟨_, rfl⟩
      obtain ⟨n, hn, rfl, HI⟩ := hrel
      have QI : Hid (Below V.heap.size V wi) := HB.out.trans (HI.out.mono (by omega))
      obtain ⟨⟨e0, e1⟩, _⟩ := KV.out _ QI.out
      have x7 := fun o => row_cell e0 o
      have x8 := fun o => row_cell e1 o
      have d5 := (HI.out.cell (p := ⟨b, o + k, none⟩) (show b < wo.heap.size by omega)).trans D0.out
      have d6 := (HI.out.cell (p := ⟨b', o' + k, none⟩) (show b' < wo.heap.size by omega)).trans D1.out
      by_cases hnt : n < l[k].length
      · have hnt' : (n : Int) < l[k].length := by omega
        obtain ⟨b2, o2, ha2, _, hbl2, f0, f1⟩ := VeRow.cells (VeRow.keep R3.out (agree HI.out (by omega))) n hnt
        obtain ⟨b3, o3, ha3, _, hbl3, f2, f3⟩ := VeRow.cells (VeRow.keep R4.out (agree HI.out (by omega))) n hnt
        subst ha2 ha3
        clear e0 e1 x5 x6 d0 d0'
        go_wp2_with fail
        go_quiet (fail)
        go_wp2_with fail
        exact ⟨⟨n + 1, by omega, by go_num, below_drewN HI.out _⟩, by simp [intOf]; omega⟩
      · obtain rfl : n = l[k].length := by omega
        have hnt' : ¬ (l[k].length : Int) < l[k].length := by omega
        clear e0 e1 x5 x6 d0 d0'
        go_wp2_with fail
        exact ⟨⟨k + 1, by omega, by go_num, QI⟩, by simp [intOf]; omega⟩
end Go.Proofs.Ytoojbgngjnepeaa.G
