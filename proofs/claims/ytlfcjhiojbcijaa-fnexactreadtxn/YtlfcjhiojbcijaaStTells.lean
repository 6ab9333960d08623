/- What a store tells of a key, and whether it changed (methods of stores). -/
import Derived.Test.YtlfcjhiojbcijaaStUp
namespace Go.Proofs.Ytlfcjhiojbcijaa.G
open Go.ChangeShapes Go.WideShapes Go.ChangeAt Go.RowKit
set_option linter.unusedVariables false

set_option maxHeartbeats 2000000 in
theorem tells_at (a : Option Addr) (c : Nat) (l : Chs) (now ts : Int) (k : Nat) (w : World) (hr : ChRow 0 w.heap.size w a l) (hbd : ChsBd 1048576 l) (hk : k < l.length) (hrise : Rise l[k]) :
    Calls Try.prog 33 #[.agg #[.slice a l.length c, .int .i64 now], .int .i64 k, .int .i64 ts] w fun e w' => e = .returned (.int .i64 (readV l[k] ts)) ∧ Below w.heap.size w w' := by
  have B0 : Hid (Below w.heap.size w (w.alloc (.cells #[.slice a l.length c, .int .i64 now] 38))) := (Below.refl _ _).alloc (Nat.le_refl _) _
  obtain ⟨b, o, a3, c3, ha, _, hbl, d0, _, r3⟩ := ChRow.cells (ChRow.up hr B0.out) k hk
  have R3 : Hid (VeRow 0 _ _ a3 l[k]) := r3
  have HX : Hid (l[k].length ≤ 1048576) := hbd.2 l[k] (List.getElem_mem hk)
  have HS : Hid _ := hrise
  have hk' : (k : Int) < l.length := by omega
  subst ha
  clear r3 hr hbd hrise
  go_enter Try.func33, Try.ntmps33
  go_wp2_with fail
  refine (value_at a3 c3 l[k] ts _ R3.out HX.out HS.out).mono ?_
  rintro e w1 ⟨rfl, b1⟩
  have Q : Hid _ := below_one b1
  clear b1
  go_wp2_with fail
  go_ret
  exact ⟨rfl, Q.out⟩
set_option maxHeartbeats 2000000 in
theorem changed_at (a : Option Addr) (c : Nat) (l : Chs) (now ts : Int) (k : Nat) (w : World) (hr : ChRow 0 w.heap.size w a l) (hbd : ChsBd 1048576 l) (hk : k < l.length) (hrise : Rise l[k]) :
    Calls Try.prog 72 #[.agg #[.slice a l.length c, .int .i64 now], .int .i64 k, .int .i64 ts] w fun e w' => e = .returned (.bool (chgB l[k] ts)) ∧ Below w.heap.size w w' := by
  have B0 : Hid (Below w.heap.size w (w.alloc (.cells #[.slice a l.length c, .int .i64 now] 38))) := (Below.refl _ _).alloc (Nat.le_refl _) _
  obtain ⟨b, o, a3, c3, ha, _, hbl, d0, _, r3⟩ := ChRow.cells (ChRow.up hr B0.out) k hk
  have R3 : Hid (VeRow 0 _ _ a3 l[k]) := r3
  have HX : Hid (l[k].length ≤ 1048576) := hbd.2 l[k] (List.getElem_mem hk)
  have HS : Hid _ := hrise
  have hk' : (k : Int) < l.length := by omega
  subst ha
  clear r3 hr hbd hrise
  go_enter Try.func72, Try.ntmps72
  go_wp2_with fail
  refine (changed_since a3 c3 l[k] ts _ R3.out HX.out HS.out).mono ?_
  rintro e w1 ⟨rfl, b1⟩
  have Q : Hid _ := below_one b1
  clear b1
  go_wp2_with fail
  go_ret
  exact ⟨rfl, Q.out⟩
end Go.Proofs.Ytlfcjhiojbcijaa.G
