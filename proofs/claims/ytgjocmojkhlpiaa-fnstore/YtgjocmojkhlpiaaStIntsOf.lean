/- The law's own comparing of numbers; the writes that bytes draw. -/
import Derived.Test.YtgjocmojkhlpiaaStKeysTwo
import Derived.Test.YtgjocmojkhlpiaaStOf
import Derived.Test.YtgjocmojkhlpiaaStPutsOK
namespace Go.Proofs.Ytgjocmojkhlpiaa.G
open Go.ChangeShapes Go.WideShapes Go.ChangeAt Go.RowKit
set_option linter.unusedVariables false

set_option maxHeartbeats 2000000 in
theorem same_ints (a a' : Option Addr) (c c' : Nat) (x : List Int) (w : World) (hr : NuRow 0 w.heap.size w a x) (hr' : NuRow 0 w.heap.size w a' x) (hl : x.length ≤ 1048576) :
    Calls Try.prog 15 #[.slice a x.length c, .slice a' x.length c'] w fun e w' => e = .returned (.bool true) ∧ Below w.heap.size w w' := by
  have HR : Hid _ := hr
  have HR' : Hid _ := hr'
  clear hr hr'
  go_enter Try.func15, Try.ntmps15
  go_wp2_with fail
  go_loopw [5] (fun i w' => ∃ (k q : Nat), k ≤ x.length ∧ i = .int .i64 k ∧ w' = w.drewN q) (fun i _ => x.length - (intOf i).toNat)
  case atStart => exact ⟨0, 0, by omega, rfl, rfl⟩
  case round =>
    obtain ⟨k, q, hk, rfl, rfl⟩ := hrel
    by_cases hlt : k < x.length
    · obtain ⟨b, o, ha, _, hbl, d0⟩ := NuRow.cells HR.out k hlt
      obtain ⟨b', o', ha', _, hbl', d1⟩ := NuRow.cells HR'.out k hlt
      subst ha ha'
      have hlt' : (k : Int) < x.length := by omega
      go_wp2_with fail
      go_quiet (fail)
      go_wp2_with fail
      exact ⟨⟨k + 1, q + nq, by omega, by go_num, by simp⟩, by simp [intOf]; omega⟩
    · go_wp2_with fail
      go_ret
      exact ⟨rfl, below_drewN (Below.refl _ _) _⟩
set_option maxHeartbeats 1000000 in
theorem putsOf_any (n c : Nat) (a : Option Addr) (w : World) (hr : ByteRow w.heap.size w a n) (hn : n ≤ 1048576) :
    Calls Try.prog 5 #[.slice a n c] w fun e w' => (∃ (ps : List Ve) (a' : Option Addr) (c' : Nat), e = .returned (.slice a' ps.length c') ∧ VeRow 0 w'.heap.size w' a' ps ∧ putsB ps = true) ∧ Below w.heap.size w w' := by
  have HR : Hid _ := hr
  clear hr
  go_enter Try.func5, Try.ntmps5
  go_wp2_with fail
  refine (source_any n c a _ hn).mono ?_
  rintro e w1 ⟨rfl, s1, b1⟩
  have z1 := b1.size
  have HR1 : Hid (ByteRow w.heap.size w1 a n) := ByteRow.keep HR.out z1 (fun k hk => b1.block k hk)
  have HS1 : Hid _ := s1
  have B1 : Hid _ := b1
  clear s1 b1 HR
  go_wp2_with fail
  refine (puts_any w.heap.size n 0 a _ HS1.out HR1.out (by omega) hn).mono ?_
  rintro e w2 ⟨⟨ps, a', c', rfl, r2, hl2, hp2⟩, _, g2⟩
  have R2 : Hid _ := r2
  have HP2 : Hid (putsB ps = true) := putsB_yes (by omega) (fun i hi => hp2 ps[i] (List.getElem_mem hi))
  have B2 : Hid (Below w.heap.size w w2) := B1.out.grown g2 z1 (fun k hk => by simp only [Option.some.injEq] at hk; omega)
  clear r2 hp2 g2
  go_wp2_with fail
  go_ret
  exact ⟨⟨ps, a', c', rfl, R2.out, HP2.out⟩, B2.out⟩
end Go.Proofs.Ytgjocmojkhlpiaa.G
