/- The law's draws: a place that bytes choose. -/
import Derived.Test.YtjbogjoadcikhaaDoorSrc
namespace Go.Proofs.YtjbogjoadcikhaaDoor
open Go.ChangeShapes Go.WideShapes Go.ChangeAt Go.RowKit
set_option linter.unusedVariables false

theorem tmod_nat (i m : Nat) (hm : 0 < m) : ∃ r : Nat, (i : Int).tmod m = (r : Int) ∧ r < m :=
  ⟨i % m, by rw [Int.tmod_eq_emod_of_nonneg (by omega)]; omega, Nat.mod_lt _ hm⟩
theorem tdiv_nat (i m : Nat) : ∃ r : Nat, (i : Int).tdiv m = (r : Int) ∧ r ≤ i :=
  ⟨i / m, by rw [Int.tdiv_eq_ediv_of_nonneg (by omega)]; omega, Nat.div_le_self _ _⟩
theorem tmod_int {x : Int} {m : Nat} (hx : 0 ≤ x) (hm : 0 < m) : ∃ r : Nat, x.tmod m = (r : Int) ∧ r < m := by
  obtain ⟨k, rfl⟩ := Int.eq_ofNat_of_zero_le hx
  exact tmod_nat k m hm
set_option maxHeartbeats 2000000 in
theorem at_any (a : Option Addr) (m c i : Nat) (w : World) (hr : ByteRow w.heap.size w a m) (hi : i ≤ 4000) (hm : m ≤ 1048576) :
    Calls Tryd.prog 9 #[.slice a m c, .int .i64 i, .int .i64 4] w fun e w' => (∃ v : Nat, v < 4 ∧ e = .returned (.int .i64 v)) ∧ Below w.heap.size w w' := by
  by_cases h0 : m = 0
  · subst h0
    clear hr
    obtain ⟨r, hr, hr2⟩ := tmod_int (x := (i : Int) * 7) (m := 4) (by omega) (by omega)
    have HR : Hid _ := hr
    clear hr
    go_enter Tryd.func9, Tryd.ntmps9
    go_wp2_with fail
    go_ret
    exact ⟨⟨r, hr2, by rw [← HR.out]; rfl⟩, Below.refl _ _⟩
  · obtain ⟨b, o, rfl, hb, hc⟩ := hr.at_ (by omega)
    obtain ⟨r1, q1, b1⟩ := tmod_nat i m (by omega)
    obtain ⟨r2, q2, b2⟩ := tmod_nat (i + 1) m (by omega)
    obtain ⟨r3, q3, b3⟩ := tdiv_nat i m
    obtain ⟨c1, l1, e1⟩ := hc r1 b1
    obtain ⟨c2, l2, e2⟩ := hc r2 b2
    obtain ⟨r4, q4, b4⟩ := tmod_int (x := (c1 : Int) * 31 + c2 + r3) (m := 4) (by omega) (by omega)
    rw [show ((i + 1 : Nat) : Int) = (i : Int) + 1 by omega] at q2
    have HR : Hid _ := q4
    have hb1 : (r1 : Int) < m := by omega
    have hb2 : (r2 : Int) < m := by omega
    have hmz : (m : Int) ≠ 0 := by omega
    clear hc hr q4
    go_enter Tryd.func9, Tryd.ntmps9
    go_wp2_with fail
    go_quiet (fail)
    go_wp2_with fail
    go_ret
    exact ⟨⟨r4, b4, by rw [← HR.out]; rfl⟩, ⟨rfl, rfl, rfl, Nat.le_refl _, fun _ _ => rfl⟩⟩
end Go.Proofs.YtjbogjoadcikhaaDoor
