/- Stores that a call owns or that are empty: marks in them. -/
import Derived.Test.YtlfcjhiojbcijaaStMark
namespace Go.Proofs.Ytlfcjhiojbcijaa.G
open Go.ChangeShapes Go.WideShapes Go.ChangeAt Go.RowKit
set_option linter.unusedVariables false

def StHas (lo hi : Nat) (w : World) (a : Option Addr) (l : Chs) (bs : Nat → Nat) : Prop := l = [] ∨ StOwn lo hi w a l bs
def StMkd (lo hi : Nat) (w : World) (a : Option Addr) (l : Chs) (bs : Nat → Nat) (K : Int) : Prop := l = [] ∨ StMk lo hi w a l bs K l.length
theorem StHas.keep {lo hi : Nat} {w w' : World} {a : Option Addr} {l : Chs} {bs : Nat → Nat} (h : StHas lo hi w a l bs) (hk : Agree lo hi w w') : StHas lo hi w' a l bs := h.imp id (fun h => h.keep hk)
theorem StHas.row {lo hi : Nat} {w : World} {a : Option Addr} {l : Chs} {bs : Nat → Nat} (h : StHas lo hi w a l bs) : ChRow lo hi w a l := h.elim (fun h => .inl h) (fun h => h.row)
theorem StMkd.keep {lo hi : Nat} {w w' : World} {a : Option Addr} {l : Chs} {bs : Nat → Nat} {K : Int} (h : StMkd lo hi w a l bs K) (hk : Agree lo hi w w') : StMkd lo hi w' a l bs K := h.imp id (fun h => h.keep hk)
set_option maxHeartbeats 2000000 in
theorem mark_Chs0 (a : Option Addr) (c : Nat) (K : Int) (w : World) :
    Calls Try.prog 37 #[.slice a 0 c, .int .i64 K] w fun e w' => e = .returned (.int .i64 K) ∧ w' = w := by
  go_enter Try.func37, Try.ntmps37
  go_wp2_with fail
  go_loop [1, 5] (fun s i => s = .int .i64 K ∧ i = .int .i64 0) (fun _ _ => 0)
  case atStart => exact ⟨rfl, rfl⟩
  case round =>
    obtain ⟨rfl, rfl⟩ := hrel
    go_wp2_with fail
    go_ret
    exact ⟨rfl, rfl⟩
set_option maxHeartbeats 2000000 in
theorem mark_has (a : Option Addr) (c : Nat) (l : Chs) (now : Int) (lo hi : Nat) (bs : Nat → Nat) (K : Int) (w : World) (ho : StHas lo hi w a l bs) (hbd : ChsBd 1048576 l) (hsz : sizeN l ≤ 1099511627776) (hhi : hi ≤ w.heap.size) (h0 : 0 ≤ K) (h1 : K ≤ 1073741824) :
    Calls Try.prog 13 #[.agg #[.slice a l.length c, .int .i64 now], .int .i64 K] w fun e w' => ∃ r : Int, e = .returned (.int .i64 r) ∧ r = K + 2 * sizeN l ∧ StMkd lo hi w' a l bs K ∧ KeptS lo hi w w' := by
  rcases ho with rfl | ho
  · have B0 : Hid (Below w.heap.size w (w.alloc (.cells #[.slice a 0 c, .int .i64 now] 38))) := (Below.refl _ _).alloc (Nat.le_refl _) _
    go_enter Try.func13, Try.ntmps13
    go_wp2_with fail
    refine (mark_Chs0 a c K _).mono ?_
    rintro e w1 ⟨rfl, rfl⟩
    go_wp2_with fail
    go_ret
    exact ⟨_, rfl, by simp [sizeN], .inl rfl, KeptS.of B0.out⟩
  · refine (mark_store a c l now lo hi bs K w ho hbd hsz hhi h0 h1).mono ?_
    rintro e w' ⟨r, rfl, hr, hm, hk⟩
    exact ⟨r, rfl, hr, .inr hm, hk⟩
end Go.Proofs.Ytlfcjhiojbcijaa.G
