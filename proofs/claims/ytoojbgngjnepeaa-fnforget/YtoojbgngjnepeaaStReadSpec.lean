/- ReadAt, ChangedSince, SizeOf: what the specification computes. -/
import Derived.Test.YtoojbgngjnepeaaStRead
namespace Go.Proofs.Ytoojbgngjnepeaa.G
open Go.ChangeShapes Go.WideShapes Go.ChangeAt Go.RowKit
set_option linter.unusedVariables false

theorem keyB_in (key : Int) : inB key 0 15 = keyB key := by unfold inB keyB; rw [Bool.eq_iff_iff]; simp; omega
set_option maxHeartbeats 1000000 in
theorem spec_ask (a : Option Addr) (c : Nat) (l : Chs) (now key ts : Int) (w : World) (hr : ChRow 0 w.heap.size w a l) (hbd : ChsBd 1048576 l) :
    Calls Try.prog 21 #[.agg #[.slice a l.length c, .int .i64 now], .int .i64 key, .int .i64 ts] w fun e w' => e = .returned (.int .i64 (askN l now key ts)) ∧ Below w.heap.size w w' := by
  have B0 : Hid (Below w.heap.size w (w.alloc (.cells #[.slice a l.length c, .int .i64 now] 25))) := (Below.refl _ _).alloc (Nat.le_refl _) _
  have HR : Hid (ChRow 0 _ _ a l) := ChRow.up hr B0.out
  have HE : Hid _ := hbd
  clear hr hbd
  go_enter Try.func21, Try.ntmps21
  go_wp2_with fail
  refine (spec_storeOK a c l now _ HR.out HE.out).mono ?_
  rintro e w1 ⟨rfl, hb1⟩
  have c1 := fun o => hb1.cell (p := ⟨w.heap.size, o, none⟩) (by simp)
  have Q : Hid (Below w.heap.size w w1) := below_one hb1
  clear hb1
  cases hs : storeB l now
  · have HN : Hid ((1 : Int) = askN l now key ts) := by simp [Hid, askN, hourN, hs]
    clear hs
    go_wp2_with fail
    go_ret
    exact ⟨ret_i HN.out, Q.out⟩
  · cases hk : keyB key
    · have HN : Hid ((4 : Int) = askN l now key ts) := by
        simp only [Hid, askN, hourN, hs]
        by_cases hx : inB ts 0 now = true <;> simp [hx, hk]
      have HK : Hid (inB key 0 15 = false) := by rw [Hid, keyB_in]; exact hk
      clear hs hk
      go_wp2_with (first | (go_at_call 38; refine (spec_in _ _ _ _ HK.out).mono ?_; rintro e w' ⟨rfl, rfl⟩))
      go_ret
      exact ⟨ret_i HN.out, Q.out⟩
    · have HK : Hid (inB key 0 15 = true) := by rw [Hid, keyB_in]; exact hk
      cases ht : inB ts 0 now
      · have HN : Hid ((4 : Int) = askN l now key ts) := by simp [Hid, askN, hourN, hs, ht]
        have HT : Hid _ := ht
        clear hs hk ht
        go_wp2_with (first | (go_at_call 38; refine (spec_in _ _ _ _ rfl).mono ?_; rintro e w' ⟨rfl, rfl⟩; (first | rw [HK.out] | rw [HT.out])))
        go_ret
        exact ⟨ret_i HN.out, Q.out⟩
      · have HN : Hid ((0 : Int) = askN l now key ts) := by simp [Hid, askN, hourN, hs, hk, ht]
        have HT : Hid _ := ht
        clear hs hk ht
        go_wp2_with (first | (go_at_call 38; refine (spec_in _ _ _ _ rfl).mono ?_; rintro e w' ⟨rfl, rfl⟩; (first | rw [HK.out] | rw [HT.out])))
        go_ret
        exact ⟨ret_i HN.out, Q.out⟩
end Go.Proofs.Ytoojbgngjnepeaa.G
