/- ReadAt, ChangedSince, SizeOf: what the specification computes. -/
import Derived.Test.YtljnhecdelimfaaStRead
namespace Go.Proofs.Ytljnhecdelimfaa.G
open Go.ChangeShapes Go.WideShapes Go.ChangeAt Go.RowKit
set_option linter.unusedVariables false

theorem keyB_in (key : Int) : inB key 0 15 = keyB key := by unfold inB keyB; rw [Bool.eq_iff_iff]; simp; omega
set_option maxHeartbeats 1000000 in
theorem spec_ask (a : Option Addr) (c : Nat) (l : Chs) (now key ts : Int) (w : World) (hr : ChRow 0 w.heap.size w a l) (hbd : ChsBd 1048576 l) :
    Calls Try.prog 36 #[.agg #[.slice a l.length c, .int .i64 now], .int .i64 key, .int .i64 ts] w fun e w' => e = .returned (.int .i64 (askN l now key ts)) ∧ Below w.heap.size w w' := by
  have B0 : Hid (Below w.heap.size w (w.alloc (.cells #[.slice a l.length c, .int .i64 now] 25))) := (Below.refl _ _).alloc (Nat.le_refl _) _
  have HR : Hid (ChRow 0 _ _ a l) := ChRow.up hr B0.out
  have HE : Hid _ := hbd
  clear hr hbd
  go_enter Try.func36, Try.ntmps36
  go_wp2_with fail
  refine (spec_storeOK a c l now _ HR.out HE.out).mono ?_
  rintro e w1 ⟨rfl, hb1⟩
  have c1 := fun o => hb1.cell (p := ⟨w.heap.size, o, none⟩) (by simp)
  have Q : Hid (Below w.heap.size w w1) := below_one hb1
  clear hb1
  cases hs : storeB l now
  · have HN : Hid ((1 : Int) = askN l now key ts) := by simp [Hid, askN, hourN, hs]
    clear hs
    go_wp2_with fail
    go_ret
    exact ⟨ret_i HN.out, Q.out⟩
  · cases hk : keyB key
    · have HN : Hid ((4 : Int) = askN l now key ts) := by
        simp only [Hid, askN, hourN, hs]
        by_cases hx : inB ts 0 now = true <;> simp [hx, hk]
      have HK : Hid (inB key 0 15 = false) := by rw [Hid, keyB_in]; exact hk
      clear hs hk
      go_wp2_with (first | (go_at_call 47; refine (spec_in _ _ _ _ HK.out).mono ?_; rintro e w' ⟨rfl, rfl⟩))
      go_ret
      exact ⟨ret_i HN.out, Q.out⟩
    · have HK : Hid (inB key 0 15 = true) := by rw [Hid, keyB_in]; exact hk
      cases ht : inB ts 0 now
      · have HN : Hid ((4 : Int) = askN l now key ts) := by simp [Hid, askN, hourN, hs, ht]
        have HT : Hid _ := ht
        clear hs hk ht
        go_wp2_with (first | (go_at_call 47; refine (spec_in _ _ _ _ rfl).mono ?_; rintro e w' ⟨rfl, rfl⟩; (first | rw [HK.out] | rw [HT.out])))
        go_ret
        exact ⟨ret_i HN.out, Q.out⟩
      · have HN : Hid ((0 : Int) = askN l now key ts) := by simp [Hid, askN, hourN, hs, hk, ht]
        have HT : Hid _ := ht
        clear hs hk ht
        go_wp2_with (first | (go_at_call 47; refine (spec_in _ _ _ _ rfl).mono ?_; rintro e w' ⟨rfl, rfl⟩; (first | rw [HK.out] | rw [HT.out])))
        go_ret
        exact ⟨ret_i HN.out, Q.out⟩
set_option maxHeartbeats 1000000 in
theorem spec_changed (a : Option Addr) (c : Nat) (l : Chs) (now ts : Int) (k : Nat) (w : World) (hr : ChRow 0 w.heap.size w a l) (hbd : ChsBd 1048576 l) (hlt : k < l.length) :
    Calls Try.prog 37 #[.agg #[.slice a l.length c, .int .i64 now], .int .i64 k, .int .i64 ts] w fun e w' => e = .returned (.bool (chgB l[k] ts)) ∧ Below w.heap.size w w' := by
  have B0 : Hid (Below w.heap.size w (w.alloc (.cells #[.slice a l.length c, .int .i64 now] 25))) := (Below.refl _ _).alloc (Nat.le_refl _) _
  have hX : l[k].length ≤ 1048576 := hbd.2 l[k] (List.getElem_mem hlt)
  have hl := hbd.1
  obtain ⟨b, o, a3, c3, ha, _, hbl, d0, _, r3⟩ := ChRow.cells (ChRow.up hr B0.out) k hlt
  subst ha
  have R3 : Hid _ := r3
  clear hr hbd r3
  have hlt' : (k : Int) < l.length := by omega
  by_cases h0 : l[k].length = 0
  · have HN : Hid (false = chgB l[k] ts) := by simp [Hid, chgB, h0]
    have h0' : ¬ (0 : Int) < l[k].length := by omega
    clear h0
    go_enter Try.func37, Try.ntmps37
    go_wp2_with fail
    go_ret
    exact ⟨ret_b HN.out, B0.out⟩
  · obtain ⟨n, hn⟩ : ∃ n, l[k].length = n + 1 := ⟨l[k].length - 1, by omega⟩
    have hnl : n < l[k].length := by omega
    obtain ⟨b2, o2, ha2, _, hbl2, f0, f1⟩ := VeRow.cells R3.out n hnl
    subst ha2
    have HN : Hid (decide (ts < (l[k][n]'hnl).ts) = chgB l[k] ts) := by
      unfold Hid chgB
      rw [show l[k].length - 1 = n by omega, tsAt_eq (by omega), show decide (0 < l[k].length) = true by simpa using (by omega)]
      simp
    have h0' : (0 : Int) < l[k].length := by omega
    have e1 : (l[k].length : Int) - 1 = n := by omega
    have e2 : (n : Int) < l[k].length := by omega
    clear h0 hn
    go_enter Try.func37, Try.ntmps37
    go_wp2_with fail
    go_ret
    exact ⟨ret_b HN.out, B0.out⟩
end Go.Proofs.Ytljnhecdelimfaa.G
