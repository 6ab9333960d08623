/- ReadAt, ChangedSince, SizeOf: what the specification computes. -/
import Derived.Test.YtgffplbcpofkmabStRead
namespace Go.Proofs.Ytgffplbcpofkmab.G
open Go.ChangeShapes Go.WideShapes Go.ChangeAt Go.RowKit
set_option linter.unusedVariables false

theorem keyB_in (key : Int) : inB key 0 15 = keyB key := by unfold inB keyB; rw [Bool.eq_iff_iff]; simp; omega
set_option maxHeartbeats 1000000 in
theorem spec_ask (a : Option Addr) (c : Nat) (l : Chs) (now key ts : Int) (w : World) (hr : ChRow 0 w.heap.size w a l) (hbd : ChsBd 1048576 l) :
    Calls Try.prog 13 #[.agg #[.slice a l.length c, .int .i64 now], .int .i64 key, .int .i64 ts] w fun e w' => e = .returned (.int .i64 (askN l now key ts)) ∧ Below w.heap.size w w' := by
  have B0 : Hid (Below w.heap.size w (w.alloc (.cells #[.slice a l.length c, .int .i64 now] 30))) := (Below.refl _ _).alloc (Nat.le_refl _) _
  have HR : Hid (ChRow 0 _ _ a l) := ChRow.up hr B0.out
  have HE : Hid _ := hbd
  clear hr hbd
  go_enter Try.func13, Try.ntmps13
  go_wp2_with fail
  refine (spec_storeOK a c l now _ HR.out HE.out).mono ?_
  rintro e w1 ⟨rfl, hb1⟩
  have c1 := fun o => hb1.cell (p := ⟨w.heap.size, o, none⟩) (by simp)
  have Q : Hid (Below w.heap.size w w1) := below_one hb1
  clear hb1
  cases hs : storeB l now
  · have HN : Hid ((1 : Int) = askN l now key ts) := by simp [Hid, askN, hourN, hs]
    clear hs
    go_wp2_with fail
    go_ret
    exact ⟨ret_i HN.out, Q.out⟩
  · cases hk : keyB key
    · have HN : Hid ((4 : Int) = askN l now key ts) := by
        simp only [Hid, askN, hourN, hs]
        by_cases hx : inB ts 0 now = true <;> simp [hx, hk]
      have HK : Hid (inB key 0 15 = false) := by rw [Hid, keyB_in]; exact hk
      clear hs hk
      go_wp2_with (first | (go_at_call 23; refine (spec_in _ _ _ _ HK.out).mono ?_; rintro e w' ⟨rfl, rfl⟩))
      go_ret
      exact ⟨ret_i HN.out, Q.out⟩
    · have HK : Hid (inB key 0 15 = true) := by rw [Hid, keyB_in]; exact hk
      cases ht : inB ts 0 now
      · have HN : Hid ((4 : Int) = askN l now key ts) := by simp [Hid, askN, hourN, hs, ht]
        have HT : Hid _ := ht
        clear hs hk ht
        go_wp2_with (first | (go_at_call 23; refine (spec_in _ _ _ _ rfl).mono ?_; rintro e w' ⟨rfl, rfl⟩; (first | rw [HK.out] | rw [HT.out])))
        go_ret
        exact ⟨ret_i HN.out, Q.out⟩
      · have HN : Hid ((0 : Int) = askN l now key ts) := by simp [Hid, askN, hourN, hs, hk, ht]
        have HT : Hid _ := ht
        clear hs hk ht
        go_wp2_with (first | (go_at_call 23; refine (spec_in _ _ _ _ rfl).mono ?_; rintro e w' ⟨rfl, rfl⟩; (first | rw [HK.out] | rw [HT.out])))
        go_ret
        exact ⟨ret_i HN.out, Q.out⟩
set_option maxHeartbeats 1000000 in
theorem spec_read (a : Option Addr) (c : Nat) (l : Chs) (now ts : Int) (k : Nat) (w : World) (hr : ChRow 0 w.heap.size w a l) (hbd : ChsBd 1048576 l) (hlt : k < l.length) :
    Calls Try.prog 14 #[.agg #[.slice a l.length c, .int .i64 now], .int .i64 k, .int .i64 ts] w fun e w' => e = .returned (.int .i64 (readV l[k] ts)) ∧ Below w.heap.size w w' := by
  have B0 : Hid (Below w.heap.size w (w.alloc (.cells #[.slice a l.length c, .int .i64 now] 30))) := (Below.refl _ _).alloc (Nat.le_refl _) _
  have hX : l[k].length ≤ 1048576 := hbd.2 l[k] (List.getElem_mem hlt)
  have hl := hbd.1
  obtain ⟨b, o, a3, c3, ha, _, hbl, d0, _, r3⟩ := ChRow.cells (ChRow.up hr B0.out) k hlt
  subst ha
  have R3 : Hid _ := r3
  clear hr hbd r3
  have hlt' : (k : Int) < l.length := by omega
  go_enter Try.func14, Try.ntmps14
  go_wp2_with fail
  go_loop [7, 8] (fun v i => ∃ (m : Nat) (z : Int), m ≤ l[k].length ∧ i = .int .i64 m ∧ v = .int .i64 z ∧ Hid (z = readV (l[k].take m) ts)) (fun _ i => l[k].length - (intOf i).toNat)
  case atStart => exact ⟨0, 0, by omega, rfl, rfl, rfl⟩
  case round =>
    obtain ⟨m, z, hm, rfl, rfl, HZ⟩ := hrel
    by_cases hmt : m < l[k].length
    · obtain ⟨b2, o2, ha2, _, hbl2, f0, f1⟩ := VeRow.cells R3.out m hmt
      subst ha2
      have hmt' : (m : Int) < l[k].length := by omega
      have HT : Hid _ := readV_take (ts := ts) hmt
      by_cases hc : l[k][m].ts ≤ ts
      · have HZ2 : Hid (l[k][m].v = readV (l[k].take (m + 1)) ts) := by rw [Hid, HT.out, if_pos hc]
        clear HT
        go_wp2_with fail
        go_round
        case rel => exact ⟨m + 1, _, by omega, by go_num, rfl, HZ2⟩
        case measure => simp [intOf]; omega
      · have HZ2 : Hid (z = readV (l[k].take (m + 1)) ts) := by rw [Hid, HT.out, if_neg hc]; exact HZ.out
        clear HT
        go_wp2_with fail
        go_round
        case rel => exact ⟨m + 1, _, by omega, by go_num, rfl, HZ2⟩
        case measure => simp [intOf]; omega
    · have HZ2 : Hid (z = readV l[k] ts) := by have := HZ.out; rw [List.take_of_length_le (by omega)] at this; exact this
      go_wp2_with fail
      go_ret
      exact ⟨ret_i HZ2.out, B0.out⟩
set_option maxHeartbeats 1000000 in
theorem spec_changed (a : Option Addr) (c : Nat) (l : Chs) (now ts : Int) (k : Nat) (w : World) (hr : ChRow 0 w.heap.size w a l) (hbd : ChsBd 1048576 l) (hlt : k < l.length) :
    Calls Try.prog 19 #[.agg #[.slice a l.length c, .int .i64 now], .int .i64 k, .int .i64 ts] w fun e w' => e = .returned (.bool (chgB l[k] ts)) ∧ Below w.heap.size w w' := by
  have B0 : Hid (Below w.heap.size w (w.alloc (.cells #[.slice a l.length c, .int .i64 now] 30))) := (Below.refl _ _).alloc (Nat.le_refl _) _
  have hX : l[k].length ≤ 1048576 := hbd.2 l[k] (List.getElem_mem hlt)
  have hl := hbd.1
  obtain ⟨b, o, a3, c3, ha, _, hbl, d0, _, r3⟩ := ChRow.cells (ChRow.up hr B0.out) k hlt
  subst ha
  have R3 : Hid _ := r3
  clear hr hbd r3
  have hlt' : (k : Int) < l.length := by omega
  by_cases h0 : l[k].length = 0
  · have HN : Hid (false = chgB l[k] ts) := by simp [Hid, chgB, h0]
    have h0' : ¬ (0 : Int) < l[k].length := by omega
    clear h0
    go_enter Try.func19, Try.ntmps19
    go_wp2_with fail
    go_ret
    exact ⟨ret_b HN.out, B0.out⟩
  · obtain ⟨n, hn⟩ : ∃ n, l[k].length = n + 1 := ⟨l[k].length - 1, by omega⟩
    have hnl : n < l[k].length := by omega
    obtain ⟨b2, o2, ha2, _, hbl2, f0, f1⟩ := VeRow.cells R3.out n hnl
    subst ha2
    have HN : Hid (decide (ts < (l[k][n]'hnl).ts) = chgB l[k] ts) := by
      unfold Hid chgB
      rw [show l[k].length - 1 = n by omega, tsAt_eq (by omega), show decide (0 < l[k].length) = true by simpa using (by omega)]
      simp
    have h0' : (0 : Int) < l[k].length := by omega
    have e1 : (l[k].length : Int) - 1 = n := by omega
    have e2 : (n : Int) < l[k].length := by omega
    clear h0 hn
    go_enter Try.func19, Try.ntmps19
    go_wp2_with fail
    go_ret
    exact ⟨ret_b HN.out, B0.out⟩
set_option maxHeartbeats 1000000 in
theorem spec_readAt (a : Option Addr) (c : Nat) (l : Chs) (now key ts : Int) (w : World) (hr : ChRow 0 w.heap.size w a l) (hbd : ChsBd 1048576 l) :
    Calls Try.prog 6 #[.agg #[.slice a l.length c, .int .i64 now], .int .i64 key, .int .i64 ts] w fun e w' => e = .returned (.tuple #[.int .i64 (readR l now key ts), .int .i64 (askN l now key ts)]) ∧ Below w.heap.size w w' := by
  have B0 : Hid (Below w.heap.size w (w.alloc (.cells #[.slice a l.length c, .int .i64 now] 30))) := (Below.refl _ _).alloc (Nat.le_refl _) _
  have HR : Hid (∀ W0, Below w.heap.size w W0 → ChRow 0 W0.heap.size W0 a l) := fun W0 hB => ChRow.up hr hB
  have HE : Hid _ := hbd
  clear hr hbd
  go_enter Try.func6, Try.ntmps6
  go_wp2_with fail
  refine (spec_ask a c l now key ts _ (HR.out _ B0.out) HE.out).mono ?_
  rintro e w1 ⟨rfl, hb1⟩
  have c1 := fun o => hb1.cell (p := ⟨w.heap.size, o, none⟩) (by simp)
  have Q : Hid (Below w.heap.size w w1) := below_one hb1
  clear hb1
  by_cases h0 : askN l now key ts = 0
  · obtain ⟨hs, t1, t2, k1, k2⟩ := askN_zero h0
    have h16 := (storeB_all hs).1
    have HV : Hid (readV (chAt l key.toNat) ts = readR l now key ts) := by rw [Hid, readR, if_pos h0]
    have H0 : Hid (0 = askN l now key ts) := h0.symm
    rw [h0]
    obtain ⟨k, rfl⟩ : ∃ k : Nat, key = k := ⟨key.toNat, by omega⟩
    have hlt : k < l.length := by omega
    rw [Int.toNat_natCast, chAt_eq hlt] at HV
    clear h0 hs h16
    go_wp2_with fail
    refine (spec_read a c l now ts k _ (HR.out _ Q.out) HE.out hlt).mono ?_
    rintro e w2 ⟨rfl, hb2⟩
    have Q2 : Hid (Below w.heap.size w w2) := Q.out.trans (hb2.mono Q.out.size)
    generalize readV l[k] ts = z at *
    go_wp2_with fail
    go_ret2
    exact ⟨ret_2 HV.out H0.out, Q2.out⟩
  · have HN : Hid (0 = readR l now key ts) := by rw [Hid, readR, if_neg h0]
    have h0' : (askN l now key ts != 0) = true := by simpa using h0
    obtain ⟨z, hz⟩ : ∃ z, z = askN l now key ts := ⟨_, rfl⟩
    have HZ : Hid (z = askN l now key ts) := hz
    rw [← hz] at h0' ⊢
    clear h0 hz
    go_wp2_with fail
    go_ret2
    exact ⟨ret_2 HN.out HZ.out, Q.out⟩
set_option maxHeartbeats 1000000 in
theorem spec_changedSince (a : Option Addr) (c : Nat) (l : Chs) (now key ts : Int) (w : World) (hr : ChRow 0 w.heap.size w a l) (hbd : ChsBd 1048576 l) :
    Calls Try.prog 10 #[.agg #[.slice a l.length c, .int .i64 now], .int .i64 key, .int .i64 ts] w fun e w' => e = .returned (.tuple #[.bool (chgR l now key ts), .int .i64 (askN l now key ts)]) ∧ Below w.heap.size w w' := by
  have B0 : Hid (Below w.heap.size w (w.alloc (.cells #[.slice a l.length c, .int .i64 now] 30))) := (Below.refl _ _).alloc (Nat.le_refl _) _
  have HR : Hid (∀ W0, Below w.heap.size w W0 → ChRow 0 W0.heap.size W0 a l) := fun W0 hB => ChRow.up hr hB
  have HE : Hid _ := hbd
  clear hr hbd
  go_enter Try.func10, Try.ntmps10
  go_wp2_with fail
  refine (spec_ask a c l now key ts _ (HR.out _ B0.out) HE.out).mono ?_
  rintro e w1 ⟨rfl, hb1⟩
  have c1 := fun o => hb1.cell (p := ⟨w.heap.size, o, none⟩) (by simp)
  have Q : Hid (Below w.heap.size w w1) := below_one hb1
  clear hb1
  by_cases h0 : askN l now key ts = 0
  · obtain ⟨hs, t1, t2, k1, k2⟩ := askN_zero h0
    have h16 := (storeB_all hs).1
    have HV : Hid (chgB (chAt l key.toNat) ts = chgR l now key ts) := by rw [Hid, chgR, if_pos h0]
    have H0 : Hid (0 = askN l now key ts) := h0.symm
    rw [h0]
    obtain ⟨k, rfl⟩ : ∃ k : Nat, key = k := ⟨key.toNat, by omega⟩
    have hlt : k < l.length := by omega
    rw [Int.toNat_natCast, chAt_eq hlt] at HV
    clear h0 hs h16
    go_wp2_with fail
    refine (spec_changed a c l now ts k _ (HR.out _ Q.out) HE.out hlt).mono ?_
    rintro e w2 ⟨rfl, hb2⟩
    have Q2 : Hid (Below w.heap.size w w2) := Q.out.trans (hb2.mono Q.out.size)
    generalize chgB l[k] ts = z at *
    go_wp2_with fail
    go_ret2
    exact ⟨ret_b2 HV.out H0.out, Q2.out⟩
  · have HN : Hid (false = chgR l now key ts) := by rw [Hid, chgR, if_neg h0]
    have h0' : (askN l now key ts != 0) = true := by simpa using h0
    obtain ⟨z, hz⟩ : ∃ z, z = askN l now key ts := ⟨_, rfl⟩
    have HZ : Hid (z = askN l now key ts) := hz
    rw [← hz] at h0' ⊢
    clear h0 hz
    go_wp2_with fail
    go_ret2
    exact ⟨ret_b2 HN.out HZ.out, Q.out⟩
end Go.Proofs.Ytgffplbcpofkmab.G
