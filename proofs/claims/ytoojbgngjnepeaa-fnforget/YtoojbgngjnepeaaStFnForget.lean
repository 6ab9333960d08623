/- FnForget's walk. -/
import Derived.Test.YtoojbgngjnepeaaStOf
import Derived.Test.YtoojbgngjnepeaaStSameOf
import Derived.Test.YtoojbgngjnepeaaStFgLaw
import Derived.Test.YtoojbgngjnepeaaStFgThree
import Derived.Test.YtoojbgngjnepeaaStFgSpecTwo
namespace Go.Proofs.Ytoojbgngjnepeaa.G
open Go.ChangeShapes Go.WideShapes Go.ChangeAt Go.RowKit
set_option linter.unusedVariables false

theorem ByteRow.far {w w' : World} {a : Option Addr} {n : Nat} (h : ByteRow w.heap.size w a n) (hb : Below w.heap.size w w') : ByteRow w'.heap.size w' a n := by
  rcases h with h | ⟨b, o, e, h1, h2, h3⟩
  · exact .inl h
  · refine .inr ⟨b, o, e, Nat.lt_of_lt_of_le h1 hb.size, Nat.le_refl _, fun i hi => ?_⟩
    obtain ⟨x, hx, e⟩ := h3 i hi
    exact ⟨x, hx, (World.cell?_of_block (w := w) (hb.block b h1)).trans e⟩
set_option maxHeartbeats 8000000 in
set_option maxRecDepth 40000 in
theorem fn_forget (n c n2 c2 : Nat) (a a2 : Option Addr) (w : World) (hr : ByteRow w.heap.size w a n) (hr2 : ByteRow w.heap.size w a2 n2) :
    Calls Try.prog 3 #[.slice a n c, .slice a2 n2 c2] w fun e w' => e = .returned (.bool true) ∧ Below w.heap.size w w' := by
  have HA : Hid _ := hr
  have HB : Hid _ := hr2
  clear hr hr2
  by_cases h1 : 1048576 < n
  · have h1' : (1048576 : Int) < n := by omega
    go_enter Try.func3, Try.ntmps3
    go_wp2_with fail
    go_ret
    exact ⟨rfl, Below.refl _ _⟩
  by_cases h2 : 1048576 < n2
  · have h1' : ¬ (1048576 : Int) < n := by omega
    have h2' : (1048576 : Int) < n2 := by omega
    go_enter Try.func3, Try.ntmps3
    go_wp2_with fail
    go_ret
    exact ⟨rfl, Below.refl _ _⟩
  have h1' : ¬ (1048576 : Int) < n := by omega
  have h2' : ¬ (1048576 : Int) < n2 := by omega
  go_enter Try.func3, Try.ntmps3
  go_wp2_with fail
  refine (storeOf_any n c a _ HA.out (by omega)).mono ?_
  rintro e w1 ⟨⟨l, now, v, rfl, o1, s1, n1⟩, b1⟩
  obtain ⟨a1, c1, hv1, r1⟩ := OwnK.chRow o1
  subst hv1
  have z1 := b1.size
  have hal := storeB_all s1
  have hlen := storeB_bd s1
  have HS : Hid _ := s1
  have H16 : Hid _ := hal.1
  have HBD : Hid (ChsBd 1048576 l) := ⟨by have := hal.1; omega, fun x hx => by have := hlen x hx; omega⟩
  have R1 : Hid (ChRow 0 w1.heap.size w1 a1 l) := ChRow.wide r1 (Nat.zero_le _) (Nat.le_refl _)
  have B1 : Hid _ := b1
  clear o1 s1 r1 b1 hal hlen
  obtain ⟨w2, hw2⟩ : ∃ x : World, x = w1.alloc (.cells #[.slice a1 l.length c1, .int .i64 now] 25) := ⟨_, rfl⟩
  have z2 : w1.heap.size + 1 ≤ w2.heap.size := by rw [hw2]; simp
  have b2 : Below w1.heap.size w1 w2 := by rw [hw2]; exact (Below.refl _ _).alloc (Nat.le_refl _) _
  have k2 : w2.heap[w1.heap.size]? = some (.cells #[.slice a1 l.length c1, .int .i64 now] 25 (0, 0)) := by rw [hw2]; exact heap_alloc_new _ _
  have K2 : Hid _ := k2
  have R2 : Hid _ := ChRow.up R1.out b2
  have B2 : Hid (Below w.heap.size w w2) := B1.out.trans (b2.mono z1)
  clear b2 R1 B1
  go_wp2_with fail
  rw [← hw2, show (now : Int) + 1 = ((now + 1 : Nat) : Int) by omega]
  refine (at_zero a2 n2 c2 (now + 1) _ (ByteRow.far HB.out B2.out) (by omega) (by omega) (by omega)).mono ?_
  rintro e w3 ⟨⟨low, hlow, rfl⟩, b3⟩
  have z3 := b3.size
  obtain ⟨S, hS⟩ : ∃ S, S = w1.heap.size := ⟨_, rfl⟩
  rw [← hS] at K2 ⊢
  have hSl : S < w2.heap.size := by omega
  have K3 : Hid (w3.heap[S]? = some (.cells #[.slice a1 l.length c1, .int .i64 now] 25 (0, 0))) := (b3.block S hSl).trans K2.out
  have R3 : Hid (ChRow 0 w3.heap.size w3 a1 l) := ChRow.up R2.out b3
  have B3 : Hid (Below w.heap.size w w3) := B2.out.trans (b3.mono (by omega))
  have HH : Hid (hourN l now low = 0) := hour_ok HS.out (by omega) (by omega)
  have hS3 : S < w3.heap.size := by omega
  have hwS : w.heap.size ≤ S := by omega
  clear b3 hw2 hS k2 K2 R2 B2 HA HB z1 z2 z3 hSl
  have x3 := fun o => row_cell K3.out o
  go_wp2_with fail
  refine (impl_forget a1 c1 l now low _ R3.out HBD.out HH.out).mono ?_
  rintro e w4 ⟨ax, bs, rfl, o4, b4⟩
  have z4 := b4.size
  obtain ⟨L, hL⟩ : ∃ L, L = fgS low l := ⟨_, rfl⟩
  rw [← hL] at o4 ⊢
  have HL : Hid _ := hL
  have HF0 : Hid (L.length = l.length) := by rw [Hid, hL]; exact fgS_len _ _
  have HSL : Hid (storeB L now = true) := by rw [Hid, hL]; exact storeB_fg _ HS.out
  have HBL : Hid (ChsBd 1048576 L) := by rw [Hid, hL]; exact fgS_bd HBD.out
  clear hL
  obtain ⟨w5, hw5⟩ : ∃ x : World, x = w4.alloc (.cells #[.slice ax L.length l.length, .int .i64 now] 25) := ⟨_, rfl⟩
  have z5 : w4.heap.size + 1 ≤ w5.heap.size := by rw [hw5]; simp
  have b5 : Below w4.heap.size w4 w5 := by rw [hw5]; exact (Below.refl _ _).alloc (Nat.le_refl _) _
  have k5 : w5.heap[w4.heap.size]? = some (.cells #[.slice ax L.length l.length, .int .i64 now] 25 (0, 0)) := by rw [hw5]; exact heap_alloc_new _ _
  have B5 : Hid (Below w3.heap.size w3 w5) := b4.trans (b5.mono z4)
  have K5 : Hid (w5.heap[S]? = some (.cells #[.slice a1 l.length c1, .int .i64 now] 25 (0, 0))) := (B5.out.block S hS3).trans K3.out
  have R5 : Hid (ChRow 0 w5.heap.size w5 a1 l) := ChRow.up R3.out B5.out
  have RX5 : Hid (ChRow 0 w5.heap.size w5 ax L) := ChRow.up (ChRow.wide (StOwn.row o4) (Nat.zero_le _) (Nat.le_refl _)) b5
  have BB5 : Hid (Below w.heap.size w w5) := B3.out.trans (B5.out.mono (by omega))
  have KX5 : Hid _ := k5
  have x5 := fun o => row_cell K5.out o
  rw [hw5] at x5
  clear o4 b4 b5 k5 x3 K3 R3 B3
  go_wp2_with fail
  rw [← hw5]
  refine (spec_forget a1 c1 l now low _ R5.out HBD.out HH.out).mono ?_
  rintro e w6 ⟨az, cz, rfl, r6, b6⟩
  rw [← HL.out] at r6 ⊢
  have z6 := b6.size
  obtain ⟨X, hX⟩ : ∃ X, X = w4.heap.size := ⟨_, rfl⟩
  rw [← hX] at KX5 ⊢
  have hX5 : X < w5.heap.size := by omega
  have hSX : S < X := by omega
  clear hX hw5 x5 z4 z5
  obtain ⟨V, hV⟩ : ∃ x : World, x = w6.alloc (.cells #[.slice az L.length cz, .int .i64 now] 25) := ⟨_, rfl⟩
  have z7 : w6.heap.size + 1 ≤ V.heap.size := by rw [hV]; simp
  have b7 : Below w6.heap.size w6 V := by rw [hV]; exact (Below.refl _ _).alloc (Nat.le_refl _) _
  have k7 : V.heap[w6.heap.size]? = some (.cells #[.slice az L.length cz, .int .i64 now] 25 (0, 0)) := by rw [hV]; exact heap_alloc_new _ _
  have B7 : Hid (Below w5.heap.size w5 V) := b6.trans (b7.mono z6)
  have T : Hid (∀ W, Below V.heap.size V W → W.heap[S]? = some (.cells #[.slice a1 l.length c1, .int .i64 now] 25 (0, 0)) ∧ W.heap[X]? = some (.cells #[.slice ax L.length l.length, .int .i64 now] 25 (0, 0)) ∧ W.heap[w6.heap.size]? = some (.cells #[.slice az L.length cz, .int .i64 now] 25 (0, 0)) ∧ ChRow 0 W.heap.size W a1 l ∧ ChRow 0 W.heap.size W ax L ∧ ChRow 0 W.heap.size W az L ∧ Below w.heap.size w W) := fun W hW => by
    have hW5 : Below w5.heap.size w5 W := B7.out.trans (hW.mono (by omega))
    exact ⟨(hW5.block S (by omega)).trans K5.out, (hW5.block X hX5).trans KX5.out, (hW.block _ (by omega)).trans k7, ChRow.up R5.out hW5, ChRow.up RX5.out hW5, ChRow.up (ChRow.up (ChRow.wide r6 (Nat.zero_le _) (Nat.le_refl _)) b7) hW, BB5.out.trans (hW5.mono (by omega))⟩
  have t0 := T.out V (Below.refl _ _)
  have x7 := fun o => row_cell t0.1 o
  rw [hV] at x7
  clear b6 b7 k7 r6
  go_wp2_with fail
  rw [← hV]
  obtain ⟨Z, hZ⟩ : ∃ Z, Z = w6.heap.size := ⟨_, rfl⟩
  rw [← hZ] at T ⊢
  clear hZ
  refine (impl_sizeOf a1 c1 l now _ t0.2.2.2.1 HBD.out).mono ?_
  clear t0 x7 hV
  rintro e w8 ⟨rfl, b8⟩
  rw [(size_ok HS.out).1, (size_ok HS.out).2]
  have Q8 : Hid (Below V.heap.size V w8) := b8
  have t8 := T.out _ b8
  have x8 := fun o => row_cell t8.2.1 o
  have T8 : Hid _ := t8.2.2.2.2.1
  clear t8 b8
  go_wp2_with fail
  refine (impl_sizeOf ax l.length L now _ T8.out HBL.out).mono ?_
  rintro e w9 ⟨rfl, b9⟩
  rw [(size_ok HSL.out).1, (size_ok HSL.out).2]
  have Q9 : Hid (Below V.heap.size V w9) := Q8.out.trans (b9.mono Q8.out.size)
  have t9 := T.out _ Q9.out
  have x9 := fun o => row_cell t9.2.1 o
  have y9 := fun o => row_cell t9.2.2.1 o
  have T9 : Hid _ := t9.2.2.2.2
  clear t9 b9 x8 T8 Q8
  go_wp2_with fail
  refine (same_store ax az l.length cz L now _ T9.out.1 T9.out.2.1 HBL.out).mono ?_
  rintro e w10 ⟨rfl, b10⟩
  have Q10 : Hid (Below V.heap.size V w10) := Q9.out.trans (b10.mono Q9.out.size)
  have t10 := T.out _ Q10.out
  have x10 := fun o => row_cell t10.2.1 o
  have T10 : Hid _ := t10.2.2.2.2
  have HGO : Hid (sizeN l = sizeN L + goS low l) := by rw [Hid, HL.out]; exact go_size _ _
  have HZ1 : sizeN l ≤ 16777216 := by have := sizeN_le HBD.out.2; have := H16.out; omega
  have hgo := HGO.out
  clear t10 b10 x9 y9 T9 Q9
  have hsub : (sizeN l : Int) - (sizeN L : Int) = (goS low l : Int) := by omega
  go_wp2_with fail
  refine (impl_storeOK ax l.length L now _ T10.out.1 HBL.out).mono ?_
  rintro e w11 ⟨rfl, b11⟩
  rw [HSL.out]
  have Q11 : Hid (Below V.heap.size V w11) := Q10.out.trans (b11.mono Q10.out.size)
  clear b11 x10 T10 Q10
  clear hgo hsub HZ1
  go_wp2_with fail
  go_loopw [17] (fun i w' => ∃ (k : Nat), k ≤ 16 ∧ i = .int .i64 k ∧ Hid (Below V.heap.size V w')) (fun i _ => 16 - (intOf i).toNat)
  case atStart => exact ⟨0, by omega, rfl, Q11⟩
  case round =>
    obtain ⟨wo, rfl⟩ : ∃ x, x = wr := ⟨_, rfl⟩
    obtain ⟨k, hk, rfl, HB⟩ := hrel
    obtain ⟨t1, t2, _, t4, t5, _, t7⟩ := T.out _ HB.out
    have xs := fun o => row_cell t1 o
    have xx := fun o => row_cell t2 o
    have T4 : Hid _ := t4
    have T5 : Hid _ := t5
    have T7 : Hid _ := t7
    by_cases hlt : k < 16
    case neg =>
      obtain rfl : k = 16 := by omega
      have HSA := same_fg (low := low) HS.out (by omega)
      rw [← HL.out] at HSA
      have HSM : Hid _ := HSA
      clear t1 t2 t4 t5 t7 HSA
      go_wp2_with fail
      refine (impl_sameAt a1 ax c1 l.length l L now now _ T4.out T5.out HBD.out HBL.out).mono ?_
      rintro e w20 ⟨rfl, b20⟩
      rw [HSM.out.1, HSM.out.2]
      have Q20 : Hid (Below w.heap.size w w20) := T7.out.trans (b20.mono T7.out.size)
      clear b20 xs xx
      go_wp2_with fail
      go_ret
      exact ⟨rfl, Q20.out⟩
    have hk16 : (k : Int) < 16 := by omega
    have hkL : k < L.length := by rw [HF0.out, H16.out]; exact hlt
    have hkl : k < l.length := by rw [H16.out]; exact hlt
    obtain ⟨b, o, a3, c3, hax, _, hbl, d0, _, r3⟩ := ChRow.cells t5 k hkL
    have hLk : L[k] = fgC low l[k] := by
      have : L[k]? = some (fgC low l[k]) := by rw [HL.out]; exact fgS_at hkl
      rw [List.getElem?_eq_getElem hkL] at this
      simpa using this
    have HSE : Hid (1 < L[k].length → (low : Int) < tsAt L[k] 1) := by rw [Hid, hLk]; exact second_fg (store_rise HS.out hkl)
    have R3 : Hid _ := r3
    have hkLi : (k : Int) < L.length := by omega
    subst hax
    clear t1 t2 t4 t5 t7 r3 hLk
    go_upto_region 14 with fail
    go_cut [119] from 97 to 118 (fun p wx => p = .bool false ∧ wx = wo)
    case first =>
      by_cases h1 : 1 < L[k].length
      · obtain ⟨b2, o2, ha2, _, hbl2, f0, f1⟩ := VeRow.cells R3.out 1 h1
        subst ha2
        have ht := HSE.out h1
        rw [tsAt_eq h1] at ht
        have ht' : ¬ L[k][1].ts ≤ (low : Int) := by omega
        have h1' : (1 : Int) < L[k].length := by omega
        clear HSE ht
        go_wp2_with fail
        go_meet
        exact ⟨rfl, rfl⟩
      · have h1' : ¬ (1 : Int) < L[k].length := by omega
        go_wp2_with fail
        go_meet
        exact ⟨rfl, rfl⟩
    obtain ⟨rfl, rfl⟩ := hcut
    clear xs xx d0 HSE R3
    go_wp2_with fail
    go_loopw [18] (fun i w' => ∃ (t : Nat), low ≤ t ∧ t ≤ now + 1 ∧ i = .int .i64 t ∧ Hid (Below V.heap.size V w')) (fun i _ => now + 1 - (intOf i).toNat)
    case atStart => exact ⟨low, by omega, by omega, rfl, HB⟩
    case round =>
      obtain ⟨wi, rfl⟩ : ∃ x, x = wr := ⟨_, rfl⟩
      obtain ⟨t, ht1, ht2, rfl, HI⟩ := hrel
      obtain ⟨t1, t2, _, t4, t5, _, t7⟩ := T.out _ HI.out
      have xs := fun o => row_cell t1 o
      have T4' : Hid _ := t4
      clear t1 t2 t4 t5 t7
      by_cases htn : t ≤ now
      · have htn' : (t : Int) ≤ now := by omega
        have HA1 : Hid (askN l now k t = 0) := ask_ok HS.out (by omega) (by omega) hlt
        have HA2 : Hid (askN L now k t = 0) := ask_ok HSL.out (by omega) (by omega) hlt
        have HRD : Hid (readR L now k t = readR l now k t) := by rw [Hid, HL.out]; exact read_fg HS.out (by omega) (by omega) (by omega) hlt
        go_wp2_with fail
        refine (impl_readAt a1 c1 l now k t _ T4'.out HBD.out).mono ?_
        rintro e w21 ⟨rfl, b21⟩
        rw [HA1.out]
        have Q21 : Hid (Below V.heap.size V w21) := HI.out.trans (b21.mono HI.out.size)
        obtain ⟨t1, t2, _, t4, t5, _, t7⟩ := T.out _ Q21.out
        have xx := fun o => row_cell t2 o
        have T5' : Hid _ := t5
        clear t1 t2 t4 t5 t7 b21 xs
        go_wp2_with fail
        refine (impl_readAt (some ⟨b, o, none⟩) l.length L now k t _ T5'.out HBL.out).mono ?_
        rintro e w22 ⟨rfl, b22⟩
        rw [HA2.out, HRD.out]
        have Q22 : Hid (Below V.heap.size V w22) := Q21.out.trans (b22.mono Q21.out.size)
        clear b22 xx
        generalize readR l now k t = rv
        go_wp2_with fail
        exact ⟨⟨t + 1, by omega, by omega, by go_num, Q22⟩, by simp [intOf]; omega⟩
      · obtain rfl : t = now + 1 := by omega
        have htn' : ¬ ((now + 1 : Nat) : Int) ≤ now := by omega
        go_wp2_with fail
        exact ⟨⟨k + 1, by omega, by go_num, HI⟩, by simp [intOf]; omega⟩
end Go.Proofs.Ytoojbgngjnepeaa.G
