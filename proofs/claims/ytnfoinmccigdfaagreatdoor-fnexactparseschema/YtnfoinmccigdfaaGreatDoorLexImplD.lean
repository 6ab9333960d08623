/- The program's reader: blanks and remarks are passed over. -/
import Derived.Test.YtnfoinmccigdfaaGreatDoorLexImplC
namespace Go.Proofs.YtnfoinmccigdfaaGreatDoor
open Go.ChangeShapes Go.WideShapes Go.ChangeAt Go.RowKit
set_option linter.unusedVariables false

set_option maxHeartbeats 2000000 in
theorem pass_any (s : ByteArray) (L i : Nat) (w : World) (hs : s.size ≤ 65536) (h : LexSt w L s i) (hi : i ≤ s.size) :
    Calls Tryz.prog 44 #[.pointer (some ⟨L, 0, none⟩)] w fun e w' => e = .returned (.tuple #[]) ∧ LexSt w' L s (pb s i false) ∧ w.grownBy w' (some L) := by
  have c0 := h.c0
  have c1 := h.c1
  have HS : Hid (LexSt w L s i) := h
  have hL := h.lt
  clear h
  have b2 : (i : Int) ≤ s.size := by omega
  go_enter Tryz.func44, Tryz.ntmps44
  go_wp2_with fail
  go_region
  go_wp2_with fail
  have hTs := ext_size s i
  have HTA : Hid (∀ k (h : k < (s.extract i s.size).size) (h2 : i + k < s.size), (s.extract i s.size)[k] = s[i + k]) := fun k h h2 => ext_at s i k h h2
  generalize s.extract i s.size = T at *
  clear c0 c1
  go_loopw [2] (fun v wr => ∃ (pos : Nat) (r : Bool), pos ≤ T.size ∧ v = .bool r ∧ Hid (wr.heap[w.heap.size]? = some (.stringIter T pos)) ∧ Below w.heap.size w wr ∧ Hid (pb s i false = pb s (i + pos) r)) (fun _ wr => T.size - wr.iterPos w.heap.size)
  case atStart => exact ⟨0, false, Nat.zero_le _, rfl, World.iter_heap _ _ _, (Below.refl _ _).drew.alloc (Nat.le_refl _) _, rfl⟩
  case round =>
    rename_i wr
    obtain ⟨pos, r, hpos, rfl, HI, hb, HK⟩ := hrel
    by_cases hp : pos < T.size
    · have hsz : i + pos < s.size := by omega
      have hbt : bt s (i + pos) = (T[pos].toNat : Int) := by rw [bt_lt hsz, HTA.out pos hp hsz]
      by_cases ha : T[pos].toNat < 128
      · have hnx : ∀ ty, (Instr.next (.pointer (some ⟨w.heap.size, 0, none⟩)) true ty).run Tryz.prog wr = _ := fun ty => Lib.run_next_ascii_at wr w.heap.size T pos ty HI.out hp ha
        cases r
        · by_cases h35 : (T[pos].toNat : Int) = 35
          · have h35' : ((T[pos].toNat : Int) == 35) = true := by rw [h35]; rfl
            have HF : Hid (pb s i false = pb s (i + (pos + 1)) true) := by rw [Hid, HK.out, pb_hash hsz (by rw [hbt]; exact h35)]; rfl
            have HI2 : Hid _ := Lib.iterAt_heap wr w.heap.size T pos (pos + 1) HI.out
            have q2 := Lib.below_iterAt hb (Nat.le_refl w.heap.size) T (pos + 1)
            have hm1 := iterPos_of HI.out
            have hm2 := iterPos_of HI2.out
            have HM : Hid (T.size - (wr.iterAt w.heap.size T (pos + 1)).iterPos w.heap.size < T.size - wr.iterPos w.heap.size) := by rw [Hid, hm1, hm2]; omega
            clear hm1 hm2 hbt h35
            go_wp2_with (go_at_call 64; refine (isBlank_any _ _).mono ?_; rintro e w1 ⟨rfl, rfl⟩)
            exact ⟨⟨(pos + 1), _, by omega, rfl, HI2, q2, HF⟩, HM.out⟩
          · have h35' : ((T[pos].toNat : Int) == 35) = false := by rw [beq_eq_false_iff_ne]; exact h35
            cases hbl : blB (T[pos].toNat : Int)
            · have hpt := pb_tok hsz (by rw [hbt]; exact h35) (by rw [hbt]; exact hbl)
              clear h35 hbt
              have HE : Hid (pb s i false = i + pos) := by rw [Hid, HK.out, hpt]
              have HST : LexSt (wr.iterAt w.heap.size T (pos + 1)) L s i := (Lib.iterAt_other wr _ L T _ (by omega)).trans ((hb.block L hL).trans HS.out)
              have qg := Lib.below_iterAt hb (Nat.le_refl w.heap.size) T (pos + 1)
              clear HI hpt
              generalize wr.iterAt w.heap.size T (pos + 1) = wq at *
              have c0 := HST.c0
              have c1 := HST.c1
              have f1 := HST.f1
              have HST2 : Hid (LexSt wq L s i) := HST
              clear HST
              go_wp2_with (go_at_call 64; refine (isBlank_any _ _).mono ?_; rintro e w1 ⟨rfl, rfl⟩)
              first | go_end0 | refine bodyPost_ret (results_none rfl _ _ _) rfl ?_
              rw [HE.out, show (i : Int) + pos = ((i + pos : Nat) : Int) by omega]
              exact ⟨rfl, HST2.out.set (i + pos), grown_set (grown_below (grown_refl w (some L)) qg) _ _⟩
            · have hpt := pb_blank hsz (by rw [hbt]; exact h35) (by rw [hbt]; exact hbl)
              clear h35 hbt
              have HF : Hid (pb s i false = pb s (i + (pos + 1)) false) := by rw [Hid, HK.out, hpt]; rfl
              have HI2 : Hid _ := Lib.iterAt_heap wr w.heap.size T pos (pos + 1) HI.out
              have q2 := Lib.below_iterAt hb (Nat.le_refl w.heap.size) T (pos + 1)
              have hm1 := iterPos_of HI.out
              have hm2 := iterPos_of HI2.out
              have HM : Hid (T.size - (wr.iterAt w.heap.size T (pos + 1)).iterPos w.heap.size < T.size - wr.iterPos w.heap.size) := by rw [Hid, hm1, hm2]; omega
              clear hm1 hm2 hpt
              go_wp2_with (go_at_call 64; refine (isBlank_any _ _).mono ?_; rintro e w1 ⟨rfl, rfl⟩)
              exact ⟨⟨(pos + 1), _, by omega, rfl, HI2, q2, HF⟩, HM.out⟩
        · have hpt := pb_rem hsz
          rw [hbt] at hpt
          by_cases h10 : (T[pos].toNat : Int) = 10
          · have h10' : ((T[pos].toNat : Int) != 10) = false := by rw [h10]; rfl
            rw [show decide ((T[pos].toNat : Int) ≠ 10) = false by simpa using h10] at hpt
            clear h10 hbt
            have HF : Hid (pb s i false = pb s (i + (pos + 1)) false) := by rw [Hid, HK.out, hpt]; rfl
            have HI2 : Hid _ := Lib.iterAt_heap wr w.heap.size T pos (pos + 1) HI.out
            have q2 := Lib.below_iterAt hb (Nat.le_refl w.heap.size) T (pos + 1)
            have hm1 := iterPos_of HI.out
            have hm2 := iterPos_of HI2.out
            have HM : Hid (T.size - (wr.iterAt w.heap.size T (pos + 1)).iterPos w.heap.size < T.size - wr.iterPos w.heap.size) := by rw [Hid, hm1, hm2]; omega
            clear hm1 hm2 hpt
            go_wp2_with (go_at_call 64; refine (isBlank_any _ _).mono ?_; rintro e w1 ⟨rfl, rfl⟩)
            exact ⟨⟨(pos + 1), _, by omega, rfl, HI2, q2, HF⟩, HM.out⟩
          · have h10' : ((T[pos].toNat : Int) != 10) = true := by rw [bne_iff_ne]; exact h10
            rw [show decide ((T[pos].toNat : Int) ≠ 10) = true by simpa using h10] at hpt
            clear h10 hbt
            have HF : Hid (pb s i false = pb s (i + (pos + 1)) true) := by rw [Hid, HK.out, hpt]; rfl
            have HI2 : Hid _ := Lib.iterAt_heap wr w.heap.size T pos (pos + 1) HI.out
            have q2 := Lib.below_iterAt hb (Nat.le_refl w.heap.size) T (pos + 1)
            have hm1 := iterPos_of HI.out
            have hm2 := iterPos_of HI2.out
            have HM : Hid (T.size - (wr.iterAt w.heap.size T (pos + 1)).iterPos w.heap.size < T.size - wr.iterPos w.heap.size) := by rw [Hid, hm1, hm2]; omega
            clear hm1 hm2 hpt
            go_wp2_with (go_at_call 64; refine (isBlank_any _ _).mono ?_; rintro e w1 ⟨rfl, rfl⟩)
            exact ⟨⟨(pos + 1), _, by omega, rfl, HI2, q2, HF⟩, HM.out⟩
      · have hd := decode_high T pos hp (by omega)
        have hby := dec_bytes T pos hp (by omega)
        have hnx : ∀ ty, (Instr.next (.pointer (some ⟨w.heap.size, 0, none⟩)) true ty).run Tryz.prog wr = _ := fun ty => Lib.run_next_any_at wr w.heap.size T pos ty HI.out hp
        generalize (Utf8.decode T pos).1 = rn at *
        generalize (Utf8.decode T pos).2 = n at *
        cases r
        · have h35' : ((rn : Int) == 35) = false := by rw [beq_eq_false_iff_ne]; omega
          have hbl : blB (rn : Int) = false := by unfold blB; simp; omega
          have hpt := pb_tok hsz (by rw [hbt]; omega) (by rw [hbt]; unfold blB; simp; omega)
          clear hbt hby hd
          have HE : Hid (pb s i false = i + pos) := by rw [Hid, HK.out, hpt]
          have HST : LexSt (wr.iterAt w.heap.size T (pos + n)) L s i := (Lib.iterAt_other wr _ L T _ (by omega)).trans ((hb.block L hL).trans HS.out)
          have qg := Lib.below_iterAt hb (Nat.le_refl w.heap.size) T (pos + n)
          clear HI hpt
          generalize wr.iterAt w.heap.size T (pos + n) = wq at *
          have c0 := HST.c0
          have c1 := HST.c1
          have f1 := HST.f1
          have HST2 : Hid (LexSt wq L s i) := HST
          clear HST
          go_wp2_with (go_at_call 64; refine (isBlank_any _ _).mono ?_; rintro e w1 ⟨rfl, rfl⟩)
          first | go_end0 | refine bodyPost_ret (results_none rfl _ _ _) rfl ?_
          rw [HE.out, show (i : Int) + pos = ((i + pos : Nat) : Int) by omega]
          exact ⟨rfl, HST2.out.set (i + pos), grown_set (grown_below (grown_refl w (some L)) qg) _ _⟩
        · have h10' : ((rn : Int) != 10) = true := by rw [bne_iff_ne]; omega
          have hlast := hby (n - 1) (by omega)
          have hn1 : pos + n ≤ T.size := by obtain ⟨h2, _⟩ := hlast; omega
          have hpt : pb s (i + pos) true = pb s (i + pos + n) true := pb_wide n (i + pos) (fun j hj => by
            obtain ⟨h2, h3⟩ := hby j hj
            have hz : i + (pos + j) < s.size := by omega
            rw [show i + pos + j = i + (pos + j) by omega, bt_lt hz, ← HTA.out (pos + j) h2 hz]
            exact ⟨hz, by omega⟩)
          have hn0 := hd.2
          clear hbt hby hlast hd
          have HF : Hid (pb s i false = pb s (i + (pos + n)) true) := by rw [Hid, HK.out, hpt, Nat.add_assoc]
          have HI2 : Hid _ := Lib.iterAt_heap wr w.heap.size T pos (pos + n) HI.out
          have q2 := Lib.below_iterAt hb (Nat.le_refl w.heap.size) T (pos + n)
          have hm1 := iterPos_of HI.out
          have hm2 := iterPos_of HI2.out
          have HM : Hid (T.size - (wr.iterAt w.heap.size T (pos + n)).iterPos w.heap.size < T.size - wr.iterPos w.heap.size) := by rw [Hid, hm1, hm2]; omega
          clear hm1 hm2 hpt
          go_wp2_with (go_at_call 64; refine (isBlank_any _ _).mono ?_; rintro e w1 ⟨rfl, rfl⟩)
          exact ⟨⟨(pos + n), _, hn1, rfl, HI2, q2, HF⟩, HM.out⟩
    · have hnx : ∀ ty, (Instr.next (.pointer (some ⟨w.heap.size, 0, none⟩)) true ty).run Tryz.prog wr = _ := fun ty => Lib.run_next_end_at wr w.heap.size T pos ty HI.out hp
      have HE : Hid (pb s i false = s.size) := by rw [Hid, HK.out, pb_end (by omega)]
      have HST : LexSt wr L s i := (hb.block L hL).trans HS.out
      have c0 := HST.c0
      have c1 := HST.c1
      have f1 := HST.f1
      have HST2 : Hid (LexSt wr L s i) := HST
      clear HST
      go_wp2_with fail
      first | go_end0 | refine bodyPost_ret (results_none rfl _ _ _) rfl ?_
      rw [HE.out]
      exact ⟨rfl, HST2.out.set s.size, grown_set (grown_below (grown_refl w (some L)) hb) _ _⟩
end Go.Proofs.YtnfoinmccigdfaaGreatDoor
