/- The program's reader: the text that takes a word. -/
import Derived.Test.YtnfoinmccigdfaaGreatDoorLexImplA
import Derived.Lib.OthersKept
import Derived.WalkSmall
namespace Go.Proofs.YtnfoinmccigdfaaGreatDoor
open Go.ChangeShapes Go.WideShapes Go.ChangeAt Go.RowKit
set_option linter.unusedVariables false

theorem ext_size (s : ByteArray) (a : Nat) : (s.extract a s.size).size = s.size - a := by rw [ByteArray.size_extract]; omega
theorem ext_at (s : ByteArray) (a k : Nat) (h : k < (s.extract a s.size).size) (h2 : a + k < s.size) : (s.extract a s.size)[k] = s[a + k] := by
  simp [ByteArray.getElem_extract]
theorem let_rune {c : Int} (h : 128 ≤ c) : wdB c = false := by unfold wdB; rw [let_high c h, dig_high c h]; rfl

set_option maxHeartbeats 2000000 in
theorem word_take (s : ByteArray) (L i : Nat) (w : World) (hs : s.size ≤ 65536) (h : LexSt w L s i) (hi : i < s.size) :
    Calls Tryz.prog 66 #[.pointer (some ⟨L, 0, none⟩)] w fun e w' => e = .returned (.string (s.extract i (we s (i + 1)))) ∧ LexSt w' L s (we s (i + 1)) ∧ w.grownBy w' (some L) := by
  have c0 := h.c0
  have c1 := h.c1
  have HS : Hid (LexSt w L s i) := h
  have hL := h.lt
  clear h
  have b1 : (0 : Int) ≤ i + 1 := by omega
  have b2 : (i : Int) + 1 ≤ s.size := by omega
  have hwr : IntKind.i64.wrap ((i : Int) + 1) = i + 1 := wrap_small _ (by omega) (by omega)
  go_enter Tryz.func66, Tryz.ntmps66
  go_wp2_with fail
  go_region
  go_wp2_with fail
  have hTs := ext_size s (i + 1)
  have HTA : Hid (∀ k (h : k < (s.extract (i + 1) s.size).size) (h2 : i + 1 + k < s.size), (s.extract (i + 1) s.size)[k] = s[i + 1 + k]) := fun k h h2 => ext_at s (i + 1) k h h2
  generalize s.extract (i + 1) s.size = T at *
  clear c0 c1 b1 hwr
  go_loopw [] (fun wr => ∃ pos : Nat, pos ≤ T.size ∧ Hid (wr.heap[w.heap.size]? = some (.stringIter T pos)) ∧ Below w.heap.size w wr ∧ Hid (we s (i + 1) = we s (i + 1 + pos))) (fun wr => T.size - wr.iterPos w.heap.size)
  case atStart => exact ⟨0, Nat.zero_le _, World.iter_heap _ _ _, (Below.refl _ _).drew.alloc (Nat.le_refl _) _, rfl⟩
  case round =>
    rename_i wr
    obtain ⟨pos, hpos, HI, hb, HK⟩ := hrel
    by_cases hp : pos < T.size
    · have hsz : i + 1 + pos < s.size := by omega
      have hbt : bt s (i + 1 + pos) = (T[pos].toNat : Int) := by rw [bt_lt hsz, HTA.out pos hp hsz]
      by_cases ha : T[pos].toNat < 128
      · have hnx : ∀ ty, (Instr.next (.pointer (some ⟨w.heap.size, 0, none⟩)) true ty).run Tryz.prog wr = _ := fun ty => Lib.run_next_ascii_at wr w.heap.size T pos ty HI.out hp ha
        cases hL2 : letB (T[pos].toNat : Int)
        · cases hD : digB (T[pos].toNat : Int)
          · have hwd : wdB (bt s (i + 1 + pos)) = false := by unfold wdB; rw [hbt, hL2, hD]; rfl
            clear hbt
            have HE : Hid (we s (i + 1) = i + 1 + pos) := by rw [Hid, HK.out, we_stop hsz hwd]
            have HST : Hid (LexSt (wr.iterAt w.heap.size T (pos + 1)) L s i) := (Lib.iterAt_other wr _ L T _ (by omega)).trans ((hb.block L hL).trans HS.out)
            have qg := Lib.below_iterAt hb (Nat.le_refl w.heap.size) T (pos + 1)
            clear HI
            generalize wr.iterAt w.heap.size T (pos + 1) = wq at *
            go_wp2_with (first | (go_at_call 65; refine (isLetter_any _ _).mono ?_; rintro e w1 ⟨rfl, rfl⟩) | (go_at_call 67; refine (isDigit_any _ _).mono ?_; rintro e w1 ⟨rfl, rfl⟩))
            refine (take_any s L i _ _ hs HST.out (by omega) (by omega)).mono ?_
            rintro e w2 ⟨rfl, hst, hg⟩
            have e1 : i + (1 + (pos : Int)).toNat = we s (i + 1) := by rw [HE.out]; omega
            rw [e1] at hst ⊢
            have HG := grown_trans (grown_below (grown_refl w (some L)) qg) hg
            go_wp2_with fail
            go_ret
            exact ⟨rfl, hst, HG⟩
          · have HF : Hid (we s (i + 1) = we s (i + 1 + (pos + 1))) := by rw [Hid, HK.out, we_step hsz (by unfold wdB; rw [hbt, hL2, hD]; rfl)]; rfl
            clear hbt
            have HI2 : Hid _ := Lib.iterAt_heap wr w.heap.size T pos (pos + 1) HI.out
            have q2 := Lib.below_iterAt hb (Nat.le_refl w.heap.size) T (pos + 1)
            have hm1 := iterPos_of HI.out
            have hm2 := iterPos_of HI2.out
            have HM : Hid (T.size - (wr.iterAt w.heap.size T (pos + 1)).iterPos w.heap.size < T.size - wr.iterPos w.heap.size) := by rw [Hid, hm1, hm2]; omega
            clear hm1 hm2
            go_wp2_with (first | (go_at_call 65; refine (isLetter_any _ _).mono ?_; rintro e w1 ⟨rfl, rfl⟩) | (go_at_call 67; refine (isDigit_any _ _).mono ?_; rintro e w1 ⟨rfl, rfl⟩))
            exact ⟨⟨pos + 1, by omega, HI2, q2, HF⟩, HM.out⟩
        · have HF : Hid (we s (i + 1) = we s (i + 1 + (pos + 1))) := by rw [Hid, HK.out, we_step hsz (by unfold wdB; rw [hbt, hL2]; rfl)]; rfl
          clear hbt
          have HI2 : Hid _ := Lib.iterAt_heap wr w.heap.size T pos (pos + 1) HI.out
          have q2 := Lib.below_iterAt hb (Nat.le_refl w.heap.size) T (pos + 1)
          have hm1 := iterPos_of HI.out
          have hm2 := iterPos_of HI2.out
          have HM : Hid (T.size - (wr.iterAt w.heap.size T (pos + 1)).iterPos w.heap.size < T.size - wr.iterPos w.heap.size) := by rw [Hid, hm1, hm2]; omega
          clear hm1 hm2
          go_wp2_with (first | (go_at_call 65; refine (isLetter_any _ _).mono ?_; rintro e w1 ⟨rfl, rfl⟩) | (go_at_call 67; refine (isDigit_any _ _).mono ?_; rintro e w1 ⟨rfl, rfl⟩))
          exact ⟨⟨pos + 1, by omega, HI2, q2, HF⟩, HM.out⟩
      · have hd := decode_high T pos hp (by omega)
        have hnx : ∀ ty, (Instr.next (.pointer (some ⟨w.heap.size, 0, none⟩)) true ty).run Tryz.prog wr = _ := fun ty => Lib.run_next_any_at wr w.heap.size T pos ty HI.out hp
        have hwd : wdB (bt s (i + 1 + pos)) = false := by rw [hbt]; exact let_rune (by omega)
        clear hbt
        generalize (Utf8.decode T pos).1 = r at *
        generalize pos + (Utf8.decode T pos).2 = n at *
        have hL2 := let_high r (by omega)
        have hD := dig_high r (by omega)
        clear hd
        have HE : Hid (we s (i + 1) = i + 1 + pos) := by rw [Hid, HK.out, we_stop hsz hwd]
        have HST : Hid (LexSt (wr.iterAt w.heap.size T n) L s i) := (Lib.iterAt_other wr _ L T _ (by omega)).trans ((hb.block L hL).trans HS.out)
        have qg := Lib.below_iterAt hb (Nat.le_refl w.heap.size) T n
        clear HI
        generalize wr.iterAt w.heap.size T n = wq at *
        go_wp2_with (first | (go_at_call 65; refine (isLetter_any _ _).mono ?_; rintro e w1 ⟨rfl, rfl⟩) | (go_at_call 67; refine (isDigit_any _ _).mono ?_; rintro e w1 ⟨rfl, rfl⟩))
        refine (take_any s L i _ _ hs HST.out (by omega) (by omega)).mono ?_
        rintro e w2 ⟨rfl, hst, hg⟩
        have e1 : i + (1 + (pos : Int)).toNat = we s (i + 1) := by rw [HE.out]; omega
        rw [e1] at hst ⊢
        have HG := grown_trans (grown_below (grown_refl w (some L)) qg) hg
        go_wp2_with fail
        go_ret
        exact ⟨rfl, hst, HG⟩
    · have hnx : ∀ ty, (Instr.next (.pointer (some ⟨w.heap.size, 0, none⟩)) true ty).run Tryz.prog wr = _ := fun ty => Lib.run_next_end_at wr w.heap.size T pos ty HI.out hp
      have HE : Hid (we s (i + 1) = s.size) := by rw [Hid, HK.out, we_end (by omega)]; omega
      have HST : LexSt wr L s i := (hb.block L hL).trans HS.out
      have c0 := HST.c0
      have c1 := HST.c1
      have HST2 : Hid (LexSt wr L s i) := HST
      clear HST
      have hwr2 : IntKind.i64.wrap ((s.size : Int) - i) = s.size - i := wrap_small _ (by omega) (by omega)
      have e1 : i + ((s.size : Int) - i).toNat = we s (i + 1) := by rw [HE.out]; omega
      have HC : Hid (Calls Tryz.prog 81 #[.pointer (some ⟨L, 0, none⟩), .int .i64 ((s.size : Int) - i)] wr.drew fun e w' => e = .returned (.string (s.extract i (we s (i + 1)))) ∧ LexSt w' L s (we s (i + 1)) ∧ wr.drew.grownBy w' (some L)) := by
        have := take_any s L i ((s.size : Int) - i) wr.drew hs HST2.out (by omega) (by omega)
        rw [e1] at this
        exact this
      clear e1
      go_wp2_with fail
      go_region_with (go_at_call 81; refine HC.out.mono ?_; rintro e w2 ⟨rfl, hst, hg⟩)
      all_goals
        have HG := grown_trans (grown_below (grown_refl w (some L)) hb.drew) hg
        go_wp2_with fail
        go_ret
        exact ⟨rfl, hst, HG⟩
end Go.Proofs.YtnfoinmccigdfaaGreatDoor
