/- The program's reader: marks; and a token, whichever it is. -/
import Derived.Test.YtnfoinmccigdfaaGreatDoorLexImplG
namespace Go.Proofs.YtnfoinmccigdfaaGreatDoor
open Go.ChangeShapes Go.WideShapes Go.ChangeAt Go.RowKit
set_option linter.unusedVariables false

theorem ext_one (s : ByteArray) (p : Nat) (hp : p < s.size) : (s.extract p (p + 1)).toList = [s[p]] := by
  have hl : s.data.toList.length = s.size := by simp
  rw [ByteArray.toList_eq, ByteArray.data_extract, Array.toList_extract, List.extract_eq_take_drop, show p + 1 - p = 1 by omega, List.drop_eq_getElem_cons (by omega)]
  rfl
theorem tokB_four (T : ByteArray) : tokB 4 0 T = punctB T.toList := by
  unfold tokB
  rw [if_neg (by omega), if_neg (by omega), if_pos rfl]; rfl
theorem tokAt_punct (s : ByteArray) (p : Nat) (hp : p < s.size) (h1 : ¬ (s[p].toNat : Int) = 36) (hl : letB (s[p].toNat : Int) = false) (h2 : ¬ (s[p].toNat : Int) = 45) (hd : digB (s[p].toNat : Int) = false) (n : Nat) (hn : n = if dotsB s p = true then 3 else 1) :
    tokAt s p = if tokB 4 0 (s.extract p (p + n)) = true then some (⟨4, 0, s.extract p (p + n)⟩, p + n) else none := by
  rw [tokB_four]
  unfold tokAt
  rw [bt_lt hp, if_neg h1, if_neg (by rw [hl]; decide), if_neg (by rw [hd]; rintro (h | h); exact h2 h; cases h)]
  by_cases h46 : (s[p].toNat : Int) = 46
  · rw [if_pos h46]
    cases hdt : dotsB s p
    · rw [hdt, if_neg (by decide)] at hn
      subst hn
      rw [if_neg, if_neg]
      · rw [ext_one s p hp, u8_of (n := 46) (by decide) h46]; decide
      · rintro ⟨a, b⟩
        unfold dotsB at hdt
        rw [b] at hdt
        simp at hdt
        omega
    · rw [hdt, if_pos rfl] at hn
      subst hn
      unfold dotsB at hdt
      simp only [Bool.and_eq_true, decide_eq_true_eq, beq_iff_eq] at hdt
      have e : s.extract p (p + 3) = ⟨#[46, 46, 46]⟩ := by
        apply ByteArray.ext
        have := hdt.2
        rw [ByteArray.toList_eq] at this
        exact Array.ext' this
      rw [if_pos hdt, if_pos (by rw [hdt.2]; decide), e]
  · rw [if_neg h46]
    have hdt : dotsB s p = false := by
      cases hh : dotsB s p
      · rfl
      · unfold dotsB at hh
        simp only [Bool.and_eq_true, decide_eq_true_eq, beq_iff_eq] at hh
        have e2 : (s.extract p (p + 3)).toList[0]? = some s[p] := by
          have hsz : 0 < (s.extract p (p + 3)).size := by rw [ByteArray.size_extract]; omega
          rw [toList_at _ 0 hsz]
          simp [ByteArray.getElem_extract]
        rw [hh.2] at e2
        simp only [List.getElem?_cons_zero, Option.some.injEq] at e2
        rw [← e2] at h46
        exact absurd rfl h46
    rw [hdt, if_neg (by decide)] at hn
    subst hn
    rfl

set_option maxHeartbeats 4000000 in
theorem tok_punct (s : ByteArray) (L p : Nat) (w : World) (hs : s.size ≤ 65536) (h : LexSt w L s p) (hp : p < s.size) (h1 : ¬ (s[p].toNat : Int) = 36) (hl : letB (s[p].toNat : Int) = false) (h2 : ¬ (s[p].toNat : Int) = 45) (hd : digB (s[p].toNat : Int) = false) :
    Calls Tryz.prog 45 #[.pointer (some ⟨L, 0, none⟩)] w (TokIs s p L w) := by
  have c0 := h.c0
  have c1 := h.c1
  have HS : Hid (LexSt w L s p) := h
  have hL := h.lt
  clear h
  obtain ⟨n, hn⟩ : ∃ n, n = if dotsB s p = true then 3 else 1 := ⟨_, rfl⟩
  have HTA : Hid (tokAt s p = if tokB 4 0 (s.extract p (p + n)) = true then some (⟨4, 0, s.extract p (p + n)⟩, p + n) else none) := tokAt_punct s p hp h1 hl h2 hd n hn
  have HPU : Hid (∀ W : World, LexSt W L s p → Calls Tryz.prog 69 #[.pointer (some ⟨L, 0, none⟩)] W fun e w' => e = .returned (.string (s.extract p (p + n))) ∧ LexSt w' L s (p + n) ∧ W.grownBy w' (some L)) := by
    intro W hW
    rw [hn]; exact punct_any s L p W hs hW hp
  clear hn
  have hb : (s[p].toNat : Int) < 256 := by have := s[p].toNat_lt; omega
  have h36 : ((s[p].toNat : Int) == 36) = false := by rw [beq_eq_false_iff_ne]; exact h1
  have h45 : ((s[p].toNat : Int) == 45) = false := by rw [beq_eq_false_iff_ne]; exact h2
  have hx6 : (s.extract p (p + n)).size ≤ 65536 := by rw [ByteArray.size_extract]; omega
  clear h1 h2
  go_enter Tryz.func45, Tryz.ntmps45
  go_wp2_with fail
  go_quiet (fail)
  have hW1 : (((w.alloc (.cells #[.int .i64 0, .int .i64 0, .string ⟨#[]⟩] 75)).alloc (.cells #[.int .i64 0, .int .i64 0, .string ⟨#[]⟩] 75)).drewN nq).heap[w.heap.size + 1]? = some (.cells #[.int .i64 0, .int .i64 0, .string ⟨#[]⟩] 75) := by
    have := heap_alloc_new (w.alloc (.cells #[.int .i64 0, .int .i64 0, .string ⟨#[]⟩] 75)) (.cells #[.int .i64 0, .int .i64 0, .string ⟨#[]⟩] 75)
    simpa using this
  have hW0 : (((w.alloc (.cells #[.int .i64 0, .int .i64 0, .string ⟨#[]⟩] 75)).alloc (.cells #[.int .i64 0, .int .i64 0, .string ⟨#[]⟩] 75)).drewN nq).heap[w.heap.size]? = some (.cells #[.int .i64 0, .int .i64 0, .string ⟨#[]⟩] 75) := (Below.heap_alloc (w.alloc (.cells #[.int .i64 0, .int .i64 0, .string ⟨#[]⟩] 75)) (.cells #[.int .i64 0, .int .i64 0, .string ⟨#[]⟩] 75) w.heap.size (by simp)).trans (heap_alloc_new w (.cells #[.int .i64 0, .int .i64 0, .string ⟨#[]⟩] 75))
  have HSW : Hid (LexSt (((w.alloc (.cells #[.int .i64 0, .int .i64 0, .string ⟨#[]⟩] 75)).alloc (.cells #[.int .i64 0, .int .i64 0, .string ⟨#[]⟩] 75)).drewN nq) L s p) := (Below.heap_alloc (w.alloc (.cells #[.int .i64 0, .int .i64 0, .string ⟨#[]⟩] 75)) (.cells #[.int .i64 0, .int .i64 0, .string ⟨#[]⟩] 75) L (by simp; omega)).trans ((Below.heap_alloc w (.cells #[.int .i64 0, .int .i64 0, .string ⟨#[]⟩] 75) L hL).trans HS.out)
  have hgW : w.grownBy (((w.alloc (.cells #[.int .i64 0, .int .i64 0, .string ⟨#[]⟩] 75)).alloc (.cells #[.int .i64 0, .int .i64 0, .string ⟨#[]⟩] 75)).drewN nq) (some L) := grown_trans (grown_alloc (grown_alloc (grown_refl w _) _) _) (grown_drewN _ _ _)
  go_wp2_with (first | (go_at_call 65; refine (isLetter_any _ _).mono ?_; rintro e wL ⟨rfl, rfl⟩) | (go_at_call 67; refine (isDigit_any _ _).mono ?_; rintro e wL ⟨rfl, rfl⟩))
  clear c0 c1 hb
  refine (HPU.out _ HSW.out).mono ?_
  rintro e w1 ⟨rfl, hst, hg⟩
  have hsz1 : w.heap.size + 2 ≤ w1.heap.size := by have := hg.size; simpa using this
  clear HPU
  generalize s.extract p (p + n) = T at *
  generalize p + n = q at *
  have hxm : T.size ≤ maxLen := by unfold maxLen; omega
  have R0 : w1.heap[w.heap.size]? = some (.cells #[.int .i64 0, .int .i64 0, .string ⟨#[]⟩] 75 (0, 0)) := LexSt.grownTo hW0 hg (by omega)
  have R1 : w1.heap[w.heap.size + 1]? = some (.cells #[.int .i64 0, .int .i64 0, .string ⟨#[]⟩] 75 (0, 0)) := LexSt.grownTo hW1 hg (by omega)
  have hg0 : w.grownBy w1 (some L) := grown_trans hgW hg
  have HST : Hid (LexSt w1 L s q) := hst
  clear hst hg hW0 hW1 hgW
  have d0 := row_cell R1 0
  have d1 := row_cell R1 1
  have d2 := row_cell R1 2
  have g0 := row_frozen R1 0
  have g1 := row_frozen R1 1
  have g2 := row_frozen R1 2
  simp at d0 d1 d2
  have HR1 : Hid _ := R1
  have HR0 : Hid _ := R0
  clear R1 R0
  go_wp2_with fail
  refine (impl_tokOK 4 0 T _ hxm).mono ?_
  rintro e w2 ⟨rfl, hb2⟩
  have HR1s : Hid _ := row_set (row_set (row_set HR1.out 0 (.int .i64 4)) 1 (.int .i64 0)) 2 (.string T)
  have HR0s : Hid _ := row_other (row_other (row_other HR0.out (M := w.heap.size + 1) (j := 0) (by omega) (.int .i64 4)) (M := w.heap.size + 1) (j := 1) (by omega) (.int .i64 0)) (M := w.heap.size + 1) (j := 2) (by omega) (.string T)
  have HSTs : Hid _ := ((HST.out.other (M := w.heap.size + 1) (j := 0) (by omega) (.int .i64 4)).other (M := w.heap.size + 1) (j := 1) (by omega) (.int .i64 0)).other (M := w.heap.size + 1) (j := 2) (by omega) (.string T)
  have hgs := grown_new (grown_new (grown_new hg0 (M := w.heap.size + 1) (o := 0) (by omega) (.int .i64 4)) (M := w.heap.size + 1) (o := 1) (by omega) (.int .i64 0)) (M := w.heap.size + 1) (o := 2) (by omega) (.string T)
  clear HR1 HR0 HST hg0 d0 d1 d2 g0 g1 g2
  generalize ((w1.setCell ⟨w.heap.size + 1, 0, none⟩ (.int .i64 4)).setCell ⟨w.heap.size + 1, 1, none⟩ (.int .i64 0)).setCell ⟨w.heap.size + 1, 2, none⟩ (.string T) = w1s at *
  have HR12 : Hid (w2.heap[w.heap.size + 1]? = some (.cells #[.int .i64 4, .int .i64 0, .string T] 75 (0, 0))) := (hb2.block _ (Array.getElem?_eq_some_iff.1 HR1s.out).1).trans HR1s.out
  have HR02 : Hid (w2.heap[w.heap.size]? = some (.cells #[.int .i64 0, .int .i64 0, .string ⟨#[]⟩] 75 (0, 0))) := (hb2.block _ (Array.getElem?_eq_some_iff.1 HR0s.out).1).trans HR0s.out
  have HST2 : Hid (LexSt w2 L s q) := LexSt.below HSTs.out hb2
  have hg2 := grown_below hgs hb2
  clear HR1s HR0s HSTs hgs hb2
  cases hok : tokB 4 0 T
  · go_wp2_with fail
    exact ⟨rfl, .inr ⟨by rw [HTA.out, if_neg (by rw [hok]; decide)], rfl, hg2⟩⟩
  · have d0 := row_cell HR12.out 0
    have d1 := row_cell HR12.out 1
    have d2 := row_cell HR12.out 2
    simp at d0 d1 d2
    go_wp2_with fail
    refine (clone_any T _ hx6).mono ?_
    rintro e w3 ⟨rfl, hb3⟩
    have HR13 : Hid (w3.heap[w.heap.size + 1]? = some (.cells #[.int .i64 4, .int .i64 0, .string T] 75 (0, 0))) := (hb3.block _ (Array.getElem?_eq_some_iff.1 HR12.out).1).trans HR12.out
    have HR03 : Hid (w3.heap[w.heap.size]? = some (.cells #[.int .i64 0, .int .i64 0, .string ⟨#[]⟩] 75 (0, 0))) := (hb3.block _ (Array.getElem?_eq_some_iff.1 HR02.out).1).trans HR02.out
    have HST3 : Hid (LexSt w3 L s q) := LexSt.below HST2.out hb3
    have hg3 := grown_below hg2 hb3
    clear d0 d1 d2 HR12 HR02 HST2 hg2 hb3
    have d0 := row_cell HR13.out 0
    have d1 := row_cell HR13.out 1
    have d2 := row_cell HR13.out 2
    have g2 := row_frozen HR13.out 2
    have z0 := row_cell HR03.out 0
    have z1 := row_cell HR03.out 1
    have z2 := row_cell HR03.out 2
    have y0 := row_frozen HR03.out 0
    have y1 := row_frozen HR03.out 1
    have y2 := row_frozen HR03.out 2
    simp at d0 d1 d2 z0 z1 z2
    go_wp2_with fail
    refine bodyPost_ret (v := .agg #[.int .i64 4, .int .i64 0, .string T]) (results24_row _ _ w.heap.size _ rfl (row_set (row_set (row_set (row_other HR03.out (by omega) _) _ _) _ _) _ _) rfl) rfl (.inl ⟨⟨4, 0, T⟩, q, by rw [HTA.out, if_pos hok], rfl, ?_, ?_⟩)
    · exact (((HST3.out.other (by omega) _).other (by omega) _).other (by omega) _).other (by omega) _
    · exact grown_new (grown_new (grown_new (grown_new hg3 (by omega) _) (by omega) _) (by omega) _) (by omega) _

theorem tok_any (s : ByteArray) (L p : Nat) (w : World) (hs : s.size ≤ 65536) (h : LexSt w L s p) (hv : Vars w) (hL3 : 2 < L) (hp : p < s.size) :
    Calls Tryz.prog 45 #[.pointer (some ⟨L, 0, none⟩)] w (TokIs s p L w) := by
  by_cases h1 : (s[p].toNat : Int) = 36
  · exact tok_var s L p w hs h hp h1
  cases hl : letB (s[p].toNat : Int)
  · by_cases hd : (s[p].toNat : Int) = 45 ∨ digB (s[p].toNat : Int) = true
    · exact tok_int s L p w hs h hv hL3 hp h1 hl hd
    · exact tok_punct s L p w hs h hp h1 hl (fun h => hd (.inl h)) (by cases h : digB (s[p].toNat : Int); rfl; exact absurd (.inr h) hd)
  · exact tok_name s L p w hs h hp hl
end Go.Proofs.YtnfoinmccigdfaaGreatDoor
