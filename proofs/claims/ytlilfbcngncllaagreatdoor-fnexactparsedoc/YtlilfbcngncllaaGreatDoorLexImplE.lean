/- The program's reader: numbers. -/
import Derived.Test.YtlilfbcngncllaaGreatDoorLexLoop
import Derived.Test.YtlilfbcngncllaaGreatDoorShelf
import Derived.Deep.QuietTactic
import Derived.BigQuiet
import Derived.Lib.OthersKept
import Derived.WalkSmall
namespace Go.Proofs.YtlilfbcngncllaaGreatDoor
open Go.ChangeShapes Go.WideShapes Go.ChangeAt Go.RowKit
set_option linter.unusedVariables false

/-- The reader's state: its text, and how far it has come. -/
def LexSt (w : World) (L : Nat) (s : ByteArray) (i : Nat) : Prop := w.heap[L]? = some (.cells #[.string s, .int .i64 i] 50 (0, 0))
theorem LexSt.c0 {w : World} {L : Nat} {s : ByteArray} {i : Nat} (h : LexSt w L s i) : w.cell? ⟨L, 0, none⟩ = some (.string s) := row_cell h 0
theorem LexSt.c1 {w : World} {L : Nat} {s : ByteArray} {i : Nat} (h : LexSt w L s i) : w.cell? ⟨L, 1, none⟩ = some (.int .i64 i) := row_cell h 1
theorem LexSt.f1 {w : World} {L : Nat} {s : ByteArray} {i : Nat} (h : LexSt w L s i) : w.frozen? ⟨L, 1, none⟩ = false := row_frozen h 1
theorem LexSt.set {w : World} {L : Nat} {s : ByteArray} {i : Nat} (h : LexSt w L s i) (j : Nat) : LexSt (w.setCell ⟨L, 1, none⟩ (.int .i64 j)) L s j := row_set h 1 _
theorem LexSt.lt {w : World} {L : Nat} {s : ByteArray} {i : Nat} (h : LexSt w L s i) : L < w.heap.size := (Array.getElem?_eq_some_iff.1 h).1
/-- Only the reader's own block, of what was there, has turned. -/
theorem grown_refl (w : World) (r : Option Nat) : w.grownBy w r := ⟨rfl, rfl, rfl, Nat.le_refl _, fun _ _ _ => rfl⟩
theorem grown_trans {a b c : World} {r : Option Nat} (h : a.grownBy b r) (k : b.grownBy c r) : a.grownBy c r :=
  ⟨k.os.trans h.os, k.tape.trans h.tape, k.output.trans h.output, Nat.le_trans h.size k.size, fun i hi hr => (k.block i (Nat.lt_of_lt_of_le hi h.size) hr).trans (h.block i hi hr)⟩
theorem grown_set {a b : World} {L : Nat} (h : a.grownBy b (some L)) (o : Nat) (v : Value) : a.grownBy (b.setCell ⟨L, o, none⟩ v) (some L) :=
  ⟨h.os, h.tape, h.output, by have := h.size; simpa [World.setCell] using this, fun i hi hr => by
    rw [Below.heap_setCell _ _ _ _ (fun e => hr (by rw [e]))]; exact h.block i hi hr⟩
theorem grown_drewN (w : World) (n : Nat) (r : Option Nat) : w.grownBy (w.drewN n) r := ⟨rfl, rfl, rfl, Nat.le_refl _, fun _ _ _ => rfl⟩
theorem grown_drew {a b : World} {r : Option Nat} (h : a.grownBy b r) : a.grownBy b.drew r := ⟨h.os, h.tape, h.output, h.size, h.block⟩
theorem grown_below {a b c : World} {r : Option Nat} (h : a.grownBy b r) (k : Below b.heap.size b c) : a.grownBy c r :=
  ⟨k.os.trans h.os, k.tape.trans h.tape, k.output.trans h.output, Nat.le_trans h.size k.size, fun i hi hr => (k.block i (Nat.lt_of_lt_of_le hi h.size)).trans (h.block i hi hr)⟩
theorem grown_alloc {a b : World} {r : Option Nat} (h : a.grownBy b r) (o : Obj) : a.grownBy (b.alloc o) r := grown_below h ((Below.refl _ _).alloc (Nat.le_refl _) _)
theorem LexSt.below {w w' : World} {L : Nat} {s : ByteArray} {i : Nat} (h : LexSt w L s i) (hb : Below w.heap.size w w') : LexSt w' L s i := (hb.block L h.lt).trans h

set_option maxHeartbeats 1000000 in
theorem take_any (s : ByteArray) (L i : Nat) (n : Int) (w : World) (hs : s.size ≤ 65536) (h : LexSt w L s i) (h0 : 0 ≤ n) (hn : (i : Int) + n ≤ s.size) :
    Calls Tryz.prog 86 #[.pointer (some ⟨L, 0, none⟩), .int .i64 n] w fun e w' => e = .returned (.string (s.extract i (i + n.toNat))) ∧ LexSt w' L s (i + n.toNat) ∧ w.grownBy w' (some L) := by
  obtain ⟨m, rfl⟩ := Int.eq_ofNat_of_zero_le h0
  rw [Int.toNat_natCast]
  have c0 := h.c0
  have c1 := h.c1
  have f1 := h.f1
  have HS : Hid (LexSt w L s i) := h
  clear h h0
  have b1 : (i : Int) ≤ i + m := by omega
  have b2 : (i : Int) + m ≤ s.size := hn
  clear hn
  go_enter Tryz.func86, Tryz.ntmps86
  go_wp2_with fail
  go_quiet (fail)
  go_wp2_with fail
  go_ret
  rw [show (i : Int) + m = ((i + m : Nat) : Int) by omega]
  exact ⟨rfl, LexSt.set (w := w.drewN nq) HS.out (i + m), grown_set (grown_drewN w nq _) _ _⟩
end Go.Proofs.YtlilfbcngncllaaGreatDoor
namespace Go.Proofs.YtlilfbcngncllaaGreatDoor
open Go.ChangeShapes Go.WideShapes Go.ChangeAt Go.RowKit
set_option linter.unusedVariables false

theorem ext_size (s : ByteArray) (a : Nat) : (s.extract a s.size).size = s.size - a := by rw [ByteArray.size_extract]; omega
theorem ext_at (s : ByteArray) (a k : Nat) (h : k < (s.extract a s.size).size) (h2 : a + k < s.size) : (s.extract a s.size)[k] = s[a + k] := by
  simp [ByteArray.getElem_extract]
theorem let_rune {c : Int} (h : 128 ≤ c) : wdB c = false := by unfold wdB; rw [let_high c h, dig_high c h]; rfl

set_option maxHeartbeats 2000000 in
theorem word_take (s : ByteArray) (L i : Nat) (w : World) (hs : s.size ≤ 65536) (h : LexSt w L s i) (hi : i < s.size) :
    Calls Tryz.prog 67 #[.pointer (some ⟨L, 0, none⟩)] w fun e w' => e = .returned (.string (s.extract i (we s (i + 1)))) ∧ LexSt w' L s (we s (i + 1)) ∧ w.grownBy w' (some L) := by
  have c0 := h.c0
  have c1 := h.c1
  have HS : Hid (LexSt w L s i) := h
  have hL := h.lt
  clear h
  have b1 : (0 : Int) ≤ i + 1 := by omega
  have b2 : (i : Int) + 1 ≤ s.size := by omega
  have hwr : IntKind.i64.wrap ((i : Int) + 1) = i + 1 := wrap_small _ (by omega) (by omega)
  go_enter Tryz.func67, Tryz.ntmps67
  go_wp2_with fail
  go_region
  go_wp2_with fail
  have hTs := ext_size s (i + 1)
  have HTA : Hid (∀ k (h : k < (s.extract (i + 1) s.size).size) (h2 : i + 1 + k < s.size), (s.extract (i + 1) s.size)[k] = s[i + 1 + k]) := fun k h h2 => ext_at s (i + 1) k h h2
  generalize s.extract (i + 1) s.size = T at *
  clear c0 c1 b1 hwr
  go_loopw [] (fun wr => ∃ pos : Nat, pos ≤ T.size ∧ Hid (wr.heap[w.heap.size]? = some (.stringIter T pos)) ∧ Below w.heap.size w wr ∧ Hid (we s (i + 1) = we s (i + 1 + pos))) (fun wr => T.size - wr.iterPos w.heap.size)
  case atStart => exact ⟨0, Nat.zero_le _, World.iter_heap _ _ _, (Below.refl _ _).drew.alloc (Nat.le_refl _) _, rfl⟩
  case round =>
    rename_i wr
    obtain ⟨pos, hpos, HI, hb, HK⟩ := hrel
    by_cases hp : pos < T.size
    · have hsz : i + 1 + pos < s.size := by omega
      have hbt : bt s (i + 1 + pos) = (T[pos].toNat : Int) := by rw [bt_lt hsz, HTA.out pos hp hsz]
      by_cases ha : T[pos].toNat < 128
      · have hnx : ∀ ty, (Instr.next (.pointer (some ⟨w.heap.size, 0, none⟩)) true ty).run Tryz.prog wr = _ := fun ty => Lib.run_next_ascii_at wr w.heap.size T pos ty HI.out hp ha
        cases hL2 : letB (T[pos].toNat : Int)
        · cases hD : digB (T[pos].toNat : Int)
          · have hwd : wdB (bt s (i + 1 + pos)) = false := by unfold wdB; rw [hbt, hL2, hD]; rfl
            clear hbt
            have HE : Hid (we s (i + 1) = i + 1 + pos) := by rw [Hid, HK.out, we_stop hsz hwd]
            have HST : Hid (LexSt (wr.iterAt w.heap.size T (pos + 1)) L s i) := (Lib.iterAt_other wr _ L T _ (by omega)).trans ((hb.block L hL).trans HS.out)
            have qg := Lib.below_iterAt hb (Nat.le_refl w.heap.size) T (pos + 1)
            clear HI
            generalize wr.iterAt w.heap.size T (pos + 1) = wq at *
            go_wp2_with (first | (go_at_call 66; refine (isLetter_any _ _).mono ?_; rintro e w1 ⟨rfl, rfl⟩) | (go_at_call 68; refine (isDigit_any _ _).mono ?_; rintro e w1 ⟨rfl, rfl⟩))
            refine (take_any s L i _ _ hs HST.out (by omega) (by omega)).mono ?_
            rintro e w2 ⟨rfl, hst, hg⟩
            have e1 : i + (1 + (pos : Int)).toNat = we s (i + 1) := by rw [HE.out]; omega
            rw [e1] at hst ⊢
            have HG := grown_trans (grown_below (grown_refl w (some L)) qg) hg
            go_wp2_with fail
            go_ret
            exact ⟨rfl, hst, HG⟩
          · have HF : Hid (we s (i + 1) = we s (i + 1 + (pos + 1))) := by rw [Hid, HK.out, we_step hsz (by unfold wdB; rw [hbt, hL2, hD]; rfl)]; rfl
            clear hbt
            have HI2 : Hid _ := Lib.iterAt_heap wr w.heap.size T pos (pos + 1) HI.out
            have q2 := Lib.below_iterAt hb (Nat.le_refl w.heap.size) T (pos + 1)
            have hm1 := iterPos_of HI.out
            have hm2 := iterPos_of HI2.out
            have HM : Hid (T.size - (wr.iterAt w.heap.size T (pos + 1)).iterPos w.heap.size < T.size - wr.iterPos w.heap.size) := by rw [Hid, hm1, hm2]; omega
            clear hm1 hm2
            go_wp2_with (first | (go_at_call 66; refine (isLetter_any _ _).mono ?_; rintro e w1 ⟨rfl, rfl⟩) | (go_at_call 68; refine (isDigit_any _ _).mono ?_; rintro e w1 ⟨rfl, rfl⟩))
            exact ⟨⟨pos + 1, by omega, HI2, q2, HF⟩, HM.out⟩
        · have HF : Hid (we s (i + 1) = we s (i + 1 + (pos + 1))) := by rw [Hid, HK.out, we_step hsz (by unfold wdB; rw [hbt, hL2]; rfl)]; rfl
          clear hbt
          have HI2 : Hid _ := Lib.iterAt_heap wr w.heap.size T pos (pos + 1) HI.out
          have q2 := Lib.below_iterAt hb (Nat.le_refl w.heap.size) T (pos + 1)
          have hm1 := iterPos_of HI.out
          have hm2 := iterPos_of HI2.out
          have HM : Hid (T.size - (wr.iterAt w.heap.size T (pos + 1)).iterPos w.heap.size < T.size - wr.iterPos w.heap.size) := by rw [Hid, hm1, hm2]; omega
          clear hm1 hm2
          go_wp2_with (first | (go_at_call 66; refine (isLetter_any _ _).mono ?_; rintro e w1 ⟨rfl, rfl⟩) | (go_at_call 68; refine (isDigit_any _ _).mono ?_; rintro e w1 ⟨rfl, rfl⟩))
          exact ⟨⟨pos + 1, by omega, HI2, q2, HF⟩, HM.out⟩
      · have hd := decode_high T pos hp (by omega)
        have hnx : ∀ ty, (Instr.next (.pointer (some ⟨w.heap.size, 0, none⟩)) true ty).run Tryz.prog wr = _ := fun ty => Lib.run_next_any_at wr w.heap.size T pos ty HI.out hp
        have hwd : wdB (bt s (i + 1 + pos)) = false := by rw [hbt]; exact let_rune (by omega)
        clear hbt
        generalize (Utf8.decode T pos).1 = r at *
        generalize pos + (Utf8.decode T pos).2 = n at *
        have hL2 := let_high r (by omega)
        have hD := dig_high r (by omega)
        clear hd
        have HE : Hid (we s (i + 1) = i + 1 + pos) := by rw [Hid, HK.out, we_stop hsz hwd]
        have HST : Hid (LexSt (wr.iterAt w.heap.size T n) L s i) := (Lib.iterAt_other wr _ L T _ (by omega)).trans ((hb.block L hL).trans HS.out)
        have qg := Lib.below_iterAt hb (Nat.le_refl w.heap.size) T n
        clear HI
        generalize wr.iterAt w.heap.size T n = wq at *
        go_wp2_with (first | (go_at_call 66; refine (isLetter_any _ _).mono ?_; rintro e w1 ⟨rfl, rfl⟩) | (go_at_call 68; refine (isDigit_any _ _).mono ?_; rintro e w1 ⟨rfl, rfl⟩))
        refine (take_any s L i _ _ hs HST.out (by omega) (by omega)).mono ?_
        rintro e w2 ⟨rfl, hst, hg⟩
        have e1 : i + (1 + (pos : Int)).toNat = we s (i + 1) := by rw [HE.out]; omega
        rw [e1] at hst ⊢
        have HG := grown_trans (grown_below (grown_refl w (some L)) qg) hg
        go_wp2_with fail
        go_ret
        exact ⟨rfl, hst, HG⟩
    · have hnx : ∀ ty, (Instr.next (.pointer (some ⟨w.heap.size, 0, none⟩)) true ty).run Tryz.prog wr = _ := fun ty => Lib.run_next_end_at wr w.heap.size T pos ty HI.out hp
      have HE : Hid (we s (i + 1) = s.size) := by rw [Hid, HK.out, we_end (by omega)]; omega
      have HST : LexSt wr L s i := (hb.block L hL).trans HS.out
      have c0 := HST.c0
      have c1 := HST.c1
      have HST2 : Hid (LexSt wr L s i) := HST
      clear HST
      have hwr2 : IntKind.i64.wrap ((s.size : Int) - i) = s.size - i := wrap_small _ (by omega) (by omega)
      have e1 : i + ((s.size : Int) - i).toNat = we s (i + 1) := by rw [HE.out]; omega
      have HC : Hid (Calls Tryz.prog 86 #[.pointer (some ⟨L, 0, none⟩), .int .i64 ((s.size : Int) - i)] wr.drew fun e w' => e = .returned (.string (s.extract i (we s (i + 1)))) ∧ LexSt w' L s (we s (i + 1)) ∧ wr.drew.grownBy w' (some L)) := by
        have := take_any s L i ((s.size : Int) - i) wr.drew hs HST2.out (by omega) (by omega)
        rw [e1] at this
        exact this
      clear e1
      go_wp2_with fail
      go_region_with (go_at_call 86; refine HC.out.mono ?_; rintro e w2 ⟨rfl, hst, hg⟩)
      all_goals
        have HG := grown_trans (grown_below (grown_refl w (some L)) hb.drew) hg
        go_wp2_with fail
        go_ret
        exact ⟨rfl, hst, HG⟩
end Go.Proofs.YtlilfbcngncllaaGreatDoor
namespace Go.Proofs.YtlilfbcngncllaaGreatDoor
open Go.ChangeShapes Go.WideShapes Go.ChangeAt Go.RowKit
set_option linter.unusedVariables false

/-- All bytes of a rune from 128 on are from 128 on. -/
theorem dec_bytes (s : ByteArray) (i : Nat) (h : i < s.size) (ha : 128 ≤ s[i].toNat) : ∀ j, j < (Utf8.decode s i).2 → ∃ h2 : i + j < s.size, 128 ≤ (s[i + j]'h2).toNat := by
  have h0 : ∃ h2 : i + 0 < s.size, 128 ≤ (s[i + 0]'h2).toNat := ⟨h, ha⟩
  have hc : ∀ k, (decide (i + k < s.size) && (s.get! (i + k)).toNat / 64 == 2) = true → ∃ h2 : i + k < s.size, 128 ≤ (s[i + k]'h2).toNat := by
    intro k hk
    simp only [Bool.and_eq_true, decide_eq_true_eq, beq_iff_eq] at hk
    refine ⟨hk.1, ?_⟩
    have e : s.get! (i + k) = s[i + k]'hk.1 := get_at s (i + k) hk.1
    rw [e] at hk
    omega
  intro j hj
  unfold Utf8.decode at hj
  simp only at hj
  split at hj
  · have : j = 0 := by simp at hj; omega
    subst this; exact h0
  · split at hj
    · rename_i h1
      simp only [Bool.and_eq_true] at h1
      have c1 := hc 1 (by simpa using h1.2)
      have : j < 2 := by split at hj <;> simp at hj <;> omega
      match j, this with
      | 0, _ => exact h0
      | 1, _ => exact c1
    · split at hj
      · rename_i h1
        simp only [Bool.and_eq_true] at h1
        have c1 := hc 1 (by simpa using h1.1.2)
        have c2 := hc 2 (by simpa using h1.2)
        have : j < 3 := by split at hj <;> simp at hj <;> omega
        match j, this with
        | 0, _ => exact h0
        | 1, _ => exact c1
        | 2, _ => exact c2
      · split at hj
        · rename_i h1
          simp only [Bool.and_eq_true] at h1
          have c1 := hc 1 (by simpa using h1.1.1.2)
          have c2 := hc 2 (by simpa using h1.1.2)
          have c3 := hc 3 (by simpa using h1.2)
          have : j < 4 := by split at hj <;> simp at hj <;> omega
          match j, this with
          | 0, _ => exact h0
          | 1, _ => exact c1
          | 2, _ => exact c2
          | 3, _ => exact c3
        · have : j = 0 := by simp at hj; omega
          subst this; exact h0

theorem pb_wide {s : ByteArray} : ∀ (n i : Nat), (∀ j, j < n → i + j < s.size ∧ 128 ≤ bt s (i + j)) → pb s i true = pb s (i + n) true
  | 0, i, _ => rfl
  | n + 1, i, h => by
    have h0 := h 0 (by omega)
    rw [Nat.add_zero] at h0
    rw [pb_rem h0.1, show decide (bt s i ≠ 10) = true by simp; omega, pb_wide n (i + 1) (fun j hj => by have := h (j + 1) (by omega); rwa [show i + 1 + j = i + (j + 1) by omega]), show i + 1 + n = i + (n + 1) by omega]

set_option maxHeartbeats 400000 in
theorem isBlank_any (c : Int) (w : World) : Calls Tryz.prog 65 #[.int .i32 c] w fun e w' => e = .returned (.bool (blB c)) ∧ w' = w := by
  go_enter Tryz.func65, Tryz.ntmps65
  go_wp2
  all_goals (go_ret; exact ⟨ret_bool (by unfold blB; rw [Bool.eq_iff_iff]; simp <;> omega), rfl⟩)

def dotsB (s : ByteArray) (i : Nat) : Bool := decide (i + 3 ≤ s.size) && ((s.extract i (i + 3)).toList == [46, 46, 46])
theorem dots_prefix (s : ByteArray) (i : Nat) (hi : i ≤ s.size) : Lib.hasPrefix (s.extract i s.size).data.toList [46, 46, 46] = dotsB s i := by
  have hl : s.data.toList.length = s.size := by simp
  have e1 : (s.extract i s.size).data.toList = s.data.toList.drop i := by
    rw [ByteArray.data_extract, Array.toList_extract, List.extract_eq_take_drop, List.take_of_length_le (by rw [List.length_drop, hl]; exact Nat.le_refl _)]
  have e2 : (s.extract i (i + 3)).toList = (s.data.toList.drop i).take 3 := by
    rw [ByteArray.toList_eq, ByteArray.data_extract, Array.toList_extract, List.extract_eq_take_drop, show i + 3 - i = 3 by omega]
  unfold dotsB
  rw [e1, e2]
  have hd : (s.data.toList.drop i).length = s.size - i := by rw [List.length_drop, hl]
  generalize s.data.toList.drop i = l at *
  unfold Lib.hasPrefix
  rw [Bool.eq_iff_iff, List.isPrefixOf_iff_prefix]
  simp only [Bool.and_eq_true, decide_eq_true_eq, beq_iff_eq]
  constructor
  · rintro ⟨r, rfl⟩
    refine ⟨?_, rfl⟩
    simp at hd; omega
  · rintro ⟨_, h⟩
    rw [← h]; exact List.take_prefix _ _

set_option maxHeartbeats 1000000 in
theorem punct_any (s : ByteArray) (L i : Nat) (w : World) (hs : s.size ≤ 65536) (h : LexSt w L s i) (hi : i < s.size) :
    Calls Tryz.prog 70 #[.pointer (some ⟨L, 0, none⟩)] w fun e w' => e = .returned (.string (s.extract i (i + (if dotsB s i = true then 3 else 1)))) ∧ LexSt w' L s (i + (if dotsB s i = true then 3 else 1)) ∧ w.grownBy w' (some L) := by
  have c0 := h.c0
  have c1 := h.c1
  have HS : Hid (LexSt w L s i) := h
  clear h
  have b2 : (i : Int) ≤ s.size := by omega
  have HP : Hid (∀ W : World, Calls Tryz.prog 89 #[.string (s.extract i s.size), .string ⟨#[46, 46, 46]⟩] W fun e w' => e = .returned (.bool (dotsB s i)) ∧ w' = W) := fun W => by
    rw [← dots_prefix s i (by omega)]; exact Tryz.strings_HasPrefix _ _ W
  cases hd : dotsB s i
  · rw [hd] at HP
    rw [if_neg (by decide)]
    go_enter Tryz.func70, Tryz.ntmps70
    go_wp2_with fail
    go_quiet ((go_at_call 89; exact Calls.quiet_of_same (HP.out _)))
    go_wp2_with fail
    refine (take_any s L i _ _ hs (show LexSt (w.drewN nq) L s i from HS.out) (by omega) (by omega)).mono ?_
    rintro e w2 ⟨rfl, hst, hg⟩
    have HG := grown_trans (grown_drewN w nq (some L)) hg
    go_wp2_with fail
    go_ret
    exact ⟨rfl, hst, HG⟩
  · rw [hd] at HP
    rw [if_pos rfl]
    have h3 : i + 3 ≤ s.size := by unfold dotsB at hd; simp at hd; exact hd.1
    go_enter Tryz.func70, Tryz.ntmps70
    go_wp2_with fail
    go_quiet ((go_at_call 89; exact Calls.quiet_of_same (HP.out _)))
    go_wp2_with fail
    refine (take_any s L i _ _ hs (show LexSt (w.drewN nq) L s i from HS.out) (by omega) (by omega)).mono ?_
    rintro e w2 ⟨rfl, hst, hg⟩
    have HG := grown_trans (grown_drewN w nq (some L)) hg
    go_wp2_with fail
    go_ret
    exact ⟨rfl, hst, HG⟩
end Go.Proofs.YtlilfbcngncllaaGreatDoor
namespace Go.Proofs.YtlilfbcngncllaaGreatDoor
open Go.ChangeShapes Go.WideShapes Go.ChangeAt Go.RowKit
set_option linter.unusedVariables false

set_option maxHeartbeats 2000000 in
theorem pass_any (s : ByteArray) (L i : Nat) (w : World) (hs : s.size ≤ 65536) (h : LexSt w L s i) (hi : i ≤ s.size) :
    Calls Tryz.prog 39 #[.pointer (some ⟨L, 0, none⟩)] w fun e w' => e = .returned (.tuple #[]) ∧ LexSt w' L s (pb s i false) ∧ w.grownBy w' (some L) := by
  have c0 := h.c0
  have c1 := h.c1
  have HS : Hid (LexSt w L s i) := h
  have hL := h.lt
  clear h
  have b2 : (i : Int) ≤ s.size := by omega
  go_enter Tryz.func39, Tryz.ntmps39
  go_wp2_with fail
  go_region
  go_wp2_with fail
  have hTs := ext_size s i
  have HTA : Hid (∀ k (h : k < (s.extract i s.size).size) (h2 : i + k < s.size), (s.extract i s.size)[k] = s[i + k]) := fun k h h2 => ext_at s i k h h2
  generalize s.extract i s.size = T at *
  clear c0 c1
  go_loopw [2] (fun v wr => ∃ (pos : Nat) (r : Bool), pos ≤ T.size ∧ v = .bool r ∧ Hid (wr.heap[w.heap.size]? = some (.stringIter T pos)) ∧ Below w.heap.size w wr ∧ Hid (pb s i false = pb s (i + pos) r)) (fun _ wr => T.size - wr.iterPos w.heap.size)
  case atStart => exact ⟨0, false, Nat.zero_le _, rfl, World.iter_heap _ _ _, (Below.refl _ _).drew.alloc (Nat.le_refl _) _, rfl⟩
  case round =>
    rename_i wr
    obtain ⟨pos, r, hpos, rfl, HI, hb, HK⟩ := hrel
    by_cases hp : pos < T.size
    · have hsz : i + pos < s.size := by omega
      have hbt : bt s (i + pos) = (T[pos].toNat : Int) := by rw [bt_lt hsz, HTA.out pos hp hsz]
      by_cases ha : T[pos].toNat < 128
      · have hnx : ∀ ty, (Instr.next (.pointer (some ⟨w.heap.size, 0, none⟩)) true ty).run Tryz.prog wr = _ := fun ty => Lib.run_next_ascii_at wr w.heap.size T pos ty HI.out hp ha
        cases r
        · by_cases h35 : (T[pos].toNat : Int) = 35
          · have h35' : ((T[pos].toNat : Int) == 35) = true := by rw [h35]; rfl
            have HF : Hid (pb s i false = pb s (i + (pos + 1)) true) := by rw [Hid, HK.out, pb_hash hsz (by rw [hbt]; exact h35)]; rfl
            have HI2 : Hid _ := Lib.iterAt_heap wr w.heap.size T pos (pos + 1) HI.out
            have q2 := Lib.below_iterAt hb (Nat.le_refl w.heap.size) T (pos + 1)
            have hm1 := iterPos_of HI.out
            have hm2 := iterPos_of HI2.out
            have HM : Hid (T.size - (wr.iterAt w.heap.size T (pos + 1)).iterPos w.heap.size < T.size - wr.iterPos w.heap.size) := by rw [Hid, hm1, hm2]; omega
            clear hm1 hm2 hbt h35
            go_wp2_with (go_at_call 65; refine (isBlank_any _ _).mono ?_; rintro e w1 ⟨rfl, rfl⟩)
            exact ⟨⟨(pos + 1), _, by omega, rfl, HI2, q2, HF⟩, HM.out⟩
          · have h35' : ((T[pos].toNat : Int) == 35) = false := by rw [beq_eq_false_iff_ne]; exact h35
            cases hbl : blB (T[pos].toNat : Int)
            · have hpt := pb_tok hsz (by rw [hbt]; exact h35) (by rw [hbt]; exact hbl)
              clear h35 hbt
              have HE : Hid (pb s i false = i + pos) := by rw [Hid, HK.out, hpt]
              have HST : LexSt (wr.iterAt w.heap.size T (pos + 1)) L s i := (Lib.iterAt_other wr _ L T _ (by omega)).trans ((hb.block L hL).trans HS.out)
              have qg := Lib.below_iterAt hb (Nat.le_refl w.heap.size) T (pos + 1)
              clear HI hpt
              generalize wr.iterAt w.heap.size T (pos + 1) = wq at *
              have c0 := HST.c0
              have c1 := HST.c1
              have f1 := HST.f1
              have HST2 : Hid (LexSt wq L s i) := HST
              clear HST
              go_wp2_with (go_at_call 65; refine (isBlank_any _ _).mono ?_; rintro e w1 ⟨rfl, rfl⟩)
              first | go_end0 | refine bodyPost_ret (results_none rfl _ _ _) rfl ?_
              rw [HE.out, show (i : Int) + pos = ((i + pos : Nat) : Int) by omega]
              exact ⟨rfl, HST2.out.set (i + pos), grown_set (grown_below (grown_refl w (some L)) qg) _ _⟩
            · have hpt := pb_blank hsz (by rw [hbt]; exact h35) (by rw [hbt]; exact hbl)
              clear h35 hbt
              have HF : Hid (pb s i false = pb s (i + (pos + 1)) false) := by rw [Hid, HK.out, hpt]; rfl
              have HI2 : Hid _ := Lib.iterAt_heap wr w.heap.size T pos (pos + 1) HI.out
              have q2 := Lib.below_iterAt hb (Nat.le_refl w.heap.size) T (pos + 1)
              have hm1 := iterPos_of HI.out
              have hm2 := iterPos_of HI2.out
              have HM : Hid (T.size - (wr.iterAt w.heap.size T (pos + 1)).iterPos w.heap.size < T.size - wr.iterPos w.heap.size) := by rw [Hid, hm1, hm2]; omega
              clear hm1 hm2 hpt
              go_wp2_with (go_at_call 65; refine (isBlank_any _ _).mono ?_; rintro e w1 ⟨rfl, rfl⟩)
              exact ⟨⟨(pos + 1), _, by omega, rfl, HI2, q2, HF⟩, HM.out⟩
        · have hpt := pb_rem hsz
          rw [hbt] at hpt
          by_cases h10 : (T[pos].toNat : Int) = 10
          · have h10' : ((T[pos].toNat : Int) != 10) = false := by rw [h10]; rfl
            rw [show decide ((T[pos].toNat : Int) ≠ 10) = false by simpa using h10] at hpt
            clear h10 hbt
            have HF : Hid (pb s i false = pb s (i + (pos + 1)) false) := by rw [Hid, HK.out, hpt]; rfl
            have HI2 : Hid _ := Lib.iterAt_heap wr w.heap.size T pos (pos + 1) HI.out
            have q2 := Lib.below_iterAt hb (Nat.le_refl w.heap.size) T (pos + 1)
            have hm1 := iterPos_of HI.out
            have hm2 := iterPos_of HI2.out
            have HM : Hid (T.size - (wr.iterAt w.heap.size T (pos + 1)).iterPos w.heap.size < T.size - wr.iterPos w.heap.size) := by rw [Hid, hm1, hm2]; omega
            clear hm1 hm2 hpt
            go_wp2_with (go_at_call 65; refine (isBlank_any _ _).mono ?_; rintro e w1 ⟨rfl, rfl⟩)
            exact ⟨⟨(pos + 1), _, by omega, rfl, HI2, q2, HF⟩, HM.out⟩
          · have h10' : ((T[pos].toNat : Int) != 10) = true := by rw [bne_iff_ne]; exact h10
            rw [show decide ((T[pos].toNat : Int) ≠ 10) = true by simpa using h10] at hpt
            clear h10 hbt
            have HF : Hid (pb s i false = pb s (i + (pos + 1)) true) := by rw [Hid, HK.out, hpt]; rfl
            have HI2 : Hid _ := Lib.iterAt_heap wr w.heap.size T pos (pos + 1) HI.out
            have q2 := Lib.below_iterAt hb (Nat.le_refl w.heap.size) T (pos + 1)
            have hm1 := iterPos_of HI.out
            have hm2 := iterPos_of HI2.out
            have HM : Hid (T.size - (wr.iterAt w.heap.size T (pos + 1)).iterPos w.heap.size < T.size - wr.iterPos w.heap.size) := by rw [Hid, hm1, hm2]; omega
            clear hm1 hm2 hpt
            go_wp2_with (go_at_call 65; refine (isBlank_any _ _).mono ?_; rintro e w1 ⟨rfl, rfl⟩)
            exact ⟨⟨(pos + 1), _, by omega, rfl, HI2, q2, HF⟩, HM.out⟩
      · have hd := decode_high T pos hp (by omega)
        have hby := dec_bytes T pos hp (by omega)
        have hnx : ∀ ty, (Instr.next (.pointer (some ⟨w.heap.size, 0, none⟩)) true ty).run Tryz.prog wr = _ := fun ty => Lib.run_next_any_at wr w.heap.size T pos ty HI.out hp
        generalize (Utf8.decode T pos).1 = rn at *
        generalize (Utf8.decode T pos).2 = n at *
        cases r
        · have h35' : ((rn : Int) == 35) = false := by rw [beq_eq_false_iff_ne]; omega
          have hbl : blB (rn : Int) = false := by unfold blB; simp; omega
          have hpt := pb_tok hsz (by rw [hbt]; omega) (by rw [hbt]; unfold blB; simp; omega)
          clear hbt hby hd
          have HE : Hid (pb s i false = i + pos) := by rw [Hid, HK.out, hpt]
          have HST : LexSt (wr.iterAt w.heap.size T (pos + n)) L s i := (Lib.iterAt_other wr _ L T _ (by omega)).trans ((hb.block L hL).trans HS.out)
          have qg := Lib.below_iterAt hb (Nat.le_refl w.heap.size) T (pos + n)
          clear HI hpt
          generalize wr.iterAt w.heap.size T (pos + n) = wq at *
          have c0 := HST.c0
          have c1 := HST.c1
          have f1 := HST.f1
          have HST2 : Hid (LexSt wq L s i) := HST
          clear HST
          go_wp2_with (go_at_call 65; refine (isBlank_any _ _).mono ?_; rintro e w1 ⟨rfl, rfl⟩)
          first | go_end0 | refine bodyPost_ret (results_none rfl _ _ _) rfl ?_
          rw [HE.out, show (i : Int) + pos = ((i + pos : Nat) : Int) by omega]
          exact ⟨rfl, HST2.out.set (i + pos), grown_set (grown_below (grown_refl w (some L)) qg) _ _⟩
        · have h10' : ((rn : Int) != 10) = true := by rw [bne_iff_ne]; omega
          have hlast := hby (n - 1) (by omega)
          have hn1 : pos + n ≤ T.size := by obtain ⟨h2, _⟩ := hlast; omega
          have hpt : pb s (i + pos) true = pb s (i + pos + n) true := pb_wide n (i + pos) (fun j hj => by
            obtain ⟨h2, h3⟩ := hby j hj
            have hz : i + (pos + j) < s.size := by omega
            rw [show i + pos + j = i + (pos + j) by omega, bt_lt hz, ← HTA.out (pos + j) h2 hz]
            exact ⟨hz, by omega⟩)
          have hn0 := hd.2
          clear hbt hby hlast hd
          have HF : Hid (pb s i false = pb s (i + (pos + n)) true) := by rw [Hid, HK.out, hpt, Nat.add_assoc]
          have HI2 : Hid _ := Lib.iterAt_heap wr w.heap.size T pos (pos + n) HI.out
          have q2 := Lib.below_iterAt hb (Nat.le_refl w.heap.size) T (pos + n)
          have hm1 := iterPos_of HI.out
          have hm2 := iterPos_of HI2.out
          have HM : Hid (T.size - (wr.iterAt w.heap.size T (pos + n)).iterPos w.heap.size < T.size - wr.iterPos w.heap.size) := by rw [Hid, hm1, hm2]; omega
          clear hm1 hm2 hpt
          go_wp2_with (go_at_call 65; refine (isBlank_any _ _).mono ?_; rintro e w1 ⟨rfl, rfl⟩)
          exact ⟨⟨(pos + n), _, hn1, rfl, HI2, q2, HF⟩, HM.out⟩
    · have hnx : ∀ ty, (Instr.next (.pointer (some ⟨w.heap.size, 0, none⟩)) true ty).run Tryz.prog wr = _ := fun ty => Lib.run_next_end_at wr w.heap.size T pos ty HI.out hp
      have HE : Hid (pb s i false = s.size) := by rw [Hid, HK.out, pb_end (by omega)]
      have HST : LexSt wr L s i := (hb.block L hL).trans HS.out
      have c0 := HST.c0
      have c1 := HST.c1
      have f1 := HST.f1
      have HST2 : Hid (LexSt wr L s i) := HST
      clear HST
      go_wp2_with fail
      first | go_end0 | refine bodyPost_ret (results_none rfl _ _ _) rfl ?_
      rw [HE.out]
      exact ⟨rfl, HST2.out.set s.size, grown_set (grown_below (grown_refl w (some L)) hb) _ _⟩
end Go.Proofs.YtlilfbcngncllaaGreatDoor
namespace Go.Proofs.YtlilfbcngncllaaGreatDoor
open Go.ChangeShapes Go.WideShapes Go.ChangeAt Go.RowKit
set_option linter.unusedVariables false

/-- What the library's variables that are read hold. -/
def Vars (w : World) : Prop := Lib.TabIs Tryz.prog w "internal/strconv.uint64pow10" .u64 Lib.pow10Tab ∧ (∃ tp p, w.var? Tryz.prog "strconv.ErrSyntax" = some #[.iface tp p]) ∧ ∃ tp p, w.var? Tryz.prog "strconv.ErrRange" = some #[.iface tp p]
theorem gPow : Tryz.prog.globalNamed "internal/strconv.uint64pow10" = some 2 := by kernel_rfl
theorem gSyn : Tryz.prog.globalNamed "strconv.ErrSyntax" = some 0 := by kernel_rfl
theorem gRan : Tryz.prog.globalNamed "strconv.ErrRange" = some 1 := by kernel_rfl
theorem Vars.lt {w : World} (h : Vars w) : 2 < w.heap.size := by
  have h := h.1
  unfold Lib.TabIs World.var? at h
  rw [gPow] at h
  simp only [Option.bind_some] at h
  split at h
  · rename_i hh; exact (Array.getElem?_eq_some_iff.1 hh).1
  · cases h
theorem Vars.keep {w w' : World} (h : Vars w) (hk : ∀ g, g ≤ 2 → w'.heap[g]? = w.heap[g]?) : Vars w' := by
  obtain ⟨h1, ⟨t2, p2, h2⟩, ⟨t3, p3, h3⟩⟩ := h
  refine ⟨?_, ⟨t2, p2, ?_⟩, ⟨t3, p3, ?_⟩⟩
  · unfold Lib.TabIs World.var? at h1 ⊢
    rw [gPow] at h1 ⊢
    simp only [Option.bind_some] at h1 ⊢
    rw [hk 2 (by omega)]; exact h1
  · unfold World.var? at h2 ⊢
    rw [gSyn] at h2 ⊢
    simp only [Option.bind_some] at h2 ⊢
    rw [hk 0 (by omega)]; exact h2
  · unfold World.var? at h3 ⊢
    rw [gRan] at h3 ⊢
    simp only [Option.bind_some] at h3 ⊢
    rw [hk 1 (by omega)]; exact h3
theorem Vars.below {w w' : World} {B : Nat} (h : Vars w) (hb : Below B w w') (hB : 2 < B) : Vars w' := h.keep fun g hg => hb.block g (by omega)
theorem Vars.grown {w w' : World} {L : Nat} (h : Vars w) (hg : w.grownBy w' (some L)) (hL : 2 < L) : Vars w' :=
  h.keep fun g hl => hg.block g (by have := h.lt; omega) (by intro e; simp only [Option.some.injEq] at e; omega)

theorem Vars.up {w w' : World} (h : Vars w) (hb : Below w.heap.size w w') : Vars w' := h.below hb h.lt
theorem atoi_any (T : ByteArray) (w : World) (hs : T.size ≤ 1048576) (hv : Vars w) :
    Calls Tryz.prog 87 #[.string T] w fun e w' => ((∃ v, Lib.atoiAll T.toList = .ok v ∧ e = .returned (.tuple #[.int .i64 v, .nilIface])) ∨ ((∀ v, Lib.atoiAll T.toList ≠ .ok v) ∧ ∃ n N, e = .returned (.tuple #[.int .i64 n, .iface 126 (.pointer (some ⟨N, 0, none⟩))]))) ∧ Below w.heap.size w w' := by
  obtain ⟨h1, ⟨t2, p2, h2⟩, ⟨t3, p3, h3⟩⟩ := hv
  rw [ByteArray.toList_eq]
  cases h : Lib.atoiAll T.data.toList
  · rename_i v
    refine (Tryz.strconv_Atoi_ok T (by omega) v h w).mono ?_
    rintro e w1 ⟨rfl, hw⟩
    refine ⟨.inl ⟨v, rfl, rfl⟩, ?_⟩
    rcases hw with rfl | ⟨t, rfl⟩
    · exact Below.refl _ _
    · exact Lib.bytesWorld_below _ _ _
  · refine (Any.strconv_Atoi_syntax_var Tryz.laysC172 T (by omega) h t2 p2 w h2).mono ?_
    rintro e w1 ⟨N, rfl, _, _, hb⟩
    exact ⟨.inr ⟨fun v hv => by (cases hv), 0, N, rfl⟩, hb⟩
  · refine (Tryz.strconv_Atoi_range_var T (by omega) h t3 p3 w h3).mono ?_
    rintro e w1 ⟨N, rfl, _, _, hb⟩
    exact ⟨.inr ⟨fun v hv => by (cases hv), _, N, rfl⟩, hb⟩

theorem grow_below (w : World) (k : Nat) (os : Array Obj) : Below w.heap.size w (Sort.grow (w.drewN k) os) := by
  refine ⟨rfl, rfl, rfl, ?_, ?_⟩
  · show w.heap.size ≤ ((w.drewN k).heap ++ os).size
    have : (w.drewN k).heap = w.heap := rfl
    rw [this]; simp
  · intro i hi
    show ((w.drewN k).heap ++ os)[i]? = w.heap[i]?
    have : (w.drewN k).heap = w.heap := rfl
    rw [this, Array.getElem?_append_left hi]
theorem itoa_any (n : Int) (w : World) (h0 : -9223372036854775808 ≤ n) (h1 : n ≤ 9223372036854775807) (hp : Vars w) :
    Calls Tryz.prog 88 #[.int .i64 n] w fun e w' => e = .returned (.string ⟨(Lib.itoa n).toArray⟩) ∧ Below w.heap.size w w' := by
  refine (Tryz.strconv_Itoa n h0 h1 w hp.1).mono ?_
  rintro e w1 ⟨rfl, k, os, rfl⟩
  exact ⟨rfl, grow_below w k os⟩

/-- What the program makes of a text that begins as a number. -/
def numTok (l : List UInt8) : Tk := match Lib.atoiAll l with
  | .ok n => if Lib.itoa n = l then ⟨2, n, ⟨#[]⟩⟩ else ⟨0, 0, ⟨#[]⟩⟩
  | _ => ⟨0, 0, ⟨#[]⟩⟩
theorem numTok_ok {l : List UInt8} {v : Int} (h : Lib.atoiAll l = .ok v) (he : Lib.itoa v = l) : numTok l = ⟨2, v, ⟨#[]⟩⟩ := by unfold numTok; rw [h]; simp [he]
theorem numTok_no {l : List UInt8} {v : Int} (h : Lib.atoiAll l = .ok v) (he : ¬ Lib.itoa v = l) : numTok l = ⟨0, 0, ⟨#[]⟩⟩ := by unfold numTok; rw [h]; simp [he]
theorem numTok_bad {l : List UInt8} (h : ∀ v, Lib.atoiAll l ≠ .ok v) : numTok l = ⟨0, 0, ⟨#[]⟩⟩ := by
  unfold numTok
  split
  · rename_i v hv; exact absurd hv (h v)
  · rfl
theorem tok_num (l : List UInt8) : (tokB (numTok l).k (numTok l).n (numTok l).t = true → numT l = some (numTok l).n ∧ (numTok l).k = 2 ∧ (numTok l).t = ⟨#[]⟩) ∧ (tokB (numTok l).k (numTok l).n (numTok l).t = false → numT l = none) := by
  have e0 : tokB 0 0 ⟨#[]⟩ = false := by decide
  have e2 : ∀ v, tokB 2 v ⟨#[]⟩ = intB v := by
    intro v; unfold tokB
    rw [if_neg (by omega), if_pos rfl]
    simp [ByteArray.toList_eq]
  by_cases h : ∃ v, Lib.atoiAll l = .ok v
  · obtain ⟨v, hv⟩ := h
    by_cases he : Lib.itoa v = l
    · rw [numTok_ok hv he]
      simp only [e2]
      unfold numT
      rw [hv]
      constructor
      · intro hi; simp [he, hi]
      · intro hi; simp [hi]
    · rw [numTok_no hv he]
      simp only [e0]
      refine ⟨fun h => by (cases h), fun _ => ?_⟩
      unfold numT; rw [hv]; simp [he]
  · have hb : ∀ v, Lib.atoiAll l ≠ .ok v := fun v hv => h ⟨v, hv⟩
    rw [numTok_bad hb]
    simp only [e0]
    refine ⟨fun h => by (cases h), fun _ => ?_⟩
    unfold numT
    split
    · rename_i v hv; exact absurd hv (hb v)
    · rfl
theorem results35_row (tmps : Array Value) (W : World) (N : Nat) (cs : Array Value) (h2 : tmps.getD 2 undef = .pointer (some ⟨N, 0, none⟩)) (hrow : W.heap[N]? = some (.cells cs 66 (0, 0))) (hsz : cs.size = 3) :
    (results Tryz.f69 tmps).run Tryz.prog W = .ok (.agg cs) W := by
  have c39 : (Tryz.prog.info? 66).map (·.size) = some 3 := by kernel_rfl
  exact results_cell_row Tryz.results69 tmps W N 66 cs (0, 0) _ h2 hrow Tryz.underlying66 rfl (by rw [hsz]; exact c39)

set_option maxHeartbeats 1000000 in
theorem number_tok (T : ByteArray) (w : World) (hs : T.size ≤ 1048576) (hv : Vars w) :
    Calls Tryz.prog 69 #[.string T] w fun e w' => e = .returned (.agg #[.int .i64 (numTok T.toList).k, .int .i64 (numTok T.toList).n, .string (numTok T.toList).t]) ∧ Below w.heap.size w w' := by
  have HV : Hid (Vars w) := hv
  clear hv
  go_enter Tryz.func69, Tryz.ntmps69
  go_wp2_with fail
  have HV1 : Hid (Vars (w.alloc (.cells #[.int .i64 0, .int .i64 0, .string ⟨#[]⟩] 66))) := HV.out.up ((Below.refl _ _).alloc (Nat.le_refl _) _)
  refine (atoi_any T _ hs HV1.out).mono ?_
  rintro e w1 ⟨hcase, hb1⟩
  have hz1 : w.heap.size + 1 ≤ w1.heap.size := by have := hb1.size; simpa using this
  have hrow : Hid (w1.heap[w.heap.size]? = some (.cells #[.int .i64 0, .int .i64 0, .string ⟨#[]⟩] 66 (0, 0))) := (hb1.block _ (by simp)).trans (heap_alloc_new _ _)
  have q1 : Below w.heap.size w w1 := ((Below.refl _ _).alloc (Nat.le_refl _) _).trans (hb1.mono (by simp))
  rcases hcase with ⟨v, hv, rfl⟩ | ⟨hbad, n, N, rfl⟩
  · have hb := Lib.atoiAll_bounds hv
    have HV2 : Hid (Vars w1) := HV.out.up q1
    by_cases he : Lib.itoa v = T.toList
    · have HT : Hid (numTok T.toList = ⟨2, v, ⟨#[]⟩⟩) := numTok_ok hv he
      have he' : ((⟨(Lib.itoa v).toArray⟩ : ByteArray).toList == T.toList) = true := by rw [ByteArray.toList_mk, he]; simp
      have HI : Hid (Calls Tryz.prog 88 #[.int .i64 v] w1 fun e w' => e = .returned (.string ⟨(Lib.itoa v).toArray⟩) ∧ Below w1.heap.size w1 w') := itoa_any v w1 hb.1 hb.2 HV2.out
      clear hv he
      generalize (⟨(Lib.itoa v).toArray⟩ : ByteArray) = S at *
      go_wp2_with fail
      refine HI.out.mono ?_
      rintro e w2 ⟨rfl, hb2⟩
      have hrow2 : Hid (w2.heap[w.heap.size]? = some (.cells #[.int .i64 0, .int .i64 0, .string ⟨#[]⟩] 66 (0, 0))) := (hb2.block _ (by omega)).trans hrow.out
      have d0 := row_cell hrow2.out 0
      have d1 := row_cell hrow2.out 1
      have d2 := row_cell hrow2.out 2
      have g0 := row_frozen hrow2.out 0
      have g1 := row_frozen hrow2.out 1
      have g2 := row_frozen hrow2.out 2
      simp at d0 d1 d2
      have q2 := q1.trans (hb2.mono q1.size)
      go_wp2_with fail
      refine bodyPost_ret (v := .agg #[.int .i64 2, .int .i64 v, .string ⟨#[]⟩]) (results35_row _ _ w.heap.size _ rfl (row_set (row_set (row_set hrow2.out _ _) _ _) _ _) rfl) rfl ⟨by rw [HT.out], ?_⟩
      refine Below.setCell ?_ (by simp) _
      refine Below.setCell ?_ (by simp) _
      refine Below.setCell ?_ (by simp) _
      exact q2
    · have HT : Hid (numTok T.toList = ⟨0, 0, ⟨#[]⟩⟩) := numTok_no hv he
      have he' : ((⟨(Lib.itoa v).toArray⟩ : ByteArray).toList == T.toList) = false := by rw [ByteArray.toList_mk]; simpa using he
      have HI : Hid (Calls Tryz.prog 88 #[.int .i64 v] w1 fun e w' => e = .returned (.string ⟨(Lib.itoa v).toArray⟩) ∧ Below w1.heap.size w1 w') := itoa_any v w1 hb.1 hb.2 HV2.out
      clear hv he
      generalize (⟨(Lib.itoa v).toArray⟩ : ByteArray) = S at *
      go_wp2_with fail
      refine HI.out.mono ?_
      rintro e w2 ⟨rfl, hb2⟩
      have hrow2 : Hid (w2.heap[w.heap.size]? = some (.cells #[.int .i64 0, .int .i64 0, .string ⟨#[]⟩] 66 (0, 0))) := (hb2.block _ (by omega)).trans hrow.out
      have d0 := row_cell hrow2.out 0
      have d1 := row_cell hrow2.out 1
      have d2 := row_cell hrow2.out 2
      have g0 := row_frozen hrow2.out 0
      have g1 := row_frozen hrow2.out 1
      have g2 := row_frozen hrow2.out 2
      simp at d0 d1 d2
      have q2 := q1.trans (hb2.mono q1.size)
      go_wp2_with fail
      refine bodyPost_ret (v := .agg #[.int .i64 0, .int .i64 0, .string ⟨#[]⟩]) (results35_row _ _ w.heap.size _ rfl (row_set (row_set (row_set hrow2.out _ _) _ _) _ _) rfl) rfl ⟨by rw [HT.out], ?_⟩
      refine Below.setCell ?_ (by simp) _
      refine Below.setCell ?_ (by simp) _
      refine Below.setCell ?_ (by simp) _
      exact q2
  · have HT : Hid (numTok T.toList = ⟨0, 0, ⟨#[]⟩⟩) := numTok_bad hbad
    clear hbad
    have d0 := row_cell hrow.out 0
    have d1 := row_cell hrow.out 1
    have d2 := row_cell hrow.out 2
    have g0 := row_frozen hrow.out 0
    have g1 := row_frozen hrow.out 1
    have g2 := row_frozen hrow.out 2
    simp at d0 d1 d2
    go_wp2_with fail
    refine bodyPost_ret (v := .agg #[.int .i64 0, .int .i64 0, .string ⟨#[]⟩]) (results35_row _ _ w.heap.size _ rfl (row_set (row_set (row_set hrow.out _ _) _ _) _ _) rfl) rfl ⟨by rw [HT.out], ?_⟩
    refine Below.setCell ?_ (by simp) _
    refine Below.setCell ?_ (by simp) _
    refine Below.setCell ?_ (by simp) _
    exact q1
end Go.Proofs.YtlilfbcngncllaaGreatDoor
