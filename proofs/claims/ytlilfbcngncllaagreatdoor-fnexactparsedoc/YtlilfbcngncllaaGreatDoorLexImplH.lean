/- The program's reader: marks; and a token, whichever it is. -/
import Derived.Test.YtlilfbcngncllaaGreatDoorLexImplE
import Derived.WalkLawsBesides
namespace Go.Proofs.YtlilfbcngncllaaGreatDoor
open Go.ChangeShapes Go.WideShapes Go.ChangeAt Go.RowKit
set_option linter.unusedVariables false

def TokIs (s : ByteArray) (p L : Nat) (w : World) (e : Ending) (w' : World) : Prop :=
  (∃ (x : Tk) (q : Nat), tokAt s p = some (x, q) ∧ e = .returned (.agg #[.int .i64 x.k, .int .i64 x.n, .string x.t]) ∧ LexSt w' L s q ∧ w.grownBy w' (some L)) ∨
  (tokAt s p = none ∧ e = .panicked [{ v := .iface 53 (.agg #[.int .i64 3]), recovered := false }] ∧ w.grownBy w' (some L))
theorem results24_row (tmps : Array Value) (W : World) (N : Nat) (cs : Array Value) (h2 : tmps.getD 2 undef = .pointer (some ⟨N, 0, none⟩)) (hrow : W.heap[N]? = some (.cells cs 66 (0, 0))) (hsz : cs.size = 3) :
    (results Tryz.f40 tmps).run Tryz.prog W = .ok (.agg cs) W := by
  have c39 : (Tryz.prog.info? 66).map (·.size) = some 3 := by kernel_rfl
  exact results_cell_row Tryz.results40 tmps W N 66 cs (0, 0) _ h2 hrow Tryz.underlying66 rfl (by rw [hsz]; exact c39)
theorem clone_any (s : ByteArray) (w : World) (hs : s.size ≤ 65536) :
    Calls Tryz.prog 72 #[.string s] w fun e w' => e = .returned (.string s) ∧ Below w.heap.size w w' := by
  go_enter Tryz.func72, Tryz.ntmps72
  go_wp2_with (go_at_call 92; refine (Tryz.stringslite_Clone s _ (by omega)).mono ?_; rintro e w1 ⟨rfl, hb1⟩)
  go_ret
  exact ⟨rfl, hb1⟩
theorem row_other {w : World} {N M j : Nat} {o : Option Obj} (h : w.heap[N]? = o) (hne : N ≠ M) (v : Value) : (w.setCell ⟨M, j, none⟩ v).heap[N]? = o := by
  rw [Below.heap_setCell _ _ _ _ hne]; exact h
theorem LexSt.other {w : World} {L M j : Nat} {s : ByteArray} {i : Nat} (h : LexSt w L s i) (hne : L ≠ M) (v : Value) : LexSt (w.setCell ⟨M, j, none⟩ v) L s i := row_other h hne v
theorem grown_new {a b : World} {L M o : Nat} (h : a.grownBy b (some L)) (hM : a.heap.size ≤ M) (v : Value) : a.grownBy (b.setCell ⟨M, o, none⟩ v) (some L) :=
  ⟨h.os, h.tape, h.output, by have := h.size; simpa [World.setCell] using this, fun i hi hr => by
    rw [Below.heap_setCell _ _ _ _ (by show i ≠ M; omega)]; exact h.block i hi hr⟩
theorem LexSt.grownTo {w w' : World} {L N : Nat} {cs : Array Value} {e : TypeId} (h : w.heap[N]? = some (.cells cs e (0, 0))) (hg : w.grownBy w' (some L)) (hne : N ≠ L) : w'.heap[N]? = some (.cells cs e (0, 0)) :=
  (hg.block N (Array.getElem?_eq_some_iff.1 h).1 (by intro e; simp only [Option.some.injEq] at e; exact hne e)).trans h

set_option maxHeartbeats 4000000 in
theorem tok_name (s : ByteArray) (L p : Nat) (w : World) (hs : s.size ≤ 65536) (h : LexSt w L s p) (hp : p < s.size) (hl : letB (s[p].toNat : Int) = true) :
    Calls Tryz.prog 40 #[.pointer (some ⟨L, 0, none⟩)] w (TokIs s p L w) := by
  have c0 := h.c0
  have c1 := h.c1
  have HS : Hid (LexSt w L s p) := h
  have hL := h.lt
  clear h
  have HTA : Hid (tokAt s p = if tokB 1 0 (s.extract p (we s (p + 1))) = true then some (⟨1, 0, s.extract p (we s (p + 1))⟩, we s (p + 1)) else none) := by
    have hc : ¬ bt s p = 36 := by intro h; rw [bt_lt hp] at h; rw [h] at hl; exact absurd hl (by decide)
    have e1 := we_letter hp (by rw [bt_lt hp]; exact hl)
    unfold Hid tokAt; rw [if_neg hc, if_pos (by rw [bt_lt hp]; exact hl), e1]
    congr 1
  have hb : (s[p].toNat : Int) < 256 := by have := s[p].toNat_lt; omega
  have hx6 : (s.extract p (we s (p + 1))).size ≤ 65536 := by rw [ByteArray.size_extract]; omega
  go_enter Tryz.func40, Tryz.ntmps40
  go_wp2_with fail
  go_quiet (fail)
  have hW1 : (((w.alloc (.cells #[.int .i64 0, .int .i64 0, .string ⟨#[]⟩] 66)).alloc (.cells #[.int .i64 0, .int .i64 0, .string ⟨#[]⟩] 66)).drewN nq).heap[w.heap.size + 1]? = some (.cells #[.int .i64 0, .int .i64 0, .string ⟨#[]⟩] 66) := by
    have := heap_alloc_new (w.alloc (.cells #[.int .i64 0, .int .i64 0, .string ⟨#[]⟩] 66)) (.cells #[.int .i64 0, .int .i64 0, .string ⟨#[]⟩] 66)
    simpa using this
  have hW0 : (((w.alloc (.cells #[.int .i64 0, .int .i64 0, .string ⟨#[]⟩] 66)).alloc (.cells #[.int .i64 0, .int .i64 0, .string ⟨#[]⟩] 66)).drewN nq).heap[w.heap.size]? = some (.cells #[.int .i64 0, .int .i64 0, .string ⟨#[]⟩] 66) := (Below.heap_alloc (w.alloc (.cells #[.int .i64 0, .int .i64 0, .string ⟨#[]⟩] 66)) (.cells #[.int .i64 0, .int .i64 0, .string ⟨#[]⟩] 66) w.heap.size (by simp)).trans (heap_alloc_new w (.cells #[.int .i64 0, .int .i64 0, .string ⟨#[]⟩] 66))
  have HSW : Hid (LexSt (((w.alloc (.cells #[.int .i64 0, .int .i64 0, .string ⟨#[]⟩] 66)).alloc (.cells #[.int .i64 0, .int .i64 0, .string ⟨#[]⟩] 66)).drewN nq) L s p) := (Below.heap_alloc (w.alloc (.cells #[.int .i64 0, .int .i64 0, .string ⟨#[]⟩] 66)) (.cells #[.int .i64 0, .int .i64 0, .string ⟨#[]⟩] 66) L (by simp; omega)).trans ((Below.heap_alloc w (.cells #[.int .i64 0, .int .i64 0, .string ⟨#[]⟩] 66) L hL).trans HS.out)
  have hgW : w.grownBy (((w.alloc (.cells #[.int .i64 0, .int .i64 0, .string ⟨#[]⟩] 66)).alloc (.cells #[.int .i64 0, .int .i64 0, .string ⟨#[]⟩] 66)).drewN nq) (some L) := grown_trans (grown_alloc (grown_alloc (grown_refl w _) _) _) (grown_drewN _ _ _)
  go_wp2_with (first | (go_at_call 66; refine (isLetter_any _ _).mono ?_; rintro e wL ⟨rfl, rfl⟩) | (go_at_call 68; refine (isDigit_any _ _).mono ?_; rintro e wL ⟨rfl, rfl⟩))
  clear c0 c1 hb
  refine (word_take s L p _ hs HSW.out hp).mono ?_
  rintro e w1 ⟨rfl, hst, hg⟩
  have hsz1 : w.heap.size + 2 ≤ w1.heap.size := by have := hg.size; simpa using this
  generalize s.extract p (we s (p + 1)) = T at *
  generalize we s (p + 1) = q at *
  have hxm : T.size ≤ maxLen := by unfold maxLen; omega
  have R0 : w1.heap[w.heap.size]? = some (.cells #[.int .i64 0, .int .i64 0, .string ⟨#[]⟩] 66 (0, 0)) := LexSt.grownTo hW0 hg (by omega)
  have R1 : w1.heap[w.heap.size + 1]? = some (.cells #[.int .i64 0, .int .i64 0, .string ⟨#[]⟩] 66 (0, 0)) := LexSt.grownTo hW1 hg (by omega)
  have hg0 : w.grownBy w1 (some L) := grown_trans hgW hg
  have HST : Hid (LexSt w1 L s q) := hst
  clear hst hg hW0 hW1 hgW
  have d0 := row_cell R1 0
  have d1 := row_cell R1 1
  have d2 := row_cell R1 2
  have g0 := row_frozen R1 0
  have g1 := row_frozen R1 1
  have g2 := row_frozen R1 2
  simp at d0 d1 d2
  have HR1 : Hid _ := R1
  have HR0 : Hid _ := R0
  clear R1 R0
  go_wp2_with fail
  refine (impl_tokOK 1 0 T _ hxm).mono ?_
  rintro e w2 ⟨rfl, hb2⟩
  have HR1s : Hid _ := row_set (row_set (row_set HR1.out 0 (.int .i64 1)) 1 (.int .i64 0)) 2 (.string T)
  have HR0s : Hid _ := row_other (row_other (row_other HR0.out (M := w.heap.size + 1) (j := 0) (by omega) (.int .i64 1)) (M := w.heap.size + 1) (j := 1) (by omega) (.int .i64 0)) (M := w.heap.size + 1) (j := 2) (by omega) (.string T)
  have HSTs : Hid _ := ((HST.out.other (M := w.heap.size + 1) (j := 0) (by omega) (.int .i64 1)).other (M := w.heap.size + 1) (j := 1) (by omega) (.int .i64 0)).other (M := w.heap.size + 1) (j := 2) (by omega) (.string T)
  have hgs := grown_new (grown_new (grown_new hg0 (M := w.heap.size + 1) (o := 0) (by omega) (.int .i64 1)) (M := w.heap.size + 1) (o := 1) (by omega) (.int .i64 0)) (M := w.heap.size + 1) (o := 2) (by omega) (.string T)
  clear HR1 HR0 HST hg0 d0 d1 d2 g0 g1 g2
  generalize ((w1.setCell ⟨w.heap.size + 1, 0, none⟩ (.int .i64 1)).setCell ⟨w.heap.size + 1, 1, none⟩ (.int .i64 0)).setCell ⟨w.heap.size + 1, 2, none⟩ (.string T) = w1s at *
  have HR12 : Hid (w2.heap[w.heap.size + 1]? = some (.cells #[.int .i64 1, .int .i64 0, .string T] 66 (0, 0))) := (hb2.block _ (Array.getElem?_eq_some_iff.1 HR1s.out).1).trans HR1s.out
  have HR02 : Hid (w2.heap[w.heap.size]? = some (.cells #[.int .i64 0, .int .i64 0, .string ⟨#[]⟩] 66 (0, 0))) := (hb2.block _ (Array.getElem?_eq_some_iff.1 HR0s.out).1).trans HR0s.out
  have HST2 : Hid (LexSt w2 L s q) := LexSt.below HSTs.out hb2
  have hg2 := grown_below hgs hb2
  clear HR1s HR0s HSTs hgs hb2
  cases hok : tokB 1 0 T
  · go_wp2_with fail
    exact ⟨rfl, .inr ⟨by rw [HTA.out, if_neg (by rw [hok]; decide)], rfl, hg2⟩⟩
  · have d0 := row_cell HR12.out 0
    have d1 := row_cell HR12.out 1
    have d2 := row_cell HR12.out 2
    simp at d0 d1 d2
    go_wp2_with fail
    refine (clone_any T _ hx6).mono ?_
    rintro e w3 ⟨rfl, hb3⟩
    have HR13 : Hid (w3.heap[w.heap.size + 1]? = some (.cells #[.int .i64 1, .int .i64 0, .string T] 66 (0, 0))) := (hb3.block _ (Array.getElem?_eq_some_iff.1 HR12.out).1).trans HR12.out
    have HR03 : Hid (w3.heap[w.heap.size]? = some (.cells #[.int .i64 0, .int .i64 0, .string ⟨#[]⟩] 66 (0, 0))) := (hb3.block _ (Array.getElem?_eq_some_iff.1 HR02.out).1).trans HR02.out
    have HST3 : Hid (LexSt w3 L s q) := LexSt.below HST2.out hb3
    have hg3 := grown_below hg2 hb3
    clear d0 d1 d2 HR12 HR02 HST2 hg2 hb3
    have d0 := row_cell HR13.out 0
    have d1 := row_cell HR13.out 1
    have d2 := row_cell HR13.out 2
    have g2 := row_frozen HR13.out 2
    have z0 := row_cell HR03.out 0
    have z1 := row_cell HR03.out 1
    have z2 := row_cell HR03.out 2
    have y0 := row_frozen HR03.out 0
    have y1 := row_frozen HR03.out 1
    have y2 := row_frozen HR03.out 2
    simp at d0 d1 d2 z0 z1 z2
    go_wp2_with fail
    refine bodyPost_ret (v := .agg #[.int .i64 1, .int .i64 0, .string T]) (results24_row _ _ w.heap.size _ rfl (row_set (row_set (row_set (row_other HR03.out (by omega) _) _ _) _ _) _ _) rfl) rfl (.inl ⟨⟨1, 0, T⟩, q, by rw [HTA.out, if_pos hok], rfl, ?_, ?_⟩)
    · exact (((HST3.out.other (by omega) _).other (by omega) _).other (by omega) _).other (by omega) _
    · exact grown_new (grown_new (grown_new (grown_new hg3 (by omega) _) (by omega) _) (by omega) _) (by omega) _
end Go.Proofs.YtlilfbcngncllaaGreatDoor
namespace Go.Proofs.YtlilfbcngncllaaGreatDoor
open Go.ChangeShapes Go.WideShapes Go.ChangeAt Go.RowKit
set_option linter.unusedVariables false

theorem ext_ext (s : ByteArray) (p q : Nat) (hp : p < q) (hq : q ≤ s.size) : (s.extract p q).extract 1 (s.extract p q).size = s.extract (p + 1) q := by
  apply ByteArray.ext
  simp only [ByteArray.data_extract, ByteArray.size_extract]
  rw [Array.extract_extract]
  congr 1
  omega

set_option maxHeartbeats 4000000 in
theorem tok_var (s : ByteArray) (L p : Nat) (w : World) (hs : s.size ≤ 65536) (h : LexSt w L s p) (hp : p < s.size) (hc : (s[p].toNat : Int) = 36) :
    Calls Tryz.prog 40 #[.pointer (some ⟨L, 0, none⟩)] w (TokIs s p L w) := by
  have c0 := h.c0
  have c1 := h.c1
  have HS : Hid (LexSt w L s p) := h
  have hL := h.lt
  clear h
  have hw := we_bounds (s := s) (i := p + 1) (by omega)
  have hl : letB 36 = false := by decide
  have HTA : Hid (tokAt s p = if tokB 3 0 ((s.extract p (we s (p + 1))).extract 1 (s.extract p (we s (p + 1))).size) = true then some (⟨3, 0, (s.extract p (we s (p + 1))).extract 1 (s.extract p (we s (p + 1))).size⟩, we s (p + 1)) else none) := by
    rw [ext_ext s p _ (by omega) (by omega)]
    unfold Hid tokAt; rw [if_pos (by rw [bt_lt hp]; exact hc)]
    congr 1
  have hx6 : ((s.extract p (we s (p + 1))).extract 1 (s.extract p (we s (p + 1))).size).size ≤ 65536 := by rw [ByteArray.size_extract, ByteArray.size_extract]; omega
  have hW1s : (1 : Int) ≤ (s.extract p (we s (p + 1))).size := by rw [ByteArray.size_extract]; omega
  go_enter Tryz.func40, Tryz.ntmps40
  go_wp2_with fail
  go_quiet (fail)
  have hW1 : (((w.alloc (.cells #[.int .i64 0, .int .i64 0, .string ⟨#[]⟩] 66)).alloc (.cells #[.int .i64 0, .int .i64 0, .string ⟨#[]⟩] 66)).drewN nq).heap[w.heap.size + 1]? = some (.cells #[.int .i64 0, .int .i64 0, .string ⟨#[]⟩] 66) := by
    have := heap_alloc_new (w.alloc (.cells #[.int .i64 0, .int .i64 0, .string ⟨#[]⟩] 66)) (.cells #[.int .i64 0, .int .i64 0, .string ⟨#[]⟩] 66)
    simpa using this
  have hW0 : (((w.alloc (.cells #[.int .i64 0, .int .i64 0, .string ⟨#[]⟩] 66)).alloc (.cells #[.int .i64 0, .int .i64 0, .string ⟨#[]⟩] 66)).drewN nq).heap[w.heap.size]? = some (.cells #[.int .i64 0, .int .i64 0, .string ⟨#[]⟩] 66) := (Below.heap_alloc (w.alloc (.cells #[.int .i64 0, .int .i64 0, .string ⟨#[]⟩] 66)) (.cells #[.int .i64 0, .int .i64 0, .string ⟨#[]⟩] 66) w.heap.size (by simp)).trans (heap_alloc_new w (.cells #[.int .i64 0, .int .i64 0, .string ⟨#[]⟩] 66))
  have HSW : Hid (LexSt (((w.alloc (.cells #[.int .i64 0, .int .i64 0, .string ⟨#[]⟩] 66)).alloc (.cells #[.int .i64 0, .int .i64 0, .string ⟨#[]⟩] 66)).drewN nq) L s p) := (Below.heap_alloc (w.alloc (.cells #[.int .i64 0, .int .i64 0, .string ⟨#[]⟩] 66)) (.cells #[.int .i64 0, .int .i64 0, .string ⟨#[]⟩] 66) L (by simp; omega)).trans ((Below.heap_alloc w (.cells #[.int .i64 0, .int .i64 0, .string ⟨#[]⟩] 66) L hL).trans HS.out)
  have hgW : w.grownBy (((w.alloc (.cells #[.int .i64 0, .int .i64 0, .string ⟨#[]⟩] 66)).alloc (.cells #[.int .i64 0, .int .i64 0, .string ⟨#[]⟩] 66)).drewN nq) (some L) := grown_trans (grown_alloc (grown_alloc (grown_refl w _) _) _) (grown_drewN _ _ _)
  go_wp2_with (first | (go_at_call 66; refine (isLetter_any _ _).mono ?_; rintro e wL ⟨rfl, rfl⟩) | (go_at_call 68; refine (isDigit_any _ _).mono ?_; rintro e wL ⟨rfl, rfl⟩))
  clear c0 c1 hl
  refine (word_take s L p _ hs HSW.out hp).mono ?_
  rintro e w1 ⟨rfl, hst, hg⟩
  have hsz1 : w.heap.size + 2 ≤ w1.heap.size := by have := hg.size; simpa using this
  clear hc
  generalize s.extract p (we s (p + 1)) = WD at *
  generalize we s (p + 1) = q at *
  have hxm : (WD.extract 1 WD.size).size ≤ maxLen := by unfold maxLen; omega
  have R0 : w1.heap[w.heap.size]? = some (.cells #[.int .i64 0, .int .i64 0, .string ⟨#[]⟩] 66 (0, 0)) := LexSt.grownTo hW0 hg (by omega)
  have R1 : w1.heap[w.heap.size + 1]? = some (.cells #[.int .i64 0, .int .i64 0, .string ⟨#[]⟩] 66 (0, 0)) := LexSt.grownTo hW1 hg (by omega)
  have hg0 : w.grownBy w1 (some L) := grown_trans hgW hg
  have HST : Hid (LexSt w1 L s q) := hst
  clear hst hg hW0 hW1 hgW
  have d0 := row_cell R1 0
  have d1 := row_cell R1 1
  have d2 := row_cell R1 2
  have g0 := row_frozen R1 0
  have g1 := row_frozen R1 1
  have g2 := row_frozen R1 2
  simp at d0 d1 d2
  have HR1 : Hid _ := R1
  have HR0 : Hid _ := R0
  clear R1 R0
  go_wp2_with fail
  refine (impl_tokOK 3 0 (WD.extract 1 WD.size) _ hxm).mono ?_
  rintro e w2 ⟨rfl, hb2⟩
  have HR1s : Hid _ := row_set (row_set (row_set HR1.out 0 (.int .i64 3)) 1 (.int .i64 0)) 2 (.string (WD.extract 1 WD.size))
  have HR0s : Hid _ := row_other (row_other (row_other HR0.out (M := w.heap.size + 1) (j := 0) (by omega) (.int .i64 3)) (M := w.heap.size + 1) (j := 1) (by omega) (.int .i64 0)) (M := w.heap.size + 1) (j := 2) (by omega) (.string (WD.extract 1 WD.size))
  have HSTs : Hid _ := ((HST.out.other (M := w.heap.size + 1) (j := 0) (by omega) (.int .i64 3)).other (M := w.heap.size + 1) (j := 1) (by omega) (.int .i64 0)).other (M := w.heap.size + 1) (j := 2) (by omega) (.string (WD.extract 1 WD.size))
  have hgs := grown_new (grown_new (grown_new hg0 (M := w.heap.size + 1) (o := 0) (by omega) (.int .i64 3)) (M := w.heap.size + 1) (o := 1) (by omega) (.int .i64 0)) (M := w.heap.size + 1) (o := 2) (by omega) (.string (WD.extract 1 WD.size))
  clear HR1 HR0 HST hg0 d0 d1 d2 g0 g1 g2
  generalize ((w1.setCell ⟨w.heap.size + 1, 0, none⟩ (.int .i64 3)).setCell ⟨w.heap.size + 1, 1, none⟩ (.int .i64 0)).setCell ⟨w.heap.size + 1, 2, none⟩ (.string (WD.extract 1 WD.size)) = w1s at *
  have HR12 : Hid (w2.heap[w.heap.size + 1]? = some (.cells #[.int .i64 3, .int .i64 0, .string (WD.extract 1 WD.size)] 66 (0, 0))) := (hb2.block _ (Array.getElem?_eq_some_iff.1 HR1s.out).1).trans HR1s.out
  have HR02 : Hid (w2.heap[w.heap.size]? = some (.cells #[.int .i64 0, .int .i64 0, .string ⟨#[]⟩] 66 (0, 0))) := (hb2.block _ (Array.getElem?_eq_some_iff.1 HR0s.out).1).trans HR0s.out
  have HST2 : Hid (LexSt w2 L s q) := LexSt.below HSTs.out hb2
  have hg2 := grown_below hgs hb2
  clear HR1s HR0s HSTs hgs hb2
  cases hok : tokB 3 0 (WD.extract 1 WD.size)
  · go_wp2_with fail
    exact ⟨rfl, .inr ⟨by rw [HTA.out, if_neg (by rw [hok]; decide)], rfl, hg2⟩⟩
  · have d0 := row_cell HR12.out 0
    have d1 := row_cell HR12.out 1
    have d2 := row_cell HR12.out 2
    simp at d0 d1 d2
    go_wp2_with fail
    refine (clone_any (WD.extract 1 WD.size) _ hx6).mono ?_
    rintro e w3 ⟨rfl, hb3⟩
    have HR13 : Hid (w3.heap[w.heap.size + 1]? = some (.cells #[.int .i64 3, .int .i64 0, .string (WD.extract 1 WD.size)] 66 (0, 0))) := (hb3.block _ (Array.getElem?_eq_some_iff.1 HR12.out).1).trans HR12.out
    have HR03 : Hid (w3.heap[w.heap.size]? = some (.cells #[.int .i64 0, .int .i64 0, .string ⟨#[]⟩] 66 (0, 0))) := (hb3.block _ (Array.getElem?_eq_some_iff.1 HR02.out).1).trans HR02.out
    have HST3 : Hid (LexSt w3 L s q) := LexSt.below HST2.out hb3
    have hg3 := grown_below hg2 hb3
    clear d0 d1 d2 HR12 HR02 HST2 hg2 hb3
    have d0 := row_cell HR13.out 0
    have d1 := row_cell HR13.out 1
    have d2 := row_cell HR13.out 2
    have g2 := row_frozen HR13.out 2
    have z0 := row_cell HR03.out 0
    have z1 := row_cell HR03.out 1
    have z2 := row_cell HR03.out 2
    have y0 := row_frozen HR03.out 0
    have y1 := row_frozen HR03.out 1
    have y2 := row_frozen HR03.out 2
    simp at d0 d1 d2 z0 z1 z2
    go_wp2_with fail
    refine bodyPost_ret (v := .agg #[.int .i64 3, .int .i64 0, .string (WD.extract 1 WD.size)]) (results24_row _ _ w.heap.size _ rfl (row_set (row_set (row_set (row_other HR03.out (by omega) _) _ _) _ _) _ _) rfl) rfl (.inl ⟨⟨3, 0, (WD.extract 1 WD.size)⟩, q, by rw [HTA.out, if_pos hok], rfl, ?_, ?_⟩)
    · exact (((HST3.out.other (by omega) _).other (by omega) _).other (by omega) _).other (by omega) _
    · exact grown_new (grown_new (grown_new (grown_new hg3 (by omega) _) (by omega) _) (by omega) _) (by omega) _

theorem numTok_size (l : List UInt8) : (numTok l).t.size ≤ 65536 := by
  unfold numTok
  split
  · split <;> exact Nat.zero_le _
  · exact Nat.zero_le _
set_option maxHeartbeats 4000000 in
theorem tok_int (s : ByteArray) (L p : Nat) (w : World) (hs : s.size ≤ 65536) (h : LexSt w L s p) (hv : Vars w) (hL3 : 2 < L) (hp : p < s.size) (h1 : ¬ (s[p].toNat : Int) = 36) (hl : letB (s[p].toNat : Int) = false) (hd : (s[p].toNat : Int) = 45 ∨ digB (s[p].toNat : Int) = true) :
    Calls Tryz.prog 40 #[.pointer (some ⟨L, 0, none⟩)] w (TokIs s p L w) := by
  have c0 := h.c0
  have c1 := h.c1
  have HS : Hid (LexSt w L s p) := h
  have hL := h.lt
  clear h
  have hw := we_bounds (s := s) (i := p + 1) (by omega)
  have HV : Hid (Vars w) := hv
  clear hv
  have HTA : Hid (tokAt s p = if tokB (numTok (s.extract p (we s (p + 1))).toList).k (numTok (s.extract p (we s (p + 1))).toList).n (numTok (s.extract p (we s (p + 1))).toList).t = true then some (numTok (s.extract p (we s (p + 1))).toList, we s (p + 1)) else none) := by
    obtain ⟨a1, a2⟩ := tok_num (s.extract p (we s (p + 1))).toList
    unfold Hid tokAt
    rw [bt_lt hp, if_neg h1, if_neg (by rw [hl]; decide), if_pos hd]
    generalize (s.extract p (we s (p + 1))).toList = l at *
    cases hk : tokB (numTok l).k (numTok l).n (numTok l).t
    · rw [a2 hk, if_neg (by decide)]; rfl
    · obtain ⟨b1, b2, b3⟩ := a1 hk
      rw [b1, if_pos rfl, Option.map_some]
      congr 2
      generalize numTok l = x at *
      obtain ⟨xk, xn, xt⟩ := x
      simp only at b2 b3
      subst b2 b3
      rfl
  have hxt := numTok_size (s.extract p (we s (p + 1))).toList
  have hxs : (s.extract p (we s (p + 1))).size ≤ 65536 := by rw [ByteArray.size_extract]; omega
  have hb : (s[p].toNat : Int) < 256 := by have := s[p].toNat_lt; omega
  have h36 : ((s[p].toNat : Int) == 36) = false := by rw [beq_eq_false_iff_ne]; exact h1
  have hcase : (digB (s[p].toNat : Int) = true) ∨ (digB (s[p].toNat : Int) = false ∧ ((s[p].toNat : Int) == 45) = true) := by
    cases hdd : digB (s[p].toNat : Int)
    · rcases hd with h | h
      · exact .inr ⟨rfl, by rw [h]; rfl⟩
      · rw [hdd] at h; cases h
    · exact .inl rfl
  clear hd h1
  go_enter Tryz.func40, Tryz.ntmps40
  go_wp2_with fail
  go_quiet (fail)
  have hW1 : (((w.alloc (.cells #[.int .i64 0, .int .i64 0, .string ⟨#[]⟩] 66)).alloc (.cells #[.int .i64 0, .int .i64 0, .string ⟨#[]⟩] 66)).drewN nq).heap[w.heap.size + 1]? = some (.cells #[.int .i64 0, .int .i64 0, .string ⟨#[]⟩] 66) := by
    have := heap_alloc_new (w.alloc (.cells #[.int .i64 0, .int .i64 0, .string ⟨#[]⟩] 66)) (.cells #[.int .i64 0, .int .i64 0, .string ⟨#[]⟩] 66)
    simpa using this
  have hW0 : (((w.alloc (.cells #[.int .i64 0, .int .i64 0, .string ⟨#[]⟩] 66)).alloc (.cells #[.int .i64 0, .int .i64 0, .string ⟨#[]⟩] 66)).drewN nq).heap[w.heap.size]? = some (.cells #[.int .i64 0, .int .i64 0, .string ⟨#[]⟩] 66) := (Below.heap_alloc (w.alloc (.cells #[.int .i64 0, .int .i64 0, .string ⟨#[]⟩] 66)) (.cells #[.int .i64 0, .int .i64 0, .string ⟨#[]⟩] 66) w.heap.size (by simp)).trans (heap_alloc_new w (.cells #[.int .i64 0, .int .i64 0, .string ⟨#[]⟩] 66))
  have HSW : Hid (LexSt (((w.alloc (.cells #[.int .i64 0, .int .i64 0, .string ⟨#[]⟩] 66)).alloc (.cells #[.int .i64 0, .int .i64 0, .string ⟨#[]⟩] 66)).drewN nq) L s p) := (Below.heap_alloc (w.alloc (.cells #[.int .i64 0, .int .i64 0, .string ⟨#[]⟩] 66)) (.cells #[.int .i64 0, .int .i64 0, .string ⟨#[]⟩] 66) L (by simp; omega)).trans ((Below.heap_alloc w (.cells #[.int .i64 0, .int .i64 0, .string ⟨#[]⟩] 66) L hL).trans HS.out)
  have hgW : w.grownBy (((w.alloc (.cells #[.int .i64 0, .int .i64 0, .string ⟨#[]⟩] 66)).alloc (.cells #[.int .i64 0, .int .i64 0, .string ⟨#[]⟩] 66)).drewN nq) (some L) := grown_trans (grown_alloc (grown_alloc (grown_refl w _) _) _) (grown_drewN _ _ _)
  have HVW : Hid (Vars (((w.alloc (.cells #[.int .i64 0, .int .i64 0, .string ⟨#[]⟩] 66)).alloc (.cells #[.int .i64 0, .int .i64 0, .string ⟨#[]⟩] 66)).drewN nq)) := HV.out.grown hgW hL3
  rcases hcase with hdig | ⟨hdig, h45⟩
  all_goals
    go_wp2_with (first | (go_at_call 66; refine (isLetter_any _ _).mono ?_; rintro e wL ⟨rfl, rfl⟩) | (go_at_call 68; refine (isDigit_any _ _).mono ?_; rintro e wL ⟨rfl, rfl⟩))
    clear c0 c1 hb
    refine (word_take s L p _ hs HSW.out hp).mono ?_
    rintro e w0 ⟨rfl, hst0, hg00⟩
    have HV0 : Hid (Vars w0) := HVW.out.grown hg00 hL3
    have HST0 : Hid _ := hst0
    clear hst0
    go_wp2_with fail
    refine (number_tok (s.extract p (we s (p + 1))) _ (Nat.le_trans hxs (by decide)) HV0.out).mono ?_
    rintro e w1 ⟨rfl, hbn⟩
    have hst := LexSt.below HST0.out hbn
    have hg := grown_below hg00 hbn
    have hsz1 : w.heap.size + 2 ≤ w1.heap.size := by have := hg.size; simpa using this
    clear HST0 hg00 hbn HV0
    generalize numTok (s.extract p (we s (p + 1))).toList = x at *
    generalize we s (p + 1) = q at *
    obtain ⟨xk, xn, xt⟩ := x
    simp only at HTA hxt ⊢
    have hx6 : xt.size ≤ 65536 := hxt
    have hxm : xt.size ≤ maxLen := by unfold maxLen; omega
    have R0 : w1.heap[w.heap.size]? = some (.cells #[.int .i64 0, .int .i64 0, .string ⟨#[]⟩] 66 (0, 0)) := LexSt.grownTo hW0 hg (by omega)
    have R1 : w1.heap[w.heap.size + 1]? = some (.cells #[.int .i64 0, .int .i64 0, .string ⟨#[]⟩] 66 (0, 0)) := LexSt.grownTo hW1 hg (by omega)
    have hg0 : w.grownBy w1 (some L) := grown_trans hgW hg
    have HST : Hid (LexSt w1 L s q) := hst
    clear hst hg hW0 hW1 hgW
    have d0 := row_cell R1 0
    have d1 := row_cell R1 1
    have d2 := row_cell R1 2
    have g0 := row_frozen R1 0
    have g1 := row_frozen R1 1
    have g2 := row_frozen R1 2
    simp at d0 d1 d2
    have HR1 : Hid _ := R1
    have HR0 : Hid _ := R0
    clear R1 R0
    go_wp2_with fail
    refine (impl_tokOK xk xn xt _ hxm).mono ?_
    rintro e w2 ⟨rfl, hb2⟩
    have HR1s : Hid _ := row_set (row_set (row_set HR1.out 0 (.int .i64 xk)) 1 (.int .i64 xn)) 2 (.string xt)
    have HR0s : Hid _ := row_other (row_other (row_other HR0.out (M := w.heap.size + 1) (j := 0) (by omega) (.int .i64 xk)) (M := w.heap.size + 1) (j := 1) (by omega) (.int .i64 xn)) (M := w.heap.size + 1) (j := 2) (by omega) (.string xt)
    have HSTs : Hid _ := ((HST.out.other (M := w.heap.size + 1) (j := 0) (by omega) (.int .i64 xk)).other (M := w.heap.size + 1) (j := 1) (by omega) (.int .i64 xn)).other (M := w.heap.size + 1) (j := 2) (by omega) (.string xt)
    have hgs := grown_new (grown_new (grown_new hg0 (M := w.heap.size + 1) (o := 0) (by omega) (.int .i64 xk)) (M := w.heap.size + 1) (o := 1) (by omega) (.int .i64 xn)) (M := w.heap.size + 1) (o := 2) (by omega) (.string xt)
    clear HR1 HR0 HST hg0 d0 d1 d2 g0 g1 g2
    generalize ((w1.setCell ⟨w.heap.size + 1, 0, none⟩ (.int .i64 xk)).setCell ⟨w.heap.size + 1, 1, none⟩ (.int .i64 xn)).setCell ⟨w.heap.size + 1, 2, none⟩ (.string xt) = w1s at *
    have HR12 : Hid (w2.heap[w.heap.size + 1]? = some (.cells #[.int .i64 xk, .int .i64 xn, .string xt] 66 (0, 0))) := (hb2.block _ (Array.getElem?_eq_some_iff.1 HR1s.out).1).trans HR1s.out
    have HR02 : Hid (w2.heap[w.heap.size]? = some (.cells #[.int .i64 0, .int .i64 0, .string ⟨#[]⟩] 66 (0, 0))) := (hb2.block _ (Array.getElem?_eq_some_iff.1 HR0s.out).1).trans HR0s.out
    have HST2 : Hid (LexSt w2 L s q) := LexSt.below HSTs.out hb2
    have hg2 := grown_below hgs hb2
    clear HR1s HR0s HSTs hgs hb2
    cases hok : tokB xk xn xt
    · go_wp2_with fail
      exact ⟨rfl, .inr ⟨by rw [HTA.out, if_neg (by rw [hok]; decide)], rfl, hg2⟩⟩
    · have d0 := row_cell HR12.out 0
      have d1 := row_cell HR12.out 1
      have d2 := row_cell HR12.out 2
      simp at d0 d1 d2
      go_wp2_with fail
      refine (clone_any xt _ hx6).mono ?_
      rintro e w3 ⟨rfl, hb3⟩
      have HR13 : Hid (w3.heap[w.heap.size + 1]? = some (.cells #[.int .i64 xk, .int .i64 xn, .string xt] 66 (0, 0))) := (hb3.block _ (Array.getElem?_eq_some_iff.1 HR12.out).1).trans HR12.out
      have HR03 : Hid (w3.heap[w.heap.size]? = some (.cells #[.int .i64 0, .int .i64 0, .string ⟨#[]⟩] 66 (0, 0))) := (hb3.block _ (Array.getElem?_eq_some_iff.1 HR02.out).1).trans HR02.out
      have HST3 : Hid (LexSt w3 L s q) := LexSt.below HST2.out hb3
      have hg3 := grown_below hg2 hb3
      clear d0 d1 d2 HR12 HR02 HST2 hg2 hb3
      have d0 := row_cell HR13.out 0
      have d1 := row_cell HR13.out 1
      have d2 := row_cell HR13.out 2
      have g2 := row_frozen HR13.out 2
      have z0 := row_cell HR03.out 0
      have z1 := row_cell HR03.out 1
      have z2 := row_cell HR03.out 2
      have y0 := row_frozen HR03.out 0
      have y1 := row_frozen HR03.out 1
      have y2 := row_frozen HR03.out 2
      simp at d0 d1 d2 z0 z1 z2
      go_wp2_with fail
      refine bodyPost_ret (v := .agg #[.int .i64 xk, .int .i64 xn, .string xt]) (results24_row _ _ w.heap.size _ rfl (row_set (row_set (row_set (row_other HR03.out (by omega) _) _ _) _ _) _ _) rfl) rfl (.inl ⟨⟨xk, xn, xt⟩, q, by rw [HTA.out, if_pos hok], rfl, ?_, ?_⟩)
      · exact (((HST3.out.other (by omega) _).other (by omega) _).other (by omega) _).other (by omega) _
      · exact grown_new (grown_new (grown_new (grown_new hg3 (by omega) _) (by omega) _) (by omega) _) (by omega) _
end Go.Proofs.YtlilfbcngncllaaGreatDoor
namespace Go.Proofs.YtlilfbcngncllaaGreatDoor
open Go.ChangeShapes Go.WideShapes Go.ChangeAt Go.RowKit
set_option linter.unusedVariables false

theorem ext_one (s : ByteArray) (p : Nat) (hp : p < s.size) : (s.extract p (p + 1)).toList = [s[p]] := by
  have hl : s.data.toList.length = s.size := by simp
  rw [ByteArray.toList_eq, ByteArray.data_extract, Array.toList_extract, List.extract_eq_take_drop, show p + 1 - p = 1 by omega, List.drop_eq_getElem_cons (by omega)]
  rfl
theorem tokB_four (T : ByteArray) : tokB 4 0 T = punctB T.toList := by
  unfold tokB
  rw [if_neg (by omega), if_neg (by omega), if_pos rfl]; rfl
theorem tokAt_punct (s : ByteArray) (p : Nat) (hp : p < s.size) (h1 : ¬ (s[p].toNat : Int) = 36) (hl : letB (s[p].toNat : Int) = false) (h2 : ¬ (s[p].toNat : Int) = 45) (hd : digB (s[p].toNat : Int) = false) (n : Nat) (hn : n = if dotsB s p = true then 3 else 1) :
    tokAt s p = if tokB 4 0 (s.extract p (p + n)) = true then some (⟨4, 0, s.extract p (p + n)⟩, p + n) else none := by
  rw [tokB_four]
  unfold tokAt
  rw [bt_lt hp, if_neg h1, if_neg (by rw [hl]; decide), if_neg (by rw [hd]; rintro (h | h); exact h2 h; cases h)]
  by_cases h46 : (s[p].toNat : Int) = 46
  · rw [if_pos h46]
    cases hdt : dotsB s p
    · rw [hdt, if_neg (by decide)] at hn
      subst hn
      rw [if_neg, if_neg]
      · rw [ext_one s p hp, u8_of (n := 46) (by decide) h46]; decide
      · rintro ⟨a, b⟩
        unfold dotsB at hdt
        rw [b] at hdt
        simp at hdt
        omega
    · rw [hdt, if_pos rfl] at hn
      subst hn
      unfold dotsB at hdt
      simp only [Bool.and_eq_true, decide_eq_true_eq, beq_iff_eq] at hdt
      have e : s.extract p (p + 3) = ⟨#[46, 46, 46]⟩ := by
        apply ByteArray.ext
        have := hdt.2
        rw [ByteArray.toList_eq] at this
        exact Array.ext' this
      rw [if_pos hdt, if_pos (by rw [hdt.2]; decide), e]
  · rw [if_neg h46]
    have hdt : dotsB s p = false := by
      cases hh : dotsB s p
      · rfl
      · unfold dotsB at hh
        simp only [Bool.and_eq_true, decide_eq_true_eq, beq_iff_eq] at hh
        have e2 : (s.extract p (p + 3)).toList[0]? = some s[p] := by
          have hsz : 0 < (s.extract p (p + 3)).size := by rw [ByteArray.size_extract]; omega
          rw [toList_at _ 0 hsz]
          simp [ByteArray.getElem_extract]
        rw [hh.2] at e2
        simp only [List.getElem?_cons_zero, Option.some.injEq] at e2
        rw [← e2] at h46
        exact absurd rfl h46
    rw [hdt, if_neg (by decide)] at hn
    subst hn
    rfl

set_option maxHeartbeats 4000000 in
theorem tok_punct (s : ByteArray) (L p : Nat) (w : World) (hs : s.size ≤ 65536) (h : LexSt w L s p) (hp : p < s.size) (h1 : ¬ (s[p].toNat : Int) = 36) (hl : letB (s[p].toNat : Int) = false) (h2 : ¬ (s[p].toNat : Int) = 45) (hd : digB (s[p].toNat : Int) = false) :
    Calls Tryz.prog 40 #[.pointer (some ⟨L, 0, none⟩)] w (TokIs s p L w) := by
  have c0 := h.c0
  have c1 := h.c1
  have HS : Hid (LexSt w L s p) := h
  have hL := h.lt
  clear h
  obtain ⟨n, hn⟩ : ∃ n, n = if dotsB s p = true then 3 else 1 := ⟨_, rfl⟩
  have HTA : Hid (tokAt s p = if tokB 4 0 (s.extract p (p + n)) = true then some (⟨4, 0, s.extract p (p + n)⟩, p + n) else none) := tokAt_punct s p hp h1 hl h2 hd n hn
  have HPU : Hid (∀ W : World, LexSt W L s p → Calls Tryz.prog 70 #[.pointer (some ⟨L, 0, none⟩)] W fun e w' => e = .returned (.string (s.extract p (p + n))) ∧ LexSt w' L s (p + n) ∧ W.grownBy w' (some L)) := by
    intro W hW
    rw [hn]; exact punct_any s L p W hs hW hp
  clear hn
  have hb : (s[p].toNat : Int) < 256 := by have := s[p].toNat_lt; omega
  have h36 : ((s[p].toNat : Int) == 36) = false := by rw [beq_eq_false_iff_ne]; exact h1
  have h45 : ((s[p].toNat : Int) == 45) = false := by rw [beq_eq_false_iff_ne]; exact h2
  have hx6 : (s.extract p (p + n)).size ≤ 65536 := by rw [ByteArray.size_extract]; omega
  clear h1 h2
  go_enter Tryz.func40, Tryz.ntmps40
  go_wp2_with fail
  go_quiet (fail)
  have hW1 : (((w.alloc (.cells #[.int .i64 0, .int .i64 0, .string ⟨#[]⟩] 66)).alloc (.cells #[.int .i64 0, .int .i64 0, .string ⟨#[]⟩] 66)).drewN nq).heap[w.heap.size + 1]? = some (.cells #[.int .i64 0, .int .i64 0, .string ⟨#[]⟩] 66) := by
    have := heap_alloc_new (w.alloc (.cells #[.int .i64 0, .int .i64 0, .string ⟨#[]⟩] 66)) (.cells #[.int .i64 0, .int .i64 0, .string ⟨#[]⟩] 66)
    simpa using this
  have hW0 : (((w.alloc (.cells #[.int .i64 0, .int .i64 0, .string ⟨#[]⟩] 66)).alloc (.cells #[.int .i64 0, .int .i64 0, .string ⟨#[]⟩] 66)).drewN nq).heap[w.heap.size]? = some (.cells #[.int .i64 0, .int .i64 0, .string ⟨#[]⟩] 66) := (Below.heap_alloc (w.alloc (.cells #[.int .i64 0, .int .i64 0, .string ⟨#[]⟩] 66)) (.cells #[.int .i64 0, .int .i64 0, .string ⟨#[]⟩] 66) w.heap.size (by simp)).trans (heap_alloc_new w (.cells #[.int .i64 0, .int .i64 0, .string ⟨#[]⟩] 66))
  have HSW : Hid (LexSt (((w.alloc (.cells #[.int .i64 0, .int .i64 0, .string ⟨#[]⟩] 66)).alloc (.cells #[.int .i64 0, .int .i64 0, .string ⟨#[]⟩] 66)).drewN nq) L s p) := (Below.heap_alloc (w.alloc (.cells #[.int .i64 0, .int .i64 0, .string ⟨#[]⟩] 66)) (.cells #[.int .i64 0, .int .i64 0, .string ⟨#[]⟩] 66) L (by simp; omega)).trans ((Below.heap_alloc w (.cells #[.int .i64 0, .int .i64 0, .string ⟨#[]⟩] 66) L hL).trans HS.out)
  have hgW : w.grownBy (((w.alloc (.cells #[.int .i64 0, .int .i64 0, .string ⟨#[]⟩] 66)).alloc (.cells #[.int .i64 0, .int .i64 0, .string ⟨#[]⟩] 66)).drewN nq) (some L) := grown_trans (grown_alloc (grown_alloc (grown_refl w _) _) _) (grown_drewN _ _ _)
  go_wp2_with (first | (go_at_call 66; refine (isLetter_any _ _).mono ?_; rintro e wL ⟨rfl, rfl⟩) | (go_at_call 68; refine (isDigit_any _ _).mono ?_; rintro e wL ⟨rfl, rfl⟩))
  clear c0 c1 hb
  refine (HPU.out _ HSW.out).mono ?_
  rintro e w1 ⟨rfl, hst, hg⟩
  have hsz1 : w.heap.size + 2 ≤ w1.heap.size := by have := hg.size; simpa using this
  clear HPU
  generalize s.extract p (p + n) = T at *
  generalize p + n = q at *
  have hxm : T.size ≤ maxLen := by unfold maxLen; omega
  have R0 : w1.heap[w.heap.size]? = some (.cells #[.int .i64 0, .int .i64 0, .string ⟨#[]⟩] 66 (0, 0)) := LexSt.grownTo hW0 hg (by omega)
  have R1 : w1.heap[w.heap.size + 1]? = some (.cells #[.int .i64 0, .int .i64 0, .string ⟨#[]⟩] 66 (0, 0)) := LexSt.grownTo hW1 hg (by omega)
  have hg0 : w.grownBy w1 (some L) := grown_trans hgW hg
  have HST : Hid (LexSt w1 L s q) := hst
  clear hst hg hW0 hW1 hgW
  have d0 := row_cell R1 0
  have d1 := row_cell R1 1
  have d2 := row_cell R1 2
  have g0 := row_frozen R1 0
  have g1 := row_frozen R1 1
  have g2 := row_frozen R1 2
  simp at d0 d1 d2
  have HR1 : Hid _ := R1
  have HR0 : Hid _ := R0
  clear R1 R0
  go_wp2_with fail
  refine (impl_tokOK 4 0 T _ hxm).mono ?_
  rintro e w2 ⟨rfl, hb2⟩
  have HR1s : Hid _ := row_set (row_set (row_set HR1.out 0 (.int .i64 4)) 1 (.int .i64 0)) 2 (.string T)
  have HR0s : Hid _ := row_other (row_other (row_other HR0.out (M := w.heap.size + 1) (j := 0) (by omega) (.int .i64 4)) (M := w.heap.size + 1) (j := 1) (by omega) (.int .i64 0)) (M := w.heap.size + 1) (j := 2) (by omega) (.string T)
  have HSTs : Hid _ := ((HST.out.other (M := w.heap.size + 1) (j := 0) (by omega) (.int .i64 4)).other (M := w.heap.size + 1) (j := 1) (by omega) (.int .i64 0)).other (M := w.heap.size + 1) (j := 2) (by omega) (.string T)
  have hgs := grown_new (grown_new (grown_new hg0 (M := w.heap.size + 1) (o := 0) (by omega) (.int .i64 4)) (M := w.heap.size + 1) (o := 1) (by omega) (.int .i64 0)) (M := w.heap.size + 1) (o := 2) (by omega) (.string T)
  clear HR1 HR0 HST hg0 d0 d1 d2 g0 g1 g2
  generalize ((w1.setCell ⟨w.heap.size + 1, 0, none⟩ (.int .i64 4)).setCell ⟨w.heap.size + 1, 1, none⟩ (.int .i64 0)).setCell ⟨w.heap.size + 1, 2, none⟩ (.string T) = w1s at *
  have HR12 : Hid (w2.heap[w.heap.size + 1]? = some (.cells #[.int .i64 4, .int .i64 0, .string T] 66 (0, 0))) := (hb2.block _ (Array.getElem?_eq_some_iff.1 HR1s.out).1).trans HR1s.out
  have HR02 : Hid (w2.heap[w.heap.size]? = some (.cells #[.int .i64 0, .int .i64 0, .string ⟨#[]⟩] 66 (0, 0))) := (hb2.block _ (Array.getElem?_eq_some_iff.1 HR0s.out).1).trans HR0s.out
  have HST2 : Hid (LexSt w2 L s q) := LexSt.below HSTs.out hb2
  have hg2 := grown_below hgs hb2
  clear HR1s HR0s HSTs hgs hb2
  cases hok : tokB 4 0 T
  · go_wp2_with fail
    exact ⟨rfl, .inr ⟨by rw [HTA.out, if_neg (by rw [hok]; decide)], rfl, hg2⟩⟩
  · have d0 := row_cell HR12.out 0
    have d1 := row_cell HR12.out 1
    have d2 := row_cell HR12.out 2
    simp at d0 d1 d2
    go_wp2_with fail
    refine (clone_any T _ hx6).mono ?_
    rintro e w3 ⟨rfl, hb3⟩
    have HR13 : Hid (w3.heap[w.heap.size + 1]? = some (.cells #[.int .i64 4, .int .i64 0, .string T] 66 (0, 0))) := (hb3.block _ (Array.getElem?_eq_some_iff.1 HR12.out).1).trans HR12.out
    have HR03 : Hid (w3.heap[w.heap.size]? = some (.cells #[.int .i64 0, .int .i64 0, .string ⟨#[]⟩] 66 (0, 0))) := (hb3.block _ (Array.getElem?_eq_some_iff.1 HR02.out).1).trans HR02.out
    have HST3 : Hid (LexSt w3 L s q) := LexSt.below HST2.out hb3
    have hg3 := grown_below hg2 hb3
    clear d0 d1 d2 HR12 HR02 HST2 hg2 hb3
    have d0 := row_cell HR13.out 0
    have d1 := row_cell HR13.out 1
    have d2 := row_cell HR13.out 2
    have g2 := row_frozen HR13.out 2
    have z0 := row_cell HR03.out 0
    have z1 := row_cell HR03.out 1
    have z2 := row_cell HR03.out 2
    have y0 := row_frozen HR03.out 0
    have y1 := row_frozen HR03.out 1
    have y2 := row_frozen HR03.out 2
    simp at d0 d1 d2 z0 z1 z2
    go_wp2_with fail
    refine bodyPost_ret (v := .agg #[.int .i64 4, .int .i64 0, .string T]) (results24_row _ _ w.heap.size _ rfl (row_set (row_set (row_set (row_other HR03.out (by omega) _) _ _) _ _) _ _) rfl) rfl (.inl ⟨⟨4, 0, T⟩, q, by rw [HTA.out, if_pos hok], rfl, ?_, ?_⟩)
    · exact (((HST3.out.other (by omega) _).other (by omega) _).other (by omega) _).other (by omega) _
    · exact grown_new (grown_new (grown_new (grown_new hg3 (by omega) _) (by omega) _) (by omega) _) (by omega) _

theorem tok_any (s : ByteArray) (L p : Nat) (w : World) (hs : s.size ≤ 65536) (h : LexSt w L s p) (hv : Vars w) (hL3 : 2 < L) (hp : p < s.size) :
    Calls Tryz.prog 40 #[.pointer (some ⟨L, 0, none⟩)] w (TokIs s p L w) := by
  by_cases h1 : (s[p].toNat : Int) = 36
  · exact tok_var s L p w hs h hp h1
  cases hl : letB (s[p].toNat : Int)
  · by_cases hd : (s[p].toNat : Int) = 45 ∨ digB (s[p].toNat : Int) = true
    · exact tok_int s L p w hs h hv hL3 hp h1 hl hd
    · exact tok_punct s L p w hs h hp h1 hl (fun h => hd (.inl h)) (by cases h : digB (s[p].toNat : Int); rfl; exact absurd (.inr h) hd)
  · exact tok_name s L p w hs h hp hl
end Go.Proofs.YtlilfbcngncllaaGreatDoor
