/- The program's reader: a token. -/
import Derived.Test.YtnfoinmccigdfaaGreatDoorLexImplE
import Derived.WalkLawsBesides
namespace Go.Proofs.YtnfoinmccigdfaaGreatDoor
open Go.ChangeShapes Go.WideShapes Go.ChangeAt Go.RowKit
set_option linter.unusedVariables false

def TokIs (s : ByteArray) (p L : Nat) (w : World) (e : Ending) (w' : World) : Prop :=
  (∃ (x : Tk) (q : Nat), tokAt s p = some (x, q) ∧ e = .returned (.agg #[.int .i64 x.k, .int .i64 x.n, .string x.t]) ∧ LexSt w' L s q ∧ w.grownBy w' (some L)) ∨
  (tokAt s p = none ∧ e = .panicked [{ v := .iface 59 (.agg #[.int .i64 3]), recovered := false }] ∧ w.grownBy w' (some L))
theorem results24_row (tmps : Array Value) (W : World) (N : Nat) (cs : Array Value) (h2 : tmps.getD 2 undef = .pointer (some ⟨N, 0, none⟩)) (hrow : W.heap[N]? = some (.cells cs 75 (0, 0))) (hsz : cs.size = 3) :
    (results Tryz.f45 tmps).run Tryz.prog W = .ok (.agg cs) W := by
  have c39 : (Tryz.prog.info? 75).map (·.size) = some 3 := by kernel_rfl
  exact results_cell_row Tryz.results45 tmps W N 75 cs (0, 0) _ h2 hrow Tryz.underlying75 rfl (by rw [hsz]; exact c39)
theorem clone_any (s : ByteArray) (w : World) (hs : s.size ≤ 65536) :
    Calls Tryz.prog 71 #[.string s] w fun e w' => e = .returned (.string s) ∧ Below w.heap.size w w' := by
  go_enter Tryz.func71, Tryz.ntmps71
  go_wp2_with (go_at_call 87; refine (Tryz.stringslite_Clone s _ (by omega)).mono ?_; rintro e w1 ⟨rfl, hb1⟩)
  go_ret
  exact ⟨rfl, hb1⟩
theorem row_other {w : World} {N M j : Nat} {o : Option Obj} (h : w.heap[N]? = o) (hne : N ≠ M) (v : Value) : (w.setCell ⟨M, j, none⟩ v).heap[N]? = o := by
  rw [Below.heap_setCell _ _ _ _ hne]; exact h
theorem LexSt.other {w : World} {L M j : Nat} {s : ByteArray} {i : Nat} (h : LexSt w L s i) (hne : L ≠ M) (v : Value) : LexSt (w.setCell ⟨M, j, none⟩ v) L s i := row_other h hne v
theorem grown_new {a b : World} {L M o : Nat} (h : a.grownBy b (some L)) (hM : a.heap.size ≤ M) (v : Value) : a.grownBy (b.setCell ⟨M, o, none⟩ v) (some L) :=
  ⟨h.os, h.tape, h.output, by have := h.size; simpa [World.setCell] using this, fun i hi hr => by
    rw [Below.heap_setCell _ _ _ _ (by show i ≠ M; omega)]; exact h.block i hi hr⟩
theorem LexSt.grownTo {w w' : World} {L N : Nat} {cs : Array Value} {e : TypeId} (h : w.heap[N]? = some (.cells cs e (0, 0))) (hg : w.grownBy w' (some L)) (hne : N ≠ L) : w'.heap[N]? = some (.cells cs e (0, 0)) :=
  (hg.block N (Array.getElem?_eq_some_iff.1 h).1 (by intro e; simp only [Option.some.injEq] at e; exact hne e)).trans h

set_option maxHeartbeats 4000000 in
theorem tok_name (s : ByteArray) (L p : Nat) (w : World) (hs : s.size ≤ 65536) (h : LexSt w L s p) (hp : p < s.size) (hl : letB (s[p].toNat : Int) = true) :
    Calls Tryz.prog 45 #[.pointer (some ⟨L, 0, none⟩)] w (TokIs s p L w) := by
  have c0 := h.c0
  have c1 := h.c1
  have HS : Hid (LexSt w L s p) := h
  have hL := h.lt
  clear h
  have HTA : Hid (tokAt s p = if tokB 1 0 (s.extract p (we s (p + 1))) = true then some (⟨1, 0, s.extract p (we s (p + 1))⟩, we s (p + 1)) else none) := by
    have hc : ¬ bt s p = 36 := by intro h; rw [bt_lt hp] at h; rw [h] at hl; exact absurd hl (by decide)
    have e1 := we_letter hp (by rw [bt_lt hp]; exact hl)
    unfold Hid tokAt; rw [if_neg hc, if_pos (by rw [bt_lt hp]; exact hl), e1]
    congr 1
  have hb : (s[p].toNat : Int) < 256 := by have := s[p].toNat_lt; omega
  have hx6 : (s.extract p (we s (p + 1))).size ≤ 65536 := by rw [ByteArray.size_extract]; omega
  go_enter Tryz.func45, Tryz.ntmps45
  go_wp2_with fail
  go_quiet (fail)
  have hW1 : (((w.alloc (.cells #[.int .i64 0, .int .i64 0, .string ⟨#[]⟩] 75)).alloc (.cells #[.int .i64 0, .int .i64 0, .string ⟨#[]⟩] 75)).drewN nq).heap[w.heap.size + 1]? = some (.cells #[.int .i64 0, .int .i64 0, .string ⟨#[]⟩] 75) := by
    have := heap_alloc_new (w.alloc (.cells #[.int .i64 0, .int .i64 0, .string ⟨#[]⟩] 75)) (.cells #[.int .i64 0, .int .i64 0, .string ⟨#[]⟩] 75)
    simpa using this
  have hW0 : (((w.alloc (.cells #[.int .i64 0, .int .i64 0, .string ⟨#[]⟩] 75)).alloc (.cells #[.int .i64 0, .int .i64 0, .string ⟨#[]⟩] 75)).drewN nq).heap[w.heap.size]? = some (.cells #[.int .i64 0, .int .i64 0, .string ⟨#[]⟩] 75) := (Below.heap_alloc (w.alloc (.cells #[.int .i64 0, .int .i64 0, .string ⟨#[]⟩] 75)) (.cells #[.int .i64 0, .int .i64 0, .string ⟨#[]⟩] 75) w.heap.size (by simp)).trans (heap_alloc_new w (.cells #[.int .i64 0, .int .i64 0, .string ⟨#[]⟩] 75))
  have HSW : Hid (LexSt (((w.alloc (.cells #[.int .i64 0, .int .i64 0, .string ⟨#[]⟩] 75)).alloc (.cells #[.int .i64 0, .int .i64 0, .string ⟨#[]⟩] 75)).drewN nq) L s p) := (Below.heap_alloc (w.alloc (.cells #[.int .i64 0, .int .i64 0, .string ⟨#[]⟩] 75)) (.cells #[.int .i64 0, .int .i64 0, .string ⟨#[]⟩] 75) L (by simp; omega)).trans ((Below.heap_alloc w (.cells #[.int .i64 0, .int .i64 0, .string ⟨#[]⟩] 75) L hL).trans HS.out)
  have hgW : w.grownBy (((w.alloc (.cells #[.int .i64 0, .int .i64 0, .string ⟨#[]⟩] 75)).alloc (.cells #[.int .i64 0, .int .i64 0, .string ⟨#[]⟩] 75)).drewN nq) (some L) := grown_trans (grown_alloc (grown_alloc (grown_refl w _) _) _) (grown_drewN _ _ _)
  go_wp2_with (first | (go_at_call 65; refine (isLetter_any _ _).mono ?_; rintro e wL ⟨rfl, rfl⟩) | (go_at_call 67; refine (isDigit_any _ _).mono ?_; rintro e wL ⟨rfl, rfl⟩))
  clear c0 c1 hb
  refine (word_take s L p _ hs HSW.out hp).mono ?_
  rintro e w1 ⟨rfl, hst, hg⟩
  have hsz1 : w.heap.size + 2 ≤ w1.heap.size := by have := hg.size; simpa using this
  generalize s.extract p (we s (p + 1)) = T at *
  generalize we s (p + 1) = q at *
  have hxm : T.size ≤ maxLen := by unfold maxLen; omega
  have R0 : w1.heap[w.heap.size]? = some (.cells #[.int .i64 0, .int .i64 0, .string ⟨#[]⟩] 75 (0, 0)) := LexSt.grownTo hW0 hg (by omega)
  have R1 : w1.heap[w.heap.size + 1]? = some (.cells #[.int .i64 0, .int .i64 0, .string ⟨#[]⟩] 75 (0, 0)) := LexSt.grownTo hW1 hg (by omega)
  have hg0 : w.grownBy w1 (some L) := grown_trans hgW hg
  have HST : Hid (LexSt w1 L s q) := hst
  clear hst hg hW0 hW1 hgW
  have d0 := row_cell R1 0
  have d1 := row_cell R1 1
  have d2 := row_cell R1 2
  have g0 := row_frozen R1 0
  have g1 := row_frozen R1 1
  have g2 := row_frozen R1 2
  simp at d0 d1 d2
  have HR1 : Hid _ := R1
  have HR0 : Hid _ := R0
  clear R1 R0
  go_wp2_with fail
  refine (impl_tokOK 1 0 T _ hxm).mono ?_
  rintro e w2 ⟨rfl, hb2⟩
  have HR1s : Hid _ := row_set (row_set (row_set HR1.out 0 (.int .i64 1)) 1 (.int .i64 0)) 2 (.string T)
  have HR0s : Hid _ := row_other (row_other (row_other HR0.out (M := w.heap.size + 1) (j := 0) (by omega) (.int .i64 1)) (M := w.heap.size + 1) (j := 1) (by omega) (.int .i64 0)) (M := w.heap.size + 1) (j := 2) (by omega) (.string T)
  have HSTs : Hid _ := ((HST.out.other (M := w.heap.size + 1) (j := 0) (by omega) (.int .i64 1)).other (M := w.heap.size + 1) (j := 1) (by omega) (.int .i64 0)).other (M := w.heap.size + 1) (j := 2) (by omega) (.string T)
  have hgs := grown_new (grown_new (grown_new hg0 (M := w.heap.size + 1) (o := 0) (by omega) (.int .i64 1)) (M := w.heap.size + 1) (o := 1) (by omega) (.int .i64 0)) (M := w.heap.size + 1) (o := 2) (by omega) (.string T)
  clear HR1 HR0 HST hg0 d0 d1 d2 g0 g1 g2
  generalize ((w1.setCell ⟨w.heap.size + 1, 0, none⟩ (.int .i64 1)).setCell ⟨w.heap.size + 1, 1, none⟩ (.int .i64 0)).setCell ⟨w.heap.size + 1, 2, none⟩ (.string T) = w1s at *
  have HR12 : Hid (w2.heap[w.heap.size + 1]? = some (.cells #[.int .i64 1, .int .i64 0, .string T] 75 (0, 0))) := (hb2.block _ (Array.getElem?_eq_some_iff.1 HR1s.out).1).trans HR1s.out
  have HR02 : Hid (w2.heap[w.heap.size]? = some (.cells #[.int .i64 0, .int .i64 0, .string ⟨#[]⟩] 75 (0, 0))) := (hb2.block _ (Array.getElem?_eq_some_iff.1 HR0s.out).1).trans HR0s.out
  have HST2 : Hid (LexSt w2 L s q) := LexSt.below HSTs.out hb2
  have hg2 := grown_below hgs hb2
  clear HR1s HR0s HSTs hgs hb2
  cases hok : tokB 1 0 T
  · go_wp2_with fail
    exact ⟨rfl, .inr ⟨by rw [HTA.out, if_neg (by rw [hok]; decide)], rfl, hg2⟩⟩
  · have d0 := row_cell HR12.out 0
    have d1 := row_cell HR12.out 1
    have d2 := row_cell HR12.out 2
    simp at d0 d1 d2
    go_wp2_with fail
    refine (clone_any T _ hx6).mono ?_
    rintro e w3 ⟨rfl, hb3⟩
    have HR13 : Hid (w3.heap[w.heap.size + 1]? = some (.cells #[.int .i64 1, .int .i64 0, .string T] 75 (0, 0))) := (hb3.block _ (Array.getElem?_eq_some_iff.1 HR12.out).1).trans HR12.out
    have HR03 : Hid (w3.heap[w.heap.size]? = some (.cells #[.int .i64 0, .int .i64 0, .string ⟨#[]⟩] 75 (0, 0))) := (hb3.block _ (Array.getElem?_eq_some_iff.1 HR02.out).1).trans HR02.out
    have HST3 : Hid (LexSt w3 L s q) := LexSt.below HST2.out hb3
    have hg3 := grown_below hg2 hb3
    clear d0 d1 d2 HR12 HR02 HST2 hg2 hb3
    have d0 := row_cell HR13.out 0
    have d1 := row_cell HR13.out 1
    have d2 := row_cell HR13.out 2
    have g2 := row_frozen HR13.out 2
    have z0 := row_cell HR03.out 0
    have z1 := row_cell HR03.out 1
    have z2 := row_cell HR03.out 2
    have y0 := row_frozen HR03.out 0
    have y1 := row_frozen HR03.out 1
    have y2 := row_frozen HR03.out 2
    simp at d0 d1 d2 z0 z1 z2
    go_wp2_with fail
    refine bodyPost_ret (v := .agg #[.int .i64 1, .int .i64 0, .string T]) (results24_row _ _ w.heap.size _ rfl (row_set (row_set (row_set (row_other HR03.out (by omega) _) _ _) _ _) _ _) rfl) rfl (.inl ⟨⟨1, 0, T⟩, q, by rw [HTA.out, if_pos hok], rfl, ?_, ?_⟩)
    · exact (((HST3.out.other (by omega) _).other (by omega) _).other (by omega) _).other (by omega) _
    · exact grown_new (grown_new (grown_new (grown_new hg3 (by omega) _) (by omega) _) (by omega) _) (by omega) _
end Go.Proofs.YtnfoinmccigdfaaGreatDoor
