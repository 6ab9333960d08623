/- RequestCode on both sides: written by wip/tools/rqcode.py. -/
import Derived.Test.YtkjndghkimnjeaaGreatRqTo
import Derived.Test.YtkjndghkimnjeaaGreatAskC
namespace Go.Proofs.YtkjndghkimnjeaaGreat
open Go.ChangeShapes Go.WideShapes Go.ChangeAt Go.RowKit
set_option linter.unusedVariables false

def RqE (l : List De) (v : List Ar) (e : Ending) : Prop := (reqB l v = false ∧ e = .returned (.tuple #[.int .i64 0, .int .i64 1])) ∨ (reqB l v = true ∧ ∃ y, AkR l v y ∧ e = .returned (.tuple #[.int .i64 y, .int .i64 0]))
theorem RqE.two {l : List De} {v : List Ar} {e e' : Ending} (h : RqE l v e) (h' : RqE l v e') : e = e' := by
  rcases h with ⟨h1, rfl⟩ | ⟨h1, y, h2, rfl⟩ <;> rcases h' with ⟨g1, rfl⟩ | ⟨g1, y', g2, rfl⟩
  · rfl
  · rw [h1] at g1; cases g1
  · rw [h1] at g1; cases g1
  · rw [h2.one g2]
theorem RqE.form {l : List De} {v : List Ar} {e : Ending} (h : RqE l v e) : ∃ x y : Int, e = .returned (.tuple #[.int .i64 x, .int .i64 y]) := by
  rcases h with ⟨_, rfl⟩ | ⟨_, y, _, rfl⟩
  · exact ⟨_, _, rfl⟩
  · exact ⟨_, _, rfl⟩
theorem reqB_len {l : List De} {v : List Ar} (h : reqB l v = true) : v.length ≤ 4096 := by
  unfold reqB at h
  rw [Bool.and_eq_true] at h
  have h2 := h.2
  unfold bindB at h2
  rw [Bool.and_eq_true, Bool.and_eq_true, decide_eq_true_eq] at h2
  omega
set_option maxHeartbeats 4000000 in
theorem spec_requestCode (a b : Option Addr) (c d : Nat) (l : List De) (v : List Ar) (w : World) (hr : DeRow 0 w.heap.size w a l) (hv : ArRow 0 w.heap.size w b v) (hbd : RqBd 1048576 l v) :
    Calls Tryz.prog 5 #[.agg #[.slice a l.length c, .slice b v.length d]] w fun e w' => RqE l v e ∧ Below w.heap.size w w' := by
  have K0 : Hid (∀ W0, Below w.heap.size w W0 → DeRow 0 W0.heap.size W0 a l ∧ ArRow 0 W0.heap.size W0 b v) := fun W0 hB => ⟨DeRow.up hr hB, Row.up hv hB⟩
  have HD : Hid (RqBd 1048576 l v) := hbd
  clear hr hv hbd
  have B0 : Hid (Below w.heap.size w (w.alloc (.cells #[.slice a l.length c, .slice b v.length d] 36))) := (Below.refl _ _).alloc (Nat.le_refl _) _
  go_enter Tryz.func5, Tryz.ntmps5
  go_wp2_with fail
  refine (spec_req a b c d l v _ (K0.out _ B0.out).1 (K0.out _ B0.out).2 HD.out).mono ?_
  rintro e w1 ⟨rfl, hb1⟩
  have q1 : Hid (Below w.heap.size w w1) := B0.out.trans (hb1.mono (by simp))
  have c1 := fun o => (hb1.cell (p := ⟨w.heap.size, o, none⟩) (by simp)).trans (row_cell (heap_alloc_new _ _) o)
  clear hb1
  cases hdb : reqB l v
  · have HN : Hid (RqE l v (.returned (.tuple #[.int .i64 0, .int .i64 1]))) := .inl ⟨hdb, rfl⟩
    clear hdb
    go_wp2_with fail
    go_ret2
    exact ⟨HN.out, q1.out⟩
  have HN : Hid (reqB l v = true) := hdb
  clear hdb
  go_wp2_with fail
  refine (spec_ask a c l b d v _ (K0.out _ q1.out).1 HD.out.1 (K0.out _ q1.out).2 HD.out.2.1 HD.out.2.2).mono ?_
  rintro e w2 ⟨⟨y, rfl, hy⟩, hb2⟩
  have HY : Hid (AkR l v y) := hy
  have q2 : Hid (Below w.heap.size w w2) := q1.out.trans (hb2.mono (by have := q1.out.size; omega))
  clear hb2 hy
  go_wp2_with fail
  go_ret2
  exact ⟨.inr ⟨HN.out, y, HY.out, rfl⟩, q2.out⟩
set_option maxHeartbeats 4000000 in
theorem impl_requestCode (a b : Option Addr) (c d : Nat) (l : List De) (v : List Ar) (w : World) (hr : DeRow 0 w.heap.size w a l) (hv : ArRow 0 w.heap.size w b v) (hbd : RqBd 1048576 l v) :
    Calls Tryz.prog 7 #[.agg #[.slice a l.length c, .slice b v.length d]] w fun e w' => RqE l v e ∧ Below w.heap.size w w' := by
  have K0 : Hid (∀ W0, Below w.heap.size w W0 → DeRow 0 W0.heap.size W0 a l ∧ ArRow 0 W0.heap.size W0 b v) := fun W0 hB => ⟨DeRow.up hr hB, Row.up hv hB⟩
  have HD : Hid (RqBd 1048576 l v) := hbd
  clear hr hv hbd
  have B0 : Hid (Below w.heap.size w (w.alloc (.cells #[.slice a l.length c, .slice b v.length d] 36))) := (Below.refl _ _).alloc (Nat.le_refl _) _
  go_enter Tryz.func7, Tryz.ntmps7
  go_wp2_with fail
  refine (impl_req a b c d l v _ (K0.out _ B0.out).1 (K0.out _ B0.out).2 HD.out).mono ?_
  rintro e w1 ⟨rfl, hb1⟩
  have q1 : Hid (Below w.heap.size w w1) := B0.out.trans (hb1.mono (by simp))
  have c1 := fun o => (hb1.cell (p := ⟨w.heap.size, o, none⟩) (by simp)).trans (row_cell (heap_alloc_new _ _) o)
  clear hb1
  cases hdb : reqB l v
  · have HN : Hid (RqE l v (.returned (.tuple #[.int .i64 0, .int .i64 1]))) := .inl ⟨hdb, rfl⟩
    clear hdb
    go_wp2_with fail
    go_ret2
    exact ⟨HN.out, q1.out⟩
  have HN : Hid (reqB l v = true) := hdb
  clear hdb
  go_wp2_with fail
  refine (impl_ask a c l b d v _ (K0.out _ q1.out).1 HD.out.1 (K0.out _ q1.out).2 HD.out.2.1 HD.out.2.2 (.inl (reqB_len HN.out))).mono ?_
  rintro e w2 ⟨⟨y, rfl, hy⟩, hb2⟩
  have HY : Hid (AkR l v y) := hy
  have q2 : Hid (Below w.heap.size w w2) := q1.out.trans (hb2.mono (by have := q1.out.size; omega))
  clear hb2 hy
  go_wp2_with fail
  go_ret2
  exact ⟨.inr ⟨HN.out, y, HY.out, rfl⟩, q2.out⟩
end Go.Proofs.YtkjndghkimnjeaaGreat
