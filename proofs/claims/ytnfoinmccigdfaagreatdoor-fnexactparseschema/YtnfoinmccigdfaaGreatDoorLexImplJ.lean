/- The program's Lex: what it does where its reader panics, and where not. -/
import Derived.Test.YtnfoinmccigdfaaGreatDoorLexImplI
import Derived.Defers
import Derived.Recover
namespace Go.Proofs.YtnfoinmccigdfaaGreatDoor
open Go.ChangeShapes Go.WideShapes Go.ChangeAt Go.RowKit
set_option linter.unusedVariables false

set_option maxHeartbeats 1000000 in
theorem fault_any (c : Int) (w : World) :
    Calls Tryz.prog 12 #[.iface 59 (.agg #[.int .i64 c])] w fun e w' => e = .returned (.int .i64 c) ∧ Below w.heap.size w w' := by
  have hta : ∀ W : World, (Instr.typeAssert (.iface 59 (.agg #[.int .i64 c])) 20 59 true).run Tryz.prog W = .ok (.tuple #[.agg #[.int .i64 c], .bool true]) W := by
    intro W
    kernel_rfl
  go_enter Tryz.func12, Tryz.ntmps12
  go_wp2_with fail
  go_ret
  exact ⟨rfl, by repeat (first | exact Below.refl _ _ | refine Below.setCell ?_ (by simp) _ | refine Below.alloc ?_ (by simp) _)⟩

set_option maxHeartbeats 1000000 in
theorem catch_panicking (A B : Nat) (c x : Int) (a : Option Addr) (n m : Nat) (older : List PanicEntry) (w : World) (hA : w.heap[A]? = some (.cells #[.slice a n m] 30 (0, 0))) (hB : w.heap[B]? = some (.cells #[.int .i64 x] 3 (0, 0))) (hAB : A ≠ B) :
    CallsD Tryz.prog 25 #[.pointer (some ⟨A, 0, none⟩), .pointer (some ⟨B, 0, none⟩)] (.panicking ({ v := .iface 59 (.agg #[.int .i64 c]), recovered := false } :: older)) w fun e u' w' =>
      e = .returned (.tuple #[]) ∧ u' = .panicking ({ v := .iface 59 (.agg #[.int .i64 c]), recovered := true } :: older) ∧ ∃ w1, Below w.heap.size w w1 ∧ w' = (w1.setCell ⟨A, 0, none⟩ (.slice none 0 0)).setCell ⟨B, 0, none⟩ (.int .i64 c) := by
  refine callsD_of_wpS Tryz.func25 rfl fun c₀ cs hu => ?_
  apply wpS_seq
  apply wpS_region
  simp [wpOpsS, go_sem, recoverD, hu, Tryz.ntmps25, Exit.thenS]
  refine wpS_of_wp ?_
  have dA := row_cell hA 0
  have dB := row_cell hB 0
  have fA := row_frozen hA 0
  have fB := row_frozen hB 0
  simp at dA dB
  have HA : Hid _ := hA
  have HB : Hid _ := hB
  clear hA hB dA dB fA fB
  go_wp2_with fail
  refine (fault_any c _).mono ?_
  rintro e w1 ⟨rfl, hb1⟩
  have hA1 := (hb1.block A (Array.getElem?_eq_some_iff.1 HA.out).1).trans HA.out
  have hB1 := (hb1.block B (Array.getElem?_eq_some_iff.1 HB.out).1).trans HB.out
  have dA := row_cell hA1 0
  have dB := row_cell hB1 0
  have fA := row_frozen hA1 0
  have fB := row_frozen hB1 0
  simp at dA dB
  clear hA1 hB1
  go_wp2_with fail
  simp [bodyPostS, results, Tryz.results25]
  exact ⟨w1, hb1, rfl⟩

theorem catch_idle (A B : Nat) (w : World) :
    CallsD Tryz.prog 25 #[.pointer (some ⟨A, 0, none⟩), .pointer (some ⟨B, 0, none⟩)] .returning w fun e u' w' => e = .returned (.tuple #[]) ∧ u' = .returning ∧ w' = w := by
  refine callsD_of_wpS Tryz.func25 rfl fun c₀ cs hu => ?_
  apply wpS_seq
  apply wpS_region
  simp [wpOpsS, go_sem, recoverD, hu, Tryz.ntmps25, Exit.thenS]
  refine wpS_of_wp ?_
  go_wp2_with fail
  cases c₀
  simp_all [bodyPostS, results, Tryz.results25]

theorem own_base {w : World} {b b' : Nat} {e : TypeId} {size n : Nat} {v : Value} {xs : List Value} (h : w.ownsRow b e size v n xs) (hb : b' ≤ b) : w.ownsRow b' e size v n xs := by
  refine ⟨h.1, ?_⟩
  rcases h.2 with h | ⟨g, cap, cur, h1, h2, h3⟩
  · exact .inl h
  · exact .inr ⟨g, cap, cur, h1, Nat.le_trans hb h2, h3⟩
set_option maxHeartbeats 2000000 in
theorem impl_Lex (s : ByteArray) (w : World) (hs : s.size ≤ maxLen) (hv : Vars w) : Calls Tryz.prog 10 #[.string s] w (LexIs (lexB s) w) := by
  unfold maxLen at hs
  have hmf : ∀ (fn : Fn) (first cap : Array Value) (w : World), (Instr.makeFunc fn first cap).run Tryz.prog w = .ok (.func fn first cap) w := fun _ _ _ _ => rfl
  have HV : Hid (Vars w) := hv
  clear hv
  by_cases h : 65536 < s.size
  · have HB : Hid (lexB s = ([], 2)) := by unfold Hid lexB; rw [if_pos h]
    go_enter_defers Tryz.func10, Tryz.ntmps10
    go_wp2_with fail
    simp [bodyPostD, Leaves, results, Tryz.results10, go_sem]
    rw [HB.out]
    exact ⟨none, 0, rfl, World.ownsRow_nil _ _ _ _, ((Below.refl _ _).alloc (Nat.le_refl _) _).alloc (by simp) _⟩
  · have HB : Hid (lexB s = lexR s 0 []) := by unfold Hid lexB; rw [if_neg h]
    go_enter_defers Tryz.func10, Tryz.ntmps10
    go_wp2_with fail
    have hrA : (((w.alloc (.cells #[.slice none 0 0] 30)).alloc (.cells #[.int .i64 0] 3)).alloc (.cells #[.string s, .int .i64 0] 56)).heap[w.heap.size]? = some (.cells #[.slice none 0 0] 30 (0, 0)) :=
      (Below.heap_alloc _ _ _ (by simp; omega)).trans ((Below.heap_alloc _ _ _ (by simp)).trans (heap_alloc_new _ _))
    have hrB : (((w.alloc (.cells #[.slice none 0 0] 30)).alloc (.cells #[.int .i64 0] 3)).alloc (.cells #[.string s, .int .i64 0] 56)).heap[w.heap.size + 1]? = some (.cells #[.int .i64 0] 3 (0, 0)) := by
      refine (Below.heap_alloc _ _ _ (by simp)).trans ?_
      have := heap_alloc_new (w.alloc (.cells #[.slice none 0 0] 30)) (.cells #[.int .i64 0] 3)
      simpa using this
    have hrL : LexSt (((w.alloc (.cells #[.slice none 0 0] 30)).alloc (.cells #[.int .i64 0] 3)).alloc (.cells #[.string s, .int .i64 0] 56)) (w.heap.size + 1 + 1) s 0 := by
      have := heap_alloc_new ((w.alloc (.cells #[.slice none 0 0] 30)).alloc (.cells #[.int .i64 0] 3)) (.cells #[.string s, .int .i64 0] 56)
      simpa [LexSt] using this
    have qb : Below w.heap.size w (((w.alloc (.cells #[.slice none 0 0] 30)).alloc (.cells #[.int .i64 0] 3)).alloc (.cells #[.string s, .int .i64 0] 56)) := (((Below.refl _ _).alloc (Nat.le_refl _) _).alloc (by simp) _).alloc (by simp; omega) _
    have hsz : (((w.alloc (.cells #[.slice none 0 0] 30)).alloc (.cells #[.int .i64 0] 3)).alloc (.cells #[.string s, .int .i64 0] 56)).heap.size = w.heap.size + 3 := by simp
    have HVW := HV.out.below qb HV.out.lt
    generalize ((w.alloc (.cells #[.slice none 0 0] 30)).alloc (.cells #[.int .i64 0] 3)).alloc (.cells #[.string s, .int .i64 0] 56) = W at *
    have hl3 := HV.out.lt
    refine (toks_any s (w.heap.size + 1 + 1) W (by omega) hrL HVW (by omega)).mono ?_
    rintro e w1 (⟨l, a, c, hl, rfl, ho, hg⟩ | ⟨c, hl, hc, rfl, hg⟩)
    · have hA1 := LexSt.grownTo hrA hg (by omega)
      have hB1 := LexSt.grownTo hrB hg (by omega)
      have HA : Hid _ := hA1
      have HBB : Hid _ := hB1
      have HO : Hid (w1.ownsRow W.heap.size 75 3 (.slice a l.length c) l.length (tvs l)) := ho
      have dA := row_cell hA1 0
      have dB := row_cell hB1 0
      have fA := row_frozen hA1 0
      have fB := row_frozen hB1 0
      simp at dA dB
      clear hA1 hB1 ho hrA hrB hrL
      have HL : Hid (lexB s = (l, 0)) := by rw [Hid, HB.out, hl]
      clear hl
      go_wp2_with fail
      refine leaves_cons (f := 25) (args := #[.pointer (some ⟨w.heap.size, 0, none⟩), .pointer (some ⟨w.heap.size + 1, 0, none⟩)]) (by simp) (by simp [go_sem]) ?_
      refine (catch_idle _ _ _).mono ?_
      rintro e u' w'' ⟨rfl, rfl, rfl⟩
      have hA2 := row_other (row_set HA.out 0 (.slice a l.length c)) (M := w.heap.size + 1) (j := 0) (by omega) (.int .i64 0)
      have hB2 := row_set (row_other HBB.out (M := w.heap.size) (j := 0) (by omega) (.slice a l.length c)) 0 (.int .i64 0)
      have HO2 := ownsRow_setCell_below (ownsRow_setCell_below HO.out (a := ⟨w.heap.size, 0, none⟩) (by show w.heap.size < W.heap.size; omega) (.slice a l.length c)) (a := ⟨w.heap.size + 1, 0, none⟩) (by show w.heap.size + 1 < W.heap.size; omega) (.int .i64 0)
      have q1 : Below w.heap.size w w1 := qb.grown hg (by omega) (fun k e => by simp only [Option.some.injEq] at e; omega)
      have q2 := (q1.setCell (p := ⟨w.heap.size, 0, none⟩) (Nat.le_refl _) (.slice a l.length c)).setCell (p := ⟨w.heap.size + 1, 0, none⟩) (by show w.heap.size ≤ w.heap.size + 1; omega) (.int .i64 0)
      clear dA dB fA fB HA HBB HO q1 hg
      generalize (w1.setCell ⟨w.heap.size, 0, none⟩ (.slice a l.length c)).setCell ⟨w.heap.size + 1, 0, none⟩ (.int .i64 0) = w2 at *
      have eA := row_cell hA2 0
      have eB := row_cell hB2 0
      simp at eA eB
      simp [Leaves, settle, results, Tryz.results10, go_sem, eA, eB]
      rw [HL.out]
      exact ⟨a, c, rfl, own_base HO2 (by omega), q2⟩
    · have hA1 := LexSt.grownTo hrA hg (by omega)
      have hB1 := LexSt.grownTo hrB hg (by omega)
      have HL : Hid (lexB s = ([], c)) := by rw [Hid, HB.out, hl]
      have q1 : Below w.heap.size w w1 := qb.grown hg (by omega) (fun k e => by simp only [Option.some.injEq] at e; omega)
      clear hl hrA hrB hrL hg
      go_wp2_with fail
      refine leaves_cons (f := 25) (args := #[.pointer (some ⟨w.heap.size, 0, none⟩), .pointer (some ⟨w.heap.size + 1, 0, none⟩)]) (by simp) (by simp [go_sem]) ?_
      refine (catch_panicking w.heap.size (w.heap.size + 1) c 0 none 0 0 [] _ hA1 hB1 (by omega)).mono ?_
      rintro e u' w'' ⟨rfl, rfl, w2, hb2, rfl⟩
      have hA2 := (hb2.block _ (Array.getElem?_eq_some_iff.1 hA1).1).trans hA1
      have hB2 := (hb2.block _ (Array.getElem?_eq_some_iff.1 hB1).1).trans hB1
      have hA3 := row_other (row_set hA2 0 (.slice none 0 0)) (M := w.heap.size + 1) (j := 0) (by omega) (.int .i64 c)
      have hB3 := row_set (row_other hB2 (M := w.heap.size) (j := 0) (by omega) (.slice none 0 0)) 0 (.int .i64 c)
      have q3 := ((q1.trans (hb2.mono q1.size)).setCell (p := ⟨w.heap.size, 0, none⟩) (Nat.le_refl _) (.slice none 0 0)).setCell (p := ⟨w.heap.size + 1, 0, none⟩) (by show w.heap.size ≤ w.heap.size + 1; omega) (.int .i64 c)
      clear hA1 hB1 hA2 hB2 hb2 q1
      generalize (w2.setCell ⟨w.heap.size, 0, none⟩ (.slice none 0 0)).setCell ⟨w.heap.size + 1, 0, none⟩ (.int .i64 c) = w3 at *
      have eA := row_cell hA3 0
      have eB := row_cell hB3 0
      simp at eA eB
      simp [Leaves, settle, results, Tryz.results10, go_sem, eA, eB]
      rw [HL.out]
      exact ⟨none, 0, rfl, World.ownsRow_nil _ _ _ _, q3⟩
end Go.Proofs.YtnfoinmccigdfaaGreatDoor
