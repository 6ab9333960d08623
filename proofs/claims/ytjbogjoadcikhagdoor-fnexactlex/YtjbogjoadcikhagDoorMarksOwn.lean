/- The law's own texts: a row that Lex handed back is marked, and holds its marks. -/
import Derived.Test.YtjbogjoadcikhagDoorMarksTwo
namespace Go.Proofs.YtjbogjoadcikhagDoor
open Go.ChangeShapes Go.WideShapes Go.ChangeAt Go.RowKit
set_option linter.unusedVariables false

theorem lexR_len (s : ByteArray) : ∀ (n i : Nat) (acc : List Tk), s.size - i ≤ n → i ≤ s.size → acc.length ≤ 4000 → (lexR s i acc).1.length ≤ 4000
  | n, i, acc, hn, hi, ha => by
    have hb := pb_bounds hi false
    rw [lexR_eq hi]
    split
    · rename_i hlt
      cases ht : tokAt s (pb s i false) with
      | none => simp
      | some x =>
        obtain ⟨t, e⟩ := x
        have he := tokAt_bounds hlt ht
        simp only
        split
        · simp
        · match n with
          | 0 => omega
          | n + 1 => exact lexR_len s n e _ (by omega) (by omega) (by rw [List.length_append]; simp; omega)
    · exact ha
theorem lexB_len (s : ByteArray) : (lexB s).1.length ≤ 4000 := by
  unfold lexB
  split
  · simp
  · exact lexR_len s _ 0 [] (Nat.le_refl _) (Nat.zero_le _) (by simp)

/-- A row that holds its marks. -/
def HeldRow (w : World) (a : Option Addr) (n : Nat) : Prop := n = 0 ∨ ∃ g cs, a = some ⟨g, 0, none⟩ ∧ w.heap[g]? = some (.cells cs 39 (0, 0)) ∧ Marked cs n
theorem HeldRow.below {w w' : World} {a : Option Addr} {n : Nat} (h : HeldRow w a n) (hb : Below w.heap.size w w') : HeldRow w' a n := by
  rcases h with h | ⟨g, cs, ha, hh, hm⟩
  · exact .inl h
  · exact .inr ⟨g, cs, ha, (hb.block g (Array.getElem?_eq_some_iff.1 hh).1).trans hh, hm⟩

theorem mark_zero (a : Option Addr) (c : Nat) (w : World) :
    Calls Tryd.prog 13 #[.slice a 0 c, .int .i64 1] w fun e w' => e = .returned (.int .i64 1) ∧ w' = w := by
  go_enter Tryd.func13, Tryd.ntmps13
  go_wp2_with fail
  go_loopw [1, 5] (fun k i wr => i = .int .i64 0 ∧ k = .int .i64 1 ∧ wr = w) (fun _ _ _ => 0)
  case atStart => exact ⟨rfl, rfl, rfl⟩
  case round =>
    rename_i wr
    obtain ⟨rfl, rfl, rfl⟩ := hrel
    go_wp2_with fail
    go_ret
    exact ⟨rfl, rfl⟩
theorem held_zero (a : Option Addr) (c : Nat) (w : World) :
    Calls Tryd.prog 14 #[.slice a 0 c, .int .i64 1] w fun e w' => e = .returned (.int .i64 1) ∧ w' = w := by
  go_enter Tryd.func14, Tryd.ntmps14
  go_wp2_with fail
  go_loopw [1, 5] (fun k i wr => i = .int .i64 0 ∧ k = .int .i64 1 ∧ wr = w) (fun _ _ _ => 0)
  case atStart => exact ⟨rfl, rfl, rfl⟩
  case round =>
    rename_i wr
    obtain ⟨rfl, rfl, rfl⟩ := hrel
    go_wp2_with fail
    go_ret
    exact ⟨rfl, rfl⟩

theorem mark_own (a : Option Addr) (n c base : Nat) (xs : List Value) (w : World) (h : w.ownsRow base 39 3 (.slice a n c) n xs) (hB : base ≤ w.heap.size) (hn : n ≤ 4000) :
    Calls Tryd.prog 13 #[.slice a n c, .int .i64 1] w fun e w' => e = .returned (.int .i64 ((1 + n * 3 : Nat) : Int)) ∧ HeldRow w' a n ∧ Below base w w' := by
  rcases h.2 with ⟨h0, rfl⟩ | ⟨g, cap, cur, h1, h2, h3, h4, h5, h6, h7⟩
  · refine (mark_zero a c w).mono ?_
    rintro e w1 ⟨rfl, rfl⟩
    exact ⟨rfl, .inl rfl, Below.refl _ _⟩
  · simp only [Value.slice.injEq] at h1
    obtain ⟨rfl, _, rfl⟩ := h1
    refine (mark_row g n c cur w h3 (by rw [h6]; omega) hn).mono ?_
    rintro e w1 ⟨rfl, cs, hh, hcs, hm, hg⟩
    exact ⟨rfl, .inr ⟨g, cs, rfl, hh, hm⟩, (Below.refl _ _).grown hg hB (fun k e => by simp only [Option.some.injEq] at e; omega)⟩
theorem held_own (a : Option Addr) (n c : Nat) (w : World) (h : HeldRow w a n) (hn : n ≤ 4000) :
    Calls Tryd.prog 14 #[.slice a n c, .int .i64 1] w fun e w' => e = .returned (.int .i64 ((1 + n * 3 : Nat) : Int)) ∧ Below w.heap.size w w' := by
  rcases h with rfl | ⟨g, cs, rfl, hh, hm⟩
  · refine (held_zero a c w).mono ?_
    rintro e w1 ⟨rfl, rfl⟩
    exact ⟨rfl, Below.refl _ _⟩
  · exact held_row g n c cs w hh hm hn
end Go.Proofs.YtjbogjoadcikhagDoor
