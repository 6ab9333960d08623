/- Reading a text into tokens: that the specification's text of it does it. -/
import Derived.Test.YtjbogjoadcikhaaDoorLexNextDots
namespace Go.Proofs.YtjbogjoadcikhaaDoor.L
open Go.ChangeShapes Go.WideShapes Go.ChangeAt Go.RowKit
set_option linter.unusedVariables false

def tv (x : Tk) : List Value := [.int .i64 x.k, .int .i64 x.n, .string x.t]
def tvs (l : List Tk) : List Value := l.flatMap tv
theorem tvs_snoc (l : List Tk) (x : Tk) : tvs l ++ [.int .i64 x.k, .int .i64 x.n, .string x.t] = tvs (l ++ [x]) := by
  simp [tvs, tv]
theorem tvs_length (l : List Tk) : (tvs l).length = l.length * 3 := by
  induction l with
  | nil => rfl
  | cons x r ih => simp only [tvs, List.flatMap_cons, List.length_append, List.length_cons] at *; simp only [tv, List.length_cons, List.length_nil]; omega
theorem own_below {w w' : World} {base : Nat} {e : TypeId} {size n : Nat} {v : Value} {xs : List Value} (h : w.ownsRow base e size v n xs) (hb : Below w.heap.size w w') : w'.ownsRow base e size v n xs := by
  refine ⟨h.1, ?_⟩
  rcases h.2 with h | ⟨g, cap, cur, h1, h2, h3, h4⟩
  · exact .inl h
  · exact .inr ⟨g, cap, cur, h1, h2, (hb.block g (Array.getElem?_eq_some_iff.1 h3).1).trans h3, h4⟩
theorem own_shape {w : World} {base : Nat} {e : TypeId} {size n : Nat} {v : Value} {xs : List Value} (h : w.ownsRow base e size v n xs) : ∃ a c, v = .slice a n c := by
  rcases h.2 with ⟨rfl, rfl⟩ | ⟨g, cap, cur, rfl, _⟩
  · exact ⟨none, 0, rfl⟩
  · exact ⟨_, _, rfl⟩
theorem info39 : (Tryd.prog.info? 29).map (fun i => (i.zero, i.size, i.bytes)) = some (some (.agg #[.int .i64 0, .int .i64 0, .string ⟨#[]⟩]), 3, 32) := by kernel_rfl

/-- What Lex hands back: a row of its own with the tokens, and the code. -/
def LexIs (r : List Tk × Int) (w : World) (e : Ending) (w' : World) : Prop :=
  ∃ a c, e = .returned (.tuple #[.slice a r.1.length c, .int .i64 r.2]) ∧ w'.ownsRow w.heap.size 29 3 (.slice a r.1.length c) r.1.length (tvs r.1) ∧ Below w.heap.size w w'

theorem own_empty_at (w : World) (base N : Nat) (hN : N = w.heap.size) (hb : base ≤ w.heap.size) : (w.alloc (.cells #[] 29)).ownsRow base 29 3 (.slice (some ⟨N, 0, none⟩) 0 0) 0 [] := by
  subst hN; exact World.ownsRow_made w #[] 0 hb (Nat.zero_le _) rfl
theorem own_empty (w : World) (base : Nat) (hb : base ≤ w.heap.size) : (w.alloc (.cells #[] 29)).ownsRow base 29 3 (.slice (some ⟨w.heap.size, 0, none⟩) 0 0) 0 [] :=
  World.ownsRow_made w #[] 0 hb (Nat.zero_le _) rfl

end Go.Proofs.YtjbogjoadcikhaaDoor.L
