/- A slice of tokens that came in, opened. -/
import Derived.Test.YtjbogjoadcikhahDoorJoinImpl
import Derived.Deep.Slices
import Derived.Deep.Strs
namespace Go.Proofs.YtjbogjoadcikhahDoor
open Go.ChangeShapes Go.WideShapes Go.ChangeAt Go.RowKit
set_option linter.unusedVariables false

theorem tok_cells {H : Type} {enc : TypeId × Value → H} {W : World} {base : Nat} {sp : Nat → Bool} {held : Bool} {n : Nat} {cs : List Value} {x : DataW H × List MemPlace}
    (h : DataW.trod enc Tryd.prog W base sp held n 23 cs = some x) : ∃ t : Tk, cs = [.int .i64 t.k, .int .i64 t.n, .string t.t] ∧ t.t.size ≤ maxLen := by
  have c3 : Tryd.prog.cellsOf 3 = 1 := by kernel_rfl
  have c9 : Tryd.prog.cellsOf 9 = 1 := by kernel_rfl
  have c23 : Tryd.prog.cellsOf 23 = 3 := by kernel_rfl
  obtain ⟨y0, y1, y2, m, _, hlen, h0, h1, h2⟩ := Deep.trod_struct3 Tryd.underlying23 h
  rw [c23] at hlen
  match cs, hlen with
  | [v0, v1, v2], _ =>
    obtain ⟨k, e0, _, _⟩ := DataW.trod_int Tryd.underlying3 h0
    obtain ⟨j, e1, _, _⟩ := DataW.trod_int Tryd.underlying3 h1
    obtain ⟨s, e2, _, hs⟩ := DataW.trod_string Tryd.underlying9 h2
    simp [c3, c9] at e0 e1 e2
    subst e0 e1 e2
    exact ⟨⟨k, j, s⟩, rfl, hs⟩

theorem cell_lt {W : World} {a : Addr} {v : Value} (h : W.cell? a = some v) : a.block < W.heap.size := by
  refine Nat.lt_of_not_le fun hle => ?_
  simp [World.cell?, Array.getElem?_eq_none hle] at h

theorem toks_open {H : Type} {enc : TypeId × Value → H} {W : World} {fuel : Nat} {a0 : Option Addr} {len cap : Nat} {x : DataW H × List MemPlace}
    (hf : DataW.trod enc Tryd.prog W 0 (fun _ => true) true fuel 30 (Value.cells (.slice a0 len cap)).toList = some x) :
    ∃ l : List Tk, l.length = len ∧ len ≤ maxLen ∧ TokRow W.heap.size W a0 l ∧ ∀ x ∈ l, x.t.size ≤ maxLen := by
  have c23 : Tryd.prog.cellsOf 23 = 3 := by kernel_rfl
  rcases Deep.open_slice Tryd.underlying30 hf with ⟨hcs, _⟩ | ⟨a, len', cap', m, n, D, Pl, hcs, _, hl, hm, hmm, _, hx⟩
  · simp [Value.cells] at hcs
    obtain ⟨rfl, rfl, rfl⟩ := hcs
    exact ⟨[], rfl, Nat.zero_le _, .inl rfl, by simp⟩
  · simp [Value.cells] at hcs
    obtain ⟨rfl, rfl, rfl⟩ := hcs
    simp only [if_true] at hmm
    rw [c23] at hx
    have key : ∀ i, i < len → ∃ t : Tk, (W.cell? ((a.add (i * 3)).add 0) = some (.int .i64 t.k) ∧ W.cell? ((a.add (i * 3)).add 1) = some (.int .i64 t.n) ∧ W.cell? ((a.add (i * 3)).add 2) = some (.string t.t)) ∧ t.t.size ≤ maxLen := by
      intro i hi
      obtain ⟨cs', h1, h2⟩ := hx i (by omega)
      obtain ⟨_, _, hc⟩ := World.cells?_some h1
      obtain ⟨t, rfl, hs⟩ := tok_cells h2
      exact ⟨t, ⟨hc 0 (by omega), hc 1 (by omega), hc 2 (by omega)⟩, hs⟩
    obtain ⟨f, hfk⟩ : ∃ f : Nat → Tk, ∀ i, i < len → (W.cell? ((a.add (i * 3)).add 0) = some (.int .i64 (f i).k) ∧ W.cell? ((a.add (i * 3)).add 1) = some (.int .i64 (f i).n) ∧ W.cell? ((a.add (i * 3)).add 2) = some (.string (f i).t)) ∧ (f i).t.size ≤ maxLen := by
      classical
      exact ⟨fun i => if h : i < len then Classical.choose (key i h) else ⟨0, 0, ⟨#[]⟩⟩, fun i hi => by simp only [hi, dif_pos]; exact Classical.choose_spec (key i hi)⟩
    refine ⟨(List.range len).map f, by simp, by omega, ?_, ?_⟩
    · by_cases h0 : len = 0
      · subst h0; exact .inl rfl
      · obtain ⟨b, off, spot⟩ := a
        have hspot : spot = none := by
          have := World.cell?_spot (hfk 0 (by omega)).1.1
          simpa [Addr.add] using this
        subst hspot
        simp only [add_plain] at hfk
        refine .inr ⟨b, off, rfl, cell_lt (hfk 0 (by omega)).1.1, Nat.le_refl _, fun i x hx => ?_⟩
        rw [List.getElem?_map] at hx
        obtain ⟨y, hy, rfl⟩ := Option.map_eq_some_iff.1 hx
        obtain ⟨hi, he⟩ := List.getElem?_eq_some_iff.1 hy
        simp at hi he
        subst he
        exact (hfk i hi).1
    · intro x hx
      obtain ⟨i, hi, rfl⟩ := List.mem_map.1 hx
      exact (hfk i (by simpa using hi)).2
end Go.Proofs.YtjbogjoadcikhahDoor
