/- What is forgotten, in plain terms. -/
import Derived.Test.YtlfcjhiojbcijaaStUpMath
import Derived.Test.YtlfcjhiojbcijaaStRead
namespace Go.Proofs.Ytlfcjhiojbcijaa.G
set_option linter.unusedVariables false

def upN (ts : Int) : List Ve → Nat
  | [] => 0
  | x :: r => if x.ts ≤ ts then upN ts r + 1 else 0
theorem upN_le (ts : Int) : ∀ l, upN ts l ≤ l.length
  | [] => Nat.le_refl _
  | x :: r => by
    unfold upN
    have := upN_le ts r
    split <;> simp <;> omega
theorem upN_lt (ts : Int) : ∀ (l : List Ve) (i : Nat), i < upN ts l → tsAt l i ≤ ts
  | [], i, h => by simp [upN] at h
  | x :: r, i, h => by
    unfold upN at h
    split at h
    · rename_i hx
      cases i with
      | zero => simpa [tsAt] using hx
      | succ i =>
        have := upN_lt ts r i (by omega)
        simpa [tsAt] using this
    · omega
theorem upN_at (ts : Int) : ∀ (l : List Ve), upN ts l < l.length → ts < tsAt l (upN ts l)
  | [], h => by simp at h
  | x :: r, h => by
    unfold upN at h ⊢
    split
    · rename_i hx
      rw [if_pos hx] at h
      have := upN_at ts r (by simpa using h)
      simpa [tsAt] using this
    · rename_i hx
      simp [tsAt]; omega
theorem upTo_upN {l : List Ve} (h : Rise l) (ts : Int) : UpTo l ts (upN ts l) := by
  refine ⟨upN_le ts l, upN_lt ts l, fun i h1 h2 => ?_⟩
  have := upN_at ts l (by omega)
  by_cases e : i = upN ts l
  · rw [e]; exact this
  · have := h (upN ts l) i (by omega) h2; omega
/-- How many versions of a chain go. -/
def goN (low : Int) (l : List Ve) : Nat := upN low l - 1
def fgC (low : Int) (l : List Ve) : List Ve := l.drop (goN low l)
def fgS (low : Int) (l : Chs) : Chs := l.map (fgC low)
theorem goN_le (low : Int) (l : List Ve) : goN low l ≤ l.length := by have := upN_le low l; unfold goN; omega
theorem fgC_len (low : Int) (l : List Ve) : (fgC low l).length = l.length - goN low l := by simp [fgC]
theorem fgS_len (low : Int) (l : Chs) : (fgS low l).length = l.length := by simp [fgS]
theorem fgS_at {low : Int} {l : Chs} {i : Nat} (h : i < l.length) : (fgS low l)[i]? = some (fgC low l[i]) := by simp [fgS, h]
theorem fgS_bd {low : Int} {l : Chs} {m : Nat} (h : ChsBd m l) : ChsBd m (fgS low l) := by
  refine ⟨by rw [fgS_len]; exact h.1, fun x hx => ?_⟩
  obtain ⟨y, hy, rfl⟩ := List.mem_map.1 hx
  have := h.2 y hy
  rw [fgC_len]; omega
/-- All that go. -/
def goS (low : Int) (l : Chs) : Nat := (l.map (goN low)).sum
theorem go_size (low : Int) (l : Chs) : sizeN l = sizeN (fgS low l) + goS low l := by
  induction l with
  | nil => rfl
  | cons x l ih =>
    have h1 := goN_le low x
    have h2 := fgC_len low x
    simp only [sizeN, fgS, goS, List.map_cons, List.sum_cons] at ih ⊢
    omega
theorem goS_take {low : Int} {l : Chs} {k : Nat} (hk : k < l.length) : goS low (l.take (k + 1)) = goS low (l.take k) + goN low l[k] := by
  unfold goS; rw [List.take_succ_eq_append_getElem hk, List.map_append, List.sum_append]; simp only [List.map_cons, List.map_nil, List.sum_cons, List.sum_nil]; omega
theorem goN_step {low : Int} {l : List Ve} (h : Rise l) {k : Nat} (hk : k ≤ goN low l) (h1 : k + 1 < l.length) : (tsAt l (k + 1) ≤ low) ↔ k + 1 ≤ goN low l := by
  have hu := upTo_upN h low
  constructor
  · intro ht
    by_cases e : k + 1 < upN low l
    · unfold goN; omega
    · have := hu.2.2 (k + 1) (by omega) h1; omega
  · intro hg
    exact hu.2.1 (k + 1) (by unfold goN at hg; omega)
end Go.Proofs.Ytlfcjhiojbcijaa.G
