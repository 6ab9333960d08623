/- Rows of numbers; what all keys of a store tell now; rows of numbers held against each other. -/
import Derived.Test.YtlfcjhiojbcijaaStReadSpec
namespace Go.Proofs.Ytlfcjhiojbcijaa.G
open Go.ChangeShapes Go.WideShapes Go.ChangeAt Go.RowKit
set_option linter.unusedVariables false

def NuAt (rd : Nat → Option Value) (o : Nat) (x : Int) : Prop := rd o = some (.int .i64 x)
abbrev NuRow (lo hi : Nat) (w : World) (a : Option Addr) (l : List Int) : Prop := Row NuAt 1 lo hi w a l
theorem NuRow.keep {lo hi : Nat} {w w' : World} {a : Option Addr} {l : List Int} (h : NuRow lo hi w a l) (hk : Agree lo hi w w') : NuRow lo hi w' a l := Row.of h hk fun _ _ _ hx => hx
theorem NuRow.wide {lo hi lo' hi' : Nat} {w : World} {a : Option Addr} {l : List Int} (h : NuRow lo hi w a l) (e1 : lo' ≤ lo) (e2 : hi ≤ hi') : NuRow lo' hi' w a l := Row.out h e1 e2 fun _ _ _ hx => hx
theorem NuRow.up {w w' : World} {a : Option Addr} {l : List Int} (h : NuRow 0 w.heap.size w a l) (hb : Below w.heap.size w w') : NuRow 0 w'.heap.size w' a l := NuRow.wide (NuRow.keep h (agree hb (Nat.le_refl _))) (Nat.le_refl _) hb.size
theorem NuRow.cells {lo hi : Nat} {w : World} {a : Option Addr} {l : List Int} (h : NuRow lo hi w a l) (k : Nat) (hk : k < l.length) :
    ∃ b o, a = some ⟨b, o, none⟩ ∧ lo ≤ b ∧ b < hi ∧ w.cell? ⟨b, o + k, none⟩ = some (.int .i64 l[k]) := by
  obtain ⟨b, o, e1, e2, e3, h0⟩ := Row.at_ h k hk
  rw [Nat.mul_one] at h0
  exact ⟨b, o, e1, e2, e3, h0⟩
theorem nu_of {w : World} {N lo hi : Nat} {cs : Array Value} {T : TypeId} {l : List Int} (h : w.heap[N]? = some (.cells cs T (0, 0))) (h1 : lo ≤ N) (h2 : N < hi) (hc : ∀ i (h : i < l.length), cs[i]? = some (.int .i64 l[i])) : NuRow lo hi w (some ⟨N, 0, none⟩) l := by
  refine .inr ⟨N, 0, rfl, h1, h2, fun i x hx => ?_⟩
  obtain ⟨hi, rfl⟩ := List.getElem?_eq_some_iff.1 hx
  rw [row_rd h]
  show cs[0 + i * 1]? = _
  rw [Nat.mul_one, Nat.zero_add]
  exact hc i hi
set_option maxRecDepth 100000 in
theorem info_int : ∃ i, Try.prog.info? 3 = some i ∧ i.zero = some (.int .i64 0) ∧ i.size = 1 ∧ i.bytes = 8 := by
  refine ⟨_, rfl, ?_, ?_, ?_⟩ <;> kernel_rfl
/-- What all keys tell at an hour. -/
def vals (l : Chs) (ts : Int) : List Int := l.map fun x => readV x ts
theorem vals_len (l : Chs) (ts : Int) : (vals l ts).length = l.length := by simp [vals]
theorem vals_at {l : Chs} {ts : Int} {i : Nat} (h : i < (vals l ts).length) : (vals l ts)[i] = readV (l[i]'(by rw [vals_len] at h; exact h)) ts := by simp [vals]
end Go.Proofs.Ytlfcjhiojbcijaa.G
