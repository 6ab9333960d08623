/- A document that came in, opened. -/
import Derived.Test.YtajjaddlalbnmaaSels
import Derived.Deep.Slices
import Derived.Deep.Strs
import Derived.Lib.SmallJoins
namespace Go.Proofs.Ytajjaddlalbnmaa
open Go.ChangeShapes Go.WideShapes Go.ChangeAt Go.RowKit
set_option linter.unusedVariables false

def VaBd (m : Nat) (v : Va) : Prop := v.t.size ≤ m
def ArBd (m : Nat) (x : Ar) : Prop := x.nm.size ≤ m ∧ x.v.t.size ≤ m
def DiBd (m : Nat) (x : Di) : Prop := x.v.t.size ≤ m
def HdBd (m : Nat) (h : Hd) : Prop := h.al.size ≤ m ∧ h.nm.size ≤ m ∧ h.args.length ≤ m ∧ (∀ x ∈ h.args, ArBd m x) ∧ h.dirs.length ≤ m ∧ ∀ x ∈ h.dirs, DiBd m x
def SelsBd (m : Nat) : Sels → Prop
  | .nil => True
  | .cons h sub rest => HdBd m h ∧ sub.len ≤ m ∧ SelsBd m sub ∧ SelsBd m rest
def DeBd (m : Nat) (x : De) : Prop := x.nm.size ≤ m ∧ x.on.size ≤ m ∧ x.sels.len ≤ m ∧ SelsBd m x.sels
def DefsBd (m : Nat) (l : List De) : Prop := l.length ≤ m ∧ ∀ x ∈ l, DeBd m x

theorem cell_lt {W : World} {a : Addr} {v : Value} (h : W.cell? a = some v) : a.block < W.heap.size := by
  refine Nat.lt_of_not_le fun hle => ?_
  simp [World.cell?, Array.getElem?_eq_none hle] at h
theorem list_of {α : Type} {len : Nat} {p : Nat → α → Prop} (h : ∀ i, i < len → ∃ x, p i x) : ∃ l : List α, l.length = len ∧ ∀ i x, l[i]? = some x → p i x := by
  induction len with
  | zero => exact ⟨[], rfl, by simp⟩
  | succ n ih =>
    obtain ⟨l, hl, hp⟩ := ih fun i hi => h i (by omega)
    obtain ⟨y, hy⟩ := h n (by omega)
    refine ⟨l ++ [y], by simp [hl], fun i x hx => ?_⟩
    by_cases hi : i < n
    · rw [List.getElem?_append_left (by omega)] at hx; exact hp i x hx
    · rw [List.getElem?_append_right (by omega)] at hx
      have : i - l.length < 1 := by have := (List.getElem?_eq_some_iff.1 hx).1; simpa using this
      obtain rfl : i = n := by omega
      rw [hl, Nat.sub_self] at hx
      simp at hx; subst hx; exact hy

theorem list3 {α : Type} {l : List α} (h : l.length = 3) : ∃ a b c, l = [a, b, c] := by
  match l, h with
  | [a, b, c], _ => exact ⟨a, b, c, rfl⟩
theorem list4 {α : Type} {l : List α} (h : l.length = 4) : ∃ a b c d, l = [a, b, c, d] := by
  match l, h with
  | [a, b, c, d], _ => exact ⟨a, b, c, d, rfl⟩
theorem list6 {α : Type} {l : List α} (h : l.length = 6) : ∃ a b c d e f, l = [a, b, c, d, e, f] := by
  match l, h with
  | [a, b, c, d, e, f], _ => exact ⟨a, b, c, d, e, f, rfl⟩

section
variable {H : Type} {enc : TypeId × Value → H} {W : World}
/-- A slice's cell opened: its elements' cells, each with its own reading. -/
theorem sl_open {t e : TypeId} {z : Nat} {fuel : Nat} {cs : List Value} {x : DataW H × List MemPlace} (ht : Try.prog.underlying t = some (.slice e)) (hz : Try.prog.cellsOf e = z) (hz0 : 0 < z) (h : DataW.trod enc Try.prog W 0 (fun _ => true) true fuel t cs = some x) :
    ∃ a len cap, cs = [.slice a len cap] ∧ len ≤ cap ∧ len ≤ maxLen ∧ (len = 0 ∨ ∃ n b o, fuel = n + 1 ∧ a = some ⟨b, o, none⟩ ∧ b < W.heap.size ∧
      ∀ i, i < len → ∃ cs' y, cs'.length = z ∧ (∀ j, j < z → rdOf W b (o + i * z + j) = cs'[j]?) ∧ DataW.trod enc Try.prog W 0 (fun _ => true) true n e cs' = some y) := by
  rcases DataW.trod_slice ht h with ⟨rfl, _⟩ | ⟨a, len, cap, elems, rest, n, rfl, rfl, _, hb, hl, hm, hlen, hel, _, _⟩
  · exact ⟨none, 0, 0, rfl, Nat.le_refl _, Nat.zero_le _, .inl rfl⟩
  · refine ⟨some a, len, cap, rfl, hl, by omega, ?_⟩
    by_cases h0 : len = 0
    · exact .inl h0
    rw [hz] at hel
    have key : ∀ i, i < len → ∃ cs' y, cs'.length = z ∧ (∀ j, j < z → W.cell? ((a.add (i * z)).add j) = cs'[j]?) ∧ DataW.trod enc Try.prog W 0 (fun _ => true) true n e cs' = some y := by
      intro i hi
      have := hel i hi
      rw [List.getElem?_eq_getElem (by omega), Option.bind_eq_some_iff] at this
      obtain ⟨cs', h1, h2⟩ := this
      obtain ⟨_, hcl, hc⟩ := World.cells?_some h1
      exact ⟨cs', _, hcl, hc, h2⟩
    obtain ⟨b, o, spot⟩ := a
    obtain ⟨cs', y, hcl, hc, _⟩ := key 0 (by omega)
    have hc0 := hc 0 hz0
    rw [List.getElem?_eq_getElem (by omega)] at hc0
    have hspot : spot = none := by
      have := World.cell?_spot hc0
      simpa [Addr.add] using this
    subst hspot
    refine .inr ⟨n, b, o, rfl, rfl, (by have := cell_lt hc0; simpa [Addr.add] using this), fun i hi => ?_⟩
    obtain ⟨cs', y, hcl, hc, hd⟩ := key i hi
    refine ⟨cs', y, hcl, fun j hj => ?_, hd⟩
    have := hc j hj
    simp only [add_plain] at this
    exact this

/-- Selections by index are a set. -/
theorem sels_of {lo hi : Nat} {w : World} {rd : Nat → Option Value} {m : Nat} : ∀ {l : List (Hd × Sels)} {o : Nat}, (∀ i x, l[i]? = some x → HdAt lo hi w rd (o + i * 6) x.1 ∧ (∃ a c, rd (o + i * 6 + 5) = some (.slice a x.2.len c) ∧ SelRow lo hi w a x.2) ∧ HdBd m x.1 ∧ x.2.len ≤ m ∧ SelsBd m x.2) →
    SelPre lo hi w (app l .nil) rd o l.length ∧ SelsBd m (app l .nil)
  | [], _, _ => ⟨trivial, trivial⟩
  | x :: l, o, h => by
    obtain ⟨h1, h2, h3, h4, h5⟩ := h 0 x rfl
    have := sels_of (l := l) (o := o + 6) (fun i y hy => by
      have := h (i + 1) y (by simpa using hy)
      rw [show o + (i + 1) * 6 = o + 6 + i * 6 by omega] at this
      exact this)
    simp only [Nat.zero_mul, Nat.add_zero] at h1 h2
    exact ⟨.inr ⟨h1, h2, this.1⟩, h3, h4, h5, this.2⟩
end
end Go.Proofs.Ytajjaddlalbnmaa
