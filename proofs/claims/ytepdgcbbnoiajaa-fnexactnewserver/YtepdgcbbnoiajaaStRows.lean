/- Versions, chains of them and stores of chains: as data, and how they lie in memory. -/
import Derived.Test.YtepdgcbbnoiajaaGBase
namespace Go.Proofs.Ytepdgcbbnoiajaa.G
open Go.ChangeShapes Go.WideShapes Go.ChangeAt Go.RowKit
set_option linter.unusedVariables false

structure Ve where
  ts : Int
  v : Int
abbrev Chs := List (List Ve)
def VeAt (rd : Nat → Option Value) (o : Nat) (x : Ve) : Prop := rd o = some (.int .i64 x.ts) ∧ rd (o + 1) = some (.int .i64 x.v)
abbrev VeRow (lo hi : Nat) (w : World) (a : Option Addr) (l : List Ve) : Prop := Row VeAt 2 lo hi w a l
theorem VeRow.keep {lo hi : Nat} {w w' : World} {a : Option Addr} {l : List Ve} (h : VeRow lo hi w a l) (hk : Agree lo hi w w') : VeRow lo hi w' a l := Row.of h hk fun _ _ _ hx => hx
theorem VeRow.wide {lo hi lo' hi' : Nat} {w : World} {a : Option Addr} {l : List Ve} (h : VeRow lo hi w a l) (e1 : lo' ≤ lo) (e2 : hi ≤ hi') : VeRow lo' hi' w a l := Row.out h e1 e2 fun _ _ _ hx => hx
theorem VeRow.up {w w' : World} {a : Option Addr} {l : List Ve} (h : VeRow 0 w.heap.size w a l) (hb : Below w.heap.size w w') : VeRow 0 w'.heap.size w' a l := VeRow.wide (VeRow.keep h (agree hb (Nat.le_refl _))) (Nat.le_refl _) hb.size
theorem VeRow.cells {lo hi : Nat} {w : World} {a : Option Addr} {l : List Ve} (h : VeRow lo hi w a l) (k : Nat) (hk : k < l.length) :
    ∃ b o, a = some ⟨b, o, none⟩ ∧ lo ≤ b ∧ b < hi ∧ w.cell? ⟨b, o + k * 2, none⟩ = some (.int .i64 l[k].ts) ∧ w.cell? ⟨b, o + k * 2 + 1, none⟩ = some (.int .i64 l[k].v) := by
  obtain ⟨b, o, e1, e2, e3, h0, h1⟩ := Row.at_ h k hk
  exact ⟨b, o, e1, e2, e3, h0, h1⟩
/-- A chain's cell: a slice over its versions. -/
def ChAt (lo hi : Nat) (w : World) (rd : Nat → Option Value) (o : Nat) (x : List Ve) : Prop := ∃ a c, rd o = some (.slice a x.length c) ∧ x.length ≤ c ∧ VeRow lo hi w a x
abbrev ChRow (lo hi : Nat) (w : World) (a : Option Addr) (l : Chs) : Prop := Row (ChAt lo hi w) 1 lo hi w a l
def ChsBd (m : Nat) (l : Chs) : Prop := l.length ≤ m ∧ ∀ x ∈ l, x.length ≤ m
theorem ChAt.keep {lo hi : Nat} {w w' : World} {rd : Nat → Option Value} {o : Nat} {x : List Ve} (hh : ChAt lo hi w rd o x) (hk : Agree lo hi w w') : ChAt lo hi w' rd o x := by
  obtain ⟨a, c, p, q, r⟩ := hh
  exact ⟨a, c, p, q, VeRow.keep r hk⟩
theorem ChAt.wide {lo hi lo' hi' : Nat} {w : World} {rd : Nat → Option Value} {o : Nat} {x : List Ve} (hh : ChAt lo hi w rd o x) (e1 : lo' ≤ lo) (e2 : hi ≤ hi') : ChAt lo' hi' w rd o x := by
  obtain ⟨a, c, p, q, r⟩ := hh
  exact ⟨a, c, p, q, VeRow.wide r e1 e2⟩
theorem ChRow.keep {lo hi : Nat} {w w' : World} {a : Option Addr} {l : Chs} (h : ChRow lo hi w a l) (hk : Agree lo hi w w') : ChRow lo hi w' a l := Row.of h hk fun _ _ _ hx => ChAt.keep hx hk
theorem ChRow.wide {lo hi lo' hi' : Nat} {w : World} {a : Option Addr} {l : Chs} (h : ChRow lo hi w a l) (e1 : lo' ≤ lo) (e2 : hi ≤ hi') : ChRow lo' hi' w a l := Row.out h e1 e2 fun _ _ _ hx => ChAt.wide hx e1 e2
theorem ChRow.up {w w' : World} {a : Option Addr} {l : Chs} (h : ChRow 0 w.heap.size w a l) (hb : Below w.heap.size w w') : ChRow 0 w'.heap.size w' a l := ChRow.wide (ChRow.keep h (agree hb (Nat.le_refl _))) (Nat.le_refl _) hb.size
theorem ChRow.cells {lo hi : Nat} {w : World} {a : Option Addr} {l : Chs} (h : ChRow lo hi w a l) (k : Nat) (hk : k < l.length) :
    ∃ b o a3 c3, a = some ⟨b, o, none⟩ ∧ lo ≤ b ∧ b < hi ∧ w.cell? ⟨b, o + k, none⟩ = some (.slice a3 l[k].length c3) ∧ l[k].length ≤ c3 ∧ VeRow lo hi w a3 l[k] := by
  obtain ⟨b, o, e1, e2, e3, a3, c3, h0, h1, h2⟩ := Row.at_ h k hk
  rw [Nat.mul_one] at h0
  exact ⟨b, o, a3, c3, e1, e2, e3, h0, h1, h2⟩
theorem listTwo {α : Type} {l : List α} (h : l.length = 2) : ∃ v0 v1, l = [v0, v1] := by
  match l, h with
  | [v0, v1], _ => exact ⟨v0, v1, rfl⟩
section
variable {H : Type} {enc : TypeId × Value → H} {W : World}
end
end Go.Proofs.Ytepdgcbbnoiajaa.G
