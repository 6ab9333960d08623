/- Data of the kinds ArgDef, FieldDef, TypeDef, and how they lie in memory. -/
import Derived.Test.YtnfoinmccigdfaaGreatDoorGBase
namespace Go.Proofs.YtnfoinmccigdfaaGreatDoor.G
open Go.ChangeShapes Go.WideShapes Go.ChangeAt Go.RowKit
set_option linter.unusedVariables false

theorem list2 {α : Type} {l : List α} (h : l.length = 2) : ∃ v0 v1, l = [v0, v1] := by
  match l, h with
  | [v0, v1], _ => exact ⟨v0, v1, rfl⟩
def put2 (cs : Array Value) (k : Nat) (v0 v1 : Value) : Array Value := ((cs.setIfInBounds k v0).setIfInBounds (k + 1) v1)
theorem put2_size (cs : Array Value) (k : Nat) (v0 v1 : Value) : (put2 cs k v0 v1).size = cs.size := by simp [put2]
theorem put2_at {cs : Array Value} {k : Nat} {v0 v1 : Value} (h : k + 1 < cs.size) : (put2 cs k v0 v1)[k]? = some v0 ∧ (put2 cs k v0 v1)[k + 1]? = some v1 := by
  unfold put2
  refine ⟨?_, ?_⟩ <;> simp [Array.getElem?_setIfInBounds] <;> omega
theorem put2_else {cs : Array Value} {k : Nat} {v0 v1 : Value} {j : Nat} (h : j < k) : (put2 cs k v0 v1)[j]? = cs[j]? := by
  unfold put2
  rw [Array.getElem?_setIfInBounds_ne (by omega), Array.getElem?_setIfInBounds_ne (by omega)]
theorem list5 {α : Type} {l : List α} (h : l.length = 5) : ∃ v0 v1 v2 v3 v4, l = [v0, v1, v2, v3, v4] := by
  match l, h with
  | [v0, v1, v2, v3, v4], _ => exact ⟨v0, v1, v2, v3, v4, rfl⟩
def put5 (cs : Array Value) (k : Nat) (v0 v1 v2 v3 v4 : Value) : Array Value := (((((cs.setIfInBounds k v0).setIfInBounds (k + 1) v1).setIfInBounds (k + 2) v2).setIfInBounds (k + 3) v3).setIfInBounds (k + 4) v4)
theorem put5_size (cs : Array Value) (k : Nat) (v0 v1 v2 v3 v4 : Value) : (put5 cs k v0 v1 v2 v3 v4).size = cs.size := by simp [put5]
theorem put5_at {cs : Array Value} {k : Nat} {v0 v1 v2 v3 v4 : Value} (h : k + 4 < cs.size) : (put5 cs k v0 v1 v2 v3 v4)[k]? = some v0 ∧ (put5 cs k v0 v1 v2 v3 v4)[k + 1]? = some v1 ∧ (put5 cs k v0 v1 v2 v3 v4)[k + 2]? = some v2 ∧ (put5 cs k v0 v1 v2 v3 v4)[k + 3]? = some v3 ∧ (put5 cs k v0 v1 v2 v3 v4)[k + 4]? = some v4 := by
  unfold put5
  refine ⟨?_, ?_, ?_, ?_, ?_⟩ <;> simp [Array.getElem?_setIfInBounds] <;> omega
theorem put5_else {cs : Array Value} {k : Nat} {v0 v1 v2 v3 v4 : Value} {j : Nat} (h : j < k) : (put5 cs k v0 v1 v2 v3 v4)[j]? = cs[j]? := by
  unfold put5
  rw [Array.getElem?_setIfInBounds_ne (by omega), Array.getElem?_setIfInBounds_ne (by omega), Array.getElem?_setIfInBounds_ne (by omega), Array.getElem?_setIfInBounds_ne (by omega), Array.getElem?_setIfInBounds_ne (by omega)]
structure Ag where
  nm : ByteArray
  need : Bool
def AgAt (lo hi : Nat) (w : World) (rd : Nat → Option Value) (o : Nat) (x : Ag) : Prop := rd o = some (.string x.nm) ∧ rd (o + 1) = some (.bool x.need)
abbrev AgRow (lo hi : Nat) (w : World) (a : Option Addr) (l : List Ag) : Prop := Row (AgAt lo hi w) 2 lo hi w a l
def AgBd (m : Nat) (x : Ag) : Prop := x.nm.size ≤ m
def AgsBd (m : Nat) (l : List Ag) : Prop := l.length ≤ m ∧ ∀ x ∈ l, AgBd m x
theorem AgAt.keep {lo hi : Nat} {w w' : World} {rd : Nat → Option Value} {o : Nat} {x : Ag} (hh : AgAt lo hi w rd o x) (hk : Agree lo hi w w') : AgAt lo hi w' rd o x := hh
theorem AgAt.wide {lo hi lo' hi' : Nat} {w : World} {rd : Nat → Option Value} {o : Nat} {x : Ag} (hh : AgAt lo hi w rd o x) (e1 : lo' ≤ lo) (e2 : hi ≤ hi') : AgAt lo' hi' w rd o x := hh
theorem AgRow.keep {lo hi : Nat} {w w' : World} {a : Option Addr} {l : List Ag} (h : AgRow lo hi w a l) (hk : Agree lo hi w w') : AgRow lo hi w' a l := Row.of h hk fun _ _ _ hx => AgAt.keep hx hk
theorem AgRow.wide {lo hi lo' hi' : Nat} {w : World} {a : Option Addr} {l : List Ag} (h : AgRow lo hi w a l) (e1 : lo' ≤ lo) (e2 : hi ≤ hi') : AgRow lo' hi' w a l := Row.out h e1 e2 fun _ _ _ hx => AgAt.wide hx e1 e2
theorem AgRow.up {w w' : World} {a : Option Addr} {l : List Ag} (h : AgRow 0 w.heap.size w a l) (hb : Below w.heap.size w w') : AgRow 0 w'.heap.size w' a l := AgRow.wide (AgRow.keep h (agree hb (Nat.le_refl _))) (Nat.le_refl _) hb.size
theorem AgRow.cells {lo hi : Nat} {w : World} {a : Option Addr} {l : List Ag} (h : AgRow lo hi w a l) (k : Nat) (hk : k < l.length) :
    ∃ b o, a = some ⟨b, o, none⟩ ∧ lo ≤ b ∧ b < hi ∧ w.cell? ⟨b, o + k * 2, none⟩ = some (.string l[k].nm) ∧ w.cell? ⟨b, o + k * 2 + 1, none⟩ = some (.bool l[k].need) := by
  obtain ⟨b, o, e1, e2, e3, h0, h1⟩ := Row.at_ h k hk
  exact ⟨b, o, e1, e2, e3, h0, h1⟩
structure Fd where
  nm : ByteArray
  args : List Ag
  ty : ByteArray
  ls : Bool
  bg : Bool
def FdAt (lo hi : Nat) (w : World) (rd : Nat → Option Value) (o : Nat) (x : Fd) : Prop := rd o = some (.string x.nm) ∧ (∃ a c, rd (o + 1) = some (.slice a x.args.length c) ∧ Row (AgAt lo hi w) 2 lo hi w a x.args) ∧ rd (o + 2) = some (.string x.ty) ∧ rd (o + 3) = some (.bool x.ls) ∧ rd (o + 4) = some (.bool x.bg)
abbrev FdRow (lo hi : Nat) (w : World) (a : Option Addr) (l : List Fd) : Prop := Row (FdAt lo hi w) 5 lo hi w a l
def FdBd (m : Nat) (x : Fd) : Prop := x.nm.size ≤ m ∧ AgsBd m x.args ∧ x.ty.size ≤ m
def FdsBd (m : Nat) (l : List Fd) : Prop := l.length ≤ m ∧ ∀ x ∈ l, FdBd m x
theorem FdAt.keep {lo hi : Nat} {w w' : World} {rd : Nat → Option Value} {o : Nat} {x : Fd} (hh : FdAt lo hi w rd o x) (hk : Agree lo hi w w') : FdAt lo hi w' rd o x := by
  obtain ⟨h0, ⟨a, c, p, q⟩, h2, h3, h4⟩ := hh
  exact ⟨h0, ⟨a, c, p, AgRow.keep q hk⟩, h2, h3, h4⟩
theorem FdAt.wide {lo hi lo' hi' : Nat} {w : World} {rd : Nat → Option Value} {o : Nat} {x : Fd} (hh : FdAt lo hi w rd o x) (e1 : lo' ≤ lo) (e2 : hi ≤ hi') : FdAt lo' hi' w rd o x := by
  obtain ⟨h0, ⟨a, c, p, q⟩, h2, h3, h4⟩ := hh
  exact ⟨h0, ⟨a, c, p, AgRow.wide q e1 e2⟩, h2, h3, h4⟩
theorem FdRow.keep {lo hi : Nat} {w w' : World} {a : Option Addr} {l : List Fd} (h : FdRow lo hi w a l) (hk : Agree lo hi w w') : FdRow lo hi w' a l := Row.of h hk fun _ _ _ hx => FdAt.keep hx hk
theorem FdRow.wide {lo hi lo' hi' : Nat} {w : World} {a : Option Addr} {l : List Fd} (h : FdRow lo hi w a l) (e1 : lo' ≤ lo) (e2 : hi ≤ hi') : FdRow lo' hi' w a l := Row.out h e1 e2 fun _ _ _ hx => FdAt.wide hx e1 e2
theorem FdRow.up {w w' : World} {a : Option Addr} {l : List Fd} (h : FdRow 0 w.heap.size w a l) (hb : Below w.heap.size w w') : FdRow 0 w'.heap.size w' a l := FdRow.wide (FdRow.keep h (agree hb (Nat.le_refl _))) (Nat.le_refl _) hb.size
theorem FdRow.cells {lo hi : Nat} {w : World} {a : Option Addr} {l : List Fd} (h : FdRow lo hi w a l) (k : Nat) (hk : k < l.length) :
    ∃ b o a3 c3, a = some ⟨b, o, none⟩ ∧ lo ≤ b ∧ b < hi ∧ w.cell? ⟨b, o + k * 5, none⟩ = some (.string l[k].nm) ∧ w.cell? ⟨b, o + k * 5 + 1, none⟩ = some (.slice a3 l[k].args.length c3) ∧ w.cell? ⟨b, o + k * 5 + 2, none⟩ = some (.string l[k].ty) ∧ w.cell? ⟨b, o + k * 5 + 3, none⟩ = some (.bool l[k].ls) ∧ w.cell? ⟨b, o + k * 5 + 4, none⟩ = some (.bool l[k].bg) ∧ AgRow lo hi w a3 l[k].args := by
  obtain ⟨b, o, e1, e2, e3, h0, ⟨a3, c3, p, q⟩, h2, h3, h4⟩ := Row.at_ h k hk
  exact ⟨b, o, a3, c3, e1, e2, e3, h0, p, h2, h3, h4, q⟩
structure Td where
  nm : ByteArray
  fs : List Fd
def TdAt (lo hi : Nat) (w : World) (rd : Nat → Option Value) (o : Nat) (x : Td) : Prop := rd o = some (.string x.nm) ∧ (∃ a c, rd (o + 1) = some (.slice a x.fs.length c) ∧ Row (FdAt lo hi w) 5 lo hi w a x.fs)
abbrev TdRow (lo hi : Nat) (w : World) (a : Option Addr) (l : List Td) : Prop := Row (TdAt lo hi w) 2 lo hi w a l
def TdBd (m : Nat) (x : Td) : Prop := x.nm.size ≤ m ∧ FdsBd m x.fs
def TdsBd (m : Nat) (l : List Td) : Prop := l.length ≤ m ∧ ∀ x ∈ l, TdBd m x
theorem TdAt.keep {lo hi : Nat} {w w' : World} {rd : Nat → Option Value} {o : Nat} {x : Td} (hh : TdAt lo hi w rd o x) (hk : Agree lo hi w w') : TdAt lo hi w' rd o x := by
  obtain ⟨h0, ⟨a, c, p, q⟩⟩ := hh
  exact ⟨h0, ⟨a, c, p, FdRow.keep q hk⟩⟩
theorem TdAt.wide {lo hi lo' hi' : Nat} {w : World} {rd : Nat → Option Value} {o : Nat} {x : Td} (hh : TdAt lo hi w rd o x) (e1 : lo' ≤ lo) (e2 : hi ≤ hi') : TdAt lo' hi' w rd o x := by
  obtain ⟨h0, ⟨a, c, p, q⟩⟩ := hh
  exact ⟨h0, ⟨a, c, p, FdRow.wide q e1 e2⟩⟩
theorem TdRow.keep {lo hi : Nat} {w w' : World} {a : Option Addr} {l : List Td} (h : TdRow lo hi w a l) (hk : Agree lo hi w w') : TdRow lo hi w' a l := Row.of h hk fun _ _ _ hx => TdAt.keep hx hk
theorem TdRow.wide {lo hi lo' hi' : Nat} {w : World} {a : Option Addr} {l : List Td} (h : TdRow lo hi w a l) (e1 : lo' ≤ lo) (e2 : hi ≤ hi') : TdRow lo' hi' w a l := Row.out h e1 e2 fun _ _ _ hx => TdAt.wide hx e1 e2
theorem TdRow.up {w w' : World} {a : Option Addr} {l : List Td} (h : TdRow 0 w.heap.size w a l) (hb : Below w.heap.size w w') : TdRow 0 w'.heap.size w' a l := TdRow.wide (TdRow.keep h (agree hb (Nat.le_refl _))) (Nat.le_refl _) hb.size
theorem TdRow.cells {lo hi : Nat} {w : World} {a : Option Addr} {l : List Td} (h : TdRow lo hi w a l) (k : Nat) (hk : k < l.length) :
    ∃ b o a3 c3, a = some ⟨b, o, none⟩ ∧ lo ≤ b ∧ b < hi ∧ w.cell? ⟨b, o + k * 2, none⟩ = some (.string l[k].nm) ∧ w.cell? ⟨b, o + k * 2 + 1, none⟩ = some (.slice a3 l[k].fs.length c3) ∧ FdRow lo hi w a3 l[k].fs := by
  obtain ⟨b, o, e1, e2, e3, h0, ⟨a3, c3, p, q⟩⟩ := Row.at_ h k hk
  exact ⟨b, o, a3, c3, e1, e2, e3, h0, p, q⟩
section
variable {H : Type} {enc : TypeId × Value → H} {W : World}
end
end Go.Proofs.YtnfoinmccigdfaaGreatDoor.G
