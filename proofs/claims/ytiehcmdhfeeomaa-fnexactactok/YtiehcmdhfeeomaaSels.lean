/- Documents as data, and how they lie in memory. -/
import Derived.Test.YtiehcmdhfeeomaaInts
import Derived.Below
namespace Go.Proofs.Ytiehcmdhfeeomaa
open Go.ChangeShapes Go.WideShapes Go.ChangeAt Go.RowKit
set_option linter.unusedVariables false

structure Va where
  k : Int
  n : Int
  t : ByteArray
structure Ar where
  nm : ByteArray
  v : Va
structure Di where
  sk : Bool
  v : Va
/-- A selection but for its set. -/
structure Hd where
  k : Int
  al : ByteArray
  nm : ByteArray
  args : List Ar
  dirs : List Di
/-- A set: its first selection, that one's own set, and the rest. -/
inductive Sels where
  | nil
  | cons (h : Hd) (sub rest : Sels)
structure De where
  k : Int
  nm : ByteArray
  on : ByteArray
  sels : Sels

namespace Sels
def len : Sels → Nat
  | .nil => 0
  | .cons _ _ rest => rest.len + 1
def size : Sels → Nat
  | .nil => 0
  | .cons _ sub rest => 1 + sub.size + rest.size
def isNil : Sels → Bool
  | .nil => true
  | .cons _ _ _ => false
theorem isNil_len (l : Sels) : l.isNil = decide (l.len = 0) := by cases l <;> simp [isNil, len]
theorem len_le_size : ∀ l : Sels, l.len ≤ l.size
  | .nil => Nat.le_refl _
  | .cons h sub rest => by have := len_le_size rest; simp [len, size]; omega
end Sels





/-- A reader of cells that holds an argument, a directive at a place. -/
def ArAt (rd : Nat → Option Value) (o : Nat) (x : Ar) : Prop := rd o = some (.string x.nm) ∧ rd (o + 1) = some (.int .i64 x.v.k) ∧ rd (o + 2) = some (.int .i64 x.v.n) ∧ rd (o + 3) = some (.string x.v.t)
def DiAt (rd : Nat → Option Value) (o : Nat) (x : Di) : Prop := rd o = some (.bool x.sk) ∧ rd (o + 1) = some (.int .i64 x.v.k) ∧ rd (o + 2) = some (.int .i64 x.v.n) ∧ rd (o + 3) = some (.string x.v.t)
/-- The cells of a block. -/
def rdOf (w : World) (b : Nat) : Nat → Option Value := fun j => w.cell? ⟨b, j, none⟩
/-- A row of elements of some cells each, in a block from lo up and below hi; any place where there is none. -/
def Row {α : Type} (at_ : (Nat → Option Value) → Nat → α → Prop) (z : Nat) (lo hi : Nat) (w : World) (a : Option Addr) (l : List α) : Prop :=
  l = [] ∨ ∃ b o, a = some ⟨b, o, none⟩ ∧ lo ≤ b ∧ b < hi ∧ ∀ i x, l[i]? = some x → at_ (rdOf w b) (o + i * z) x
abbrev ArRow := Row ArAt 4
abbrev DiRow := Row DiAt 4

/-- One selection's cells but the last. -/
def HdAt (lo hi : Nat) (w : World) (rd : Nat → Option Value) (o : Nat) (h : Hd) : Prop :=
  rd o = some (.int .i64 h.k) ∧ rd (o + 1) = some (.string h.al) ∧ rd (o + 2) = some (.string h.nm) ∧
  (∃ a c, rd (o + 3) = some (.slice a h.args.length c) ∧ ArRow lo hi w a h.args) ∧
  (∃ a c, rd (o + 4) = some (.slice a h.dirs.length c) ∧ DiRow lo hi w a h.dirs)

/-- The first k of a set. -/
def SelPre (lo hi : Nat) (w : World) : Sels → (Nat → Option Value) → Nat → Nat → Prop
  | .nil, _, _, _ => True
  | .cons h sub rest, rd, o, k => k = 0 ∨ (HdAt lo hi w rd o h ∧
      (∃ a c, rd (o + 5) = some (.slice a sub.len c) ∧ (sub = .nil ∨ ∃ b o', a = some ⟨b, o', none⟩ ∧ lo ≤ b ∧ b < hi ∧ SelPre lo hi w sub (rdOf w b) o' sub.len)) ∧
      SelPre lo hi w rest rd (o + 6) (k - 1))
def SelRow (lo hi : Nat) (w : World) (a : Option Addr) (l : Sels) : Prop :=
  l = .nil ∨ ∃ b o, a = some ⟨b, o, none⟩ ∧ lo ≤ b ∧ b < hi ∧ SelPre lo hi w l (rdOf w b) o l.len

def DeAt (lo hi : Nat) (w : World) (rd : Nat → Option Value) (o : Nat) (x : De) : Prop :=
  rd o = some (.int .i64 x.k) ∧ rd (o + 1) = some (.string x.nm) ∧ rd (o + 2) = some (.string x.on) ∧
  (∃ a c, rd (o + 3) = some (.slice a x.sels.len c) ∧ SelRow lo hi w a x.sels)
def DeRow (lo hi : Nat) (w : World) (a : Option Addr) (l : List De) : Prop := Row (DeAt lo hi w) 4 lo hi w a l

/-- Two worlds agree on the blocks from lo up and below hi. -/
def Agree (lo hi : Nat) (w w' : World) : Prop := ∀ g, lo ≤ g → g < hi → w'.heap[g]? = w.heap[g]?
theorem Agree.rd {lo hi : Nat} {w w' : World} (h : Agree lo hi w w') {b : Nat} (h1 : lo ≤ b) (h2 : b < hi) : rdOf w' b = rdOf w b := by
  funext j; simp only [rdOf, World.cell?, h b h1 h2]
theorem Below.agree {B : Nat} {w w' : World} (h : Below B w w') {lo hi : Nat} (hh : hi ≤ B) : Agree lo hi w w' := fun g _ h2 => h.block g (by omega)

theorem Row.keep {α : Type} {at_ : (Nat → Option Value) → Nat → α → Prop} {z lo hi : Nat} {w w' : World} {a : Option Addr} {l : List α} (h : Row at_ z lo hi w a l) (hk : Agree lo hi w w') : Row at_ z lo hi w' a l := by
  rcases h with h | ⟨b, o, rfl, h1, h2, h3⟩
  · exact .inl h
  · exact .inr ⟨b, o, rfl, h1, h2, by rw [hk.rd h1 h2]; exact h3⟩
theorem Row.wide {α : Type} {at_ : (Nat → Option Value) → Nat → α → Prop} {z lo hi lo' hi' : Nat} {w : World} {a : Option Addr} {l : List α} (h : Row at_ z lo hi w a l) (h1 : lo' ≤ lo) (h2 : hi ≤ hi') : Row at_ z lo' hi' w a l := by
  rcases h with h | ⟨b, o, rfl, h3, h4, h5⟩
  · exact .inl h
  · exact .inr ⟨b, o, rfl, by omega, by omega, h5⟩
theorem Row.at_ {α : Type} {at_ : (Nat → Option Value) → Nat → α → Prop} {z lo hi : Nat} {w : World} {a : Option Addr} {l : List α} (h : Row at_ z lo hi w a l) (k : Nat) (hk : k < l.length) :
    ∃ b o, a = some ⟨b, o, none⟩ ∧ lo ≤ b ∧ b < hi ∧ at_ (rdOf w b) (o + k * z) l[k] := by
  rcases h with rfl | ⟨b, o, rfl, h1, h2, h3⟩
  · simp at hk
  · exact ⟨b, o, rfl, h1, h2, h3 k l[k] (List.getElem?_eq_getElem hk)⟩
theorem HdAt.keep {lo hi : Nat} {w w' : World} {rd : Nat → Option Value} {o : Nat} {h : Hd} (hh : HdAt lo hi w rd o h) (hk : Agree lo hi w w') : HdAt lo hi w' rd o h := by
  obtain ⟨h0, h1, h2, ⟨a, c, h3, h3'⟩, ⟨a', c', h4, h4'⟩⟩ := hh
  exact ⟨h0, h1, h2, ⟨a, c, h3, h3'.keep hk⟩, ⟨a', c', h4, h4'.keep hk⟩⟩
theorem HdAt.wide {lo hi lo' hi' : Nat} {w : World} {rd : Nat → Option Value} {o : Nat} {h : Hd} (hh : HdAt lo hi w rd o h) (e1 : lo' ≤ lo) (e2 : hi ≤ hi') : HdAt lo' hi' w rd o h := by
  obtain ⟨h0, h1, h2, ⟨a, c, h3, h3'⟩, ⟨a', c', h4, h4'⟩⟩ := hh
  exact ⟨h0, h1, h2, ⟨a, c, h3, h3'.wide e1 e2⟩, ⟨a', c', h4, h4'.wide e1 e2⟩⟩
theorem SelPre.keep {lo hi : Nat} {w w' : World} (hk : Agree lo hi w w') : ∀ {l : Sels} {rd : Nat → Option Value} {o k : Nat}, SelPre lo hi w l rd o k → SelPre lo hi w' l rd o k
  | .nil, _, _, _, _ => trivial
  | .cons h sub rest, rd, o, k, hp => by
    rcases hp with hp | ⟨p1, ⟨a, c, p2, p3⟩, p4⟩
    · exact .inl hp
    · refine .inr ⟨p1.keep hk, ⟨a, c, p2, ?_⟩, SelPre.keep hk p4⟩
      rcases p3 with p3 | ⟨b, o', e, e1, e2, p3⟩
      · exact .inl p3
      · exact .inr ⟨b, o', e, e1, e2, by rw [hk.rd e1 e2]; exact SelPre.keep hk p3⟩
theorem SelPre.wide {lo hi lo' hi' : Nat} {w : World} (e1 : lo' ≤ lo) (e2 : hi ≤ hi') : ∀ {l : Sels} {rd : Nat → Option Value} {o k : Nat}, SelPre lo hi w l rd o k → SelPre lo' hi' w l rd o k
  | .nil, _, _, _, _ => trivial
  | .cons h sub rest, rd, o, k, hp => by
    rcases hp with hp | ⟨p1, ⟨a, c, p2, p3⟩, p4⟩
    · exact .inl hp
    · refine .inr ⟨p1.wide e1 e2, ⟨a, c, p2, ?_⟩, SelPre.wide e1 e2 p4⟩
      rcases p3 with p3 | ⟨b, o', e, f1, f2, p3⟩
      · exact .inl p3
      · exact .inr ⟨b, o', e, by omega, by omega, SelPre.wide e1 e2 p3⟩
theorem SelRow.keep {lo hi : Nat} {w w' : World} {a : Option Addr} {l : Sels} (h : SelRow lo hi w a l) (hk : Agree lo hi w w') : SelRow lo hi w' a l := by
  rcases h with h | ⟨b, o, rfl, h1, h2, h3⟩
  · exact .inl h
  · exact .inr ⟨b, o, rfl, h1, h2, by rw [hk.rd h1 h2]; exact h3.keep hk⟩
theorem SelRow.wide {lo hi lo' hi' : Nat} {w : World} {a : Option Addr} {l : Sels} (h : SelRow lo hi w a l) (e1 : lo' ≤ lo) (e2 : hi ≤ hi') : SelRow lo' hi' w a l := by
  rcases h with h | ⟨b, o, rfl, h1, h2, h3⟩
  · exact .inl h
  · exact .inr ⟨b, o, rfl, by omega, by omega, h3.wide e1 e2⟩
theorem DeAt.keep {lo hi : Nat} {w w' : World} {rd : Nat → Option Value} {o : Nat} {x : De} (hh : DeAt lo hi w rd o x) (hk : Agree lo hi w w') : DeAt lo hi w' rd o x := by
  obtain ⟨h0, h1, h2, ⟨a, c, h3, h3'⟩⟩ := hh
  exact ⟨h0, h1, h2, ⟨a, c, h3, h3'.keep hk⟩⟩
theorem DeAt.wide {lo hi lo' hi' : Nat} {w : World} {rd : Nat → Option Value} {o : Nat} {x : De} (hh : DeAt lo hi w rd o x) (e1 : lo' ≤ lo) (e2 : hi ≤ hi') : DeAt lo' hi' w rd o x := by
  obtain ⟨h0, h1, h2, ⟨a, c, h3, h3'⟩⟩ := hh
  exact ⟨h0, h1, h2, ⟨a, c, h3, h3'.wide e1 e2⟩⟩
theorem DeRow.keep {lo hi : Nat} {w w' : World} {a : Option Addr} {l : List De} (h : DeRow lo hi w a l) (hk : Agree lo hi w w') : DeRow lo hi w' a l := by
  rcases h with h | ⟨b, o, rfl, h1, h2, h3⟩
  · exact .inl h
  · exact .inr ⟨b, o, rfl, h1, h2, fun i x hx => by rw [hk.rd h1 h2]; exact (h3 i x hx).keep hk⟩
theorem DeRow.wide {lo hi lo' hi' : Nat} {w : World} {a : Option Addr} {l : List De} (h : DeRow lo hi w a l) (e1 : lo' ≤ lo) (e2 : hi ≤ hi') : DeRow lo' hi' w a l := by
  rcases h with h | ⟨b, o, rfl, h1, h2, h3⟩
  · exact .inl h
  · exact .inr ⟨b, o, rfl, by omega, by omega, fun i x hx => (h3 i x hx).wide e1 e2⟩
/-- The first of a set and the rest of it. -/
theorem SelPre.head {lo hi : Nat} {w : World} {h : Hd} {sub rest : Sels} {rd : Nat → Option Value} {o : Nat} (hp : SelPre lo hi w (.cons h sub rest) rd o (rest.len + 1)) :
    HdAt lo hi w rd o h ∧ (∃ a c, rd (o + 5) = some (.slice a sub.len c) ∧ SelRow lo hi w a sub) ∧ SelPre lo hi w rest rd (o + 6) rest.len := by
  rcases hp with hp | ⟨p1, p2, p3⟩
  · omega
  · exact ⟨p1, p2, p3⟩
/-- Selections ahead of a set. -/
def app : List (Hd × Sels) → Sels → Sels
  | [], r => r
  | x :: p, r => .cons x.1 x.2 (app p r)
theorem app_snoc : ∀ (p : List (Hd × Sels)) (h : Hd) (sub rest : Sels), app (p ++ [(h, sub)]) rest = app p (.cons h sub rest)
  | [], _, _, _ => rfl
  | x :: p, h, sub, rest => by simp only [List.cons_append, app]; rw [app_snoc p]
theorem app_len : ∀ (p : List (Hd × Sels)) (r : Sels), (app p r).len = p.length + r.len
  | [], r => by simp [app]
  | x :: p, r => by simp only [app, Sels.len, List.length_cons]; rw [app_len p]; omega
/-- The k-th of a set is laid, those ahead of it were: then one more is. -/
theorem SelPre.more {lo hi : Nat} {w : World} {rd : Nat → Option Value} {h : Hd} {sub rest : Sels} : ∀ (pre : List (Hd × Sels)) {o : Nat}, SelPre lo hi w (app pre (.cons h sub rest)) rd o pre.length →
    HdAt lo hi w rd (o + 6 * pre.length) h → (∃ a c, rd (o + 6 * pre.length + 5) = some (.slice a sub.len c) ∧ SelRow lo hi w a sub) → SelPre lo hi w (app pre (.cons h sub rest)) rd o (pre.length + 1)
  | [], o, hp, hh, hs => by
    refine .inr ⟨by simpa using hh, by simpa [SelRow] using hs, ?_⟩
    cases rest with
    | nil => exact trivial
    | cons _ _ _ => exact .inl rfl
  | x :: pre, o, hp, hh, hs => by
    rcases hp with hp | ⟨p1, p2, p3⟩
    · simp at hp
    · refine .inr ⟨p1, p2, ?_⟩
      simp only [List.length_cons] at hh hs ⊢
      exact SelPre.more pre (by simpa using p3) (by rw [show o + 6 + 6 * pre.length = o + 6 * (pre.length + 1) by omega]; exact hh) (by rw [show o + 6 + 6 * pre.length + 5 = o + 6 * (pre.length + 1) + 5 by omega]; exact hs)
/-- Only the cells of the first k count. -/
theorem SelPre.cells {lo hi : Nat} {w : World} {rd rd' : Nat → Option Value} : ∀ {l : Sels} {o k : Nat}, SelPre lo hi w l rd o k → (∀ j, o ≤ j → j < o + 6 * k → rd' j = rd j) → SelPre lo hi w l rd' o k
  | .nil, _, _, _, _ => trivial
  | .cons h sub rest, o, k, hp, hc => by
    rcases hp with hp | ⟨⟨h0, h1, h2, ⟨a1, c1, h3, h3'⟩, ⟨a2, c2, h4, h4'⟩⟩, ⟨a, c, p2, p2'⟩, p3⟩
    · exact .inl hp
    · by_cases hk : k = 0
      · exact .inl hk
      · refine .inr ⟨⟨(hc _ (by omega) (by omega)).trans h0, (hc _ (by omega) (by omega)).trans h1, (hc _ (by omega) (by omega)).trans h2, ⟨a1, c1, (hc _ (by omega) (by omega)).trans h3, h3'⟩, ⟨a2, c2, (hc _ (by omega) (by omega)).trans h4, h4'⟩⟩, ⟨a, c, (hc _ (by omega) (by omega)).trans p2, p2'⟩, ?_⟩
        exact p3.cells fun j hj hj' => hc j (by omega) (by omega)
end Go.Proofs.Ytiehcmdhfeeomaa
