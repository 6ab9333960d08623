/- Values: the Go texts of ValueOK on both sides, and what the law does with a value. -/
import Derived.Test.YtkjndghkimnjeaaGreatNameOK
import Derived.Below
import Derived.Deep.Slices
import Derived.Deep.Strs
import Derived.Lib.SmallJoins
import Derived.Deep.QuietTactic
import Derived.BigQuiet
namespace Go.Proofs.YtkjndghkimnjeaaGreat
open Go.ChangeShapes Go.WideShapes Go.ChangeAt Go.RowKit
set_option linter.unusedVariables false

def intB (n : Int) : Bool := decide (-2147483648 ≤ n ∧ n ≤ 2147483647)
set_option maxHeartbeats 400000 in
theorem spec_isInt (n : Int) (w : World) : Calls Tryz.prog 75 #[.int .i64 n] w fun e w' => e = .returned (.bool (intB n)) ∧ w' = w := by
  go_enter Tryz.func75, Tryz.ntmps75
  go_wp2
  all_goals (go_ret; exact ⟨ret_bool (by unfold intB; rw [Bool.eq_iff_iff]; simp; omega), rfl⟩)
set_option maxHeartbeats 400000 in
theorem impl_isInt (n : Int) (w : World) : Calls Tryz.prog 89 #[.int .i64 n] w fun e w' => e = .returned (.bool (intB n)) ∧ w' = w := by
  go_enter Tryz.func89, Tryz.ntmps89
  go_wp2
  all_goals (go_ret; exact ⟨ret_bool (by unfold intB; rw [Bool.eq_iff_iff]; simp; omega), rfl⟩)
theorem spec_nameOK (s : ByteArray) (w : World) (hs : s.size ≤ maxLen) :
    Calls Tryz.prog 39 #[.string s] w fun e w' => e = .returned (.bool (nameB s)) ∧ w' = w := by
  go_enter Tryz.func39, Tryz.ntmps39
  go_wp2_with fail
  refine (word_any s _ hs).mono ?_
  rintro e w1 ⟨rfl, rfl⟩
  go_wp2_with fail
  go_ret
  exact ⟨rfl, rfl⟩
theorem impl_nameOK (s : ByteArray) (w : World) (hs : s.size ≤ maxLen) :
    Calls Tryz.prog 87 #[.string s] w fun e w' => e = .returned (.bool (nameB s)) ∧ Below w.heap.size w w' := by
  refine (nameOK_any s w hs).mono ?_
  rintro e w1 ⟨rfl, hw⟩
  refine ⟨rfl, ?_⟩
  rcases hw with rfl | ⟨pos, rfl⟩
  · exact Below.refl _ _
  · exact (Below.refl _ _).alloc (Nat.le_refl _) _

theorem bcell {W w1 : World} (hb : Below W.heap.size W w1) : (∀ b o, b < W.heap.size → w1.cell? ⟨b, o, none⟩ = W.cell? ⟨b, o, none⟩) ∧ (∀ b o, b < W.heap.size → w1.frozen? ⟨b, o, none⟩ = W.frozen? ⟨b, o, none⟩) :=
  ⟨fun b o h => hb.cell (p := ⟨b, o, none⟩) h, fun b o h => hb.frozen (p := ⟨b, o, none⟩) h⟩

theorem ret_int {k : IntKind} {a b : Int} (h : a = b) : Ending.returned (.int k a) = .returned (.int k b) := by rw [h]
end Go.Proofs.YtkjndghkimnjeaaGreat
namespace Go.Proofs.YtkjndghkimnjeaaGreat
open Go.ChangeShapes Go.WideShapes Go.ChangeAt Go.RowKit
set_option linter.unusedVariables false

structure Va where
  k : Int
  n : Int
  t : ByteArray
structure Ar where
  nm : ByteArray
  v : Va
structure Di where
  sk : Bool
  v : Va
/-- A selection but for its set. -/
structure Hd where
  k : Int
  al : ByteArray
  nm : ByteArray
  args : List Ar
  dirs : List Di
/-- A set: its first selection, that one's own set, and the rest. -/
inductive Sels where
  | nil
  | cons (h : Hd) (sub rest : Sels)
structure De where
  k : Int
  nm : ByteArray
  on : ByteArray
  sels : Sels

namespace Sels
def len : Sels → Nat
  | .nil => 0
  | .cons _ _ rest => rest.len + 1
def size : Sels → Nat
  | .nil => 0
  | .cons _ sub rest => 1 + sub.size + rest.size
def isNil : Sels → Bool
  | .nil => true
  | .cons _ _ _ => false
theorem isNil_len (l : Sels) : l.isNil = decide (l.len = 0) := by cases l <;> simp [isNil, len]
theorem len_le_size : ∀ l : Sels, l.len ≤ l.size
  | .nil => Nat.le_refl _
  | .cons h sub rest => by have := len_le_size rest; simp [len, size]; omega
end Sels





/-- A reader of cells that holds an argument, a directive at a place. -/
def ArAt (rd : Nat → Option Value) (o : Nat) (x : Ar) : Prop := rd o = some (.string x.nm) ∧ rd (o + 1) = some (.int .i64 x.v.k) ∧ rd (o + 2) = some (.int .i64 x.v.n) ∧ rd (o + 3) = some (.string x.v.t)
def DiAt (rd : Nat → Option Value) (o : Nat) (x : Di) : Prop := rd o = some (.bool x.sk) ∧ rd (o + 1) = some (.int .i64 x.v.k) ∧ rd (o + 2) = some (.int .i64 x.v.n) ∧ rd (o + 3) = some (.string x.v.t)
/-- The cells of a block. -/
def rdOf (w : World) (b : Nat) : Nat → Option Value := fun j => w.cell? ⟨b, j, none⟩
/-- A row of elements of some cells each, in a block from lo up and below hi; any place where there is none. -/
def Row {α : Type} (at_ : (Nat → Option Value) → Nat → α → Prop) (z : Nat) (lo hi : Nat) (w : World) (a : Option Addr) (l : List α) : Prop :=
  l = [] ∨ ∃ b o, a = some ⟨b, o, none⟩ ∧ lo ≤ b ∧ b < hi ∧ ∀ i x, l[i]? = some x → at_ (rdOf w b) (o + i * z) x
abbrev ArRow := Row ArAt 4
abbrev DiRow := Row DiAt 4

/-- One selection's cells but the last. -/
def HdAt (lo hi : Nat) (w : World) (rd : Nat → Option Value) (o : Nat) (h : Hd) : Prop :=
  rd o = some (.int .i64 h.k) ∧ rd (o + 1) = some (.string h.al) ∧ rd (o + 2) = some (.string h.nm) ∧
  (∃ a c, rd (o + 3) = some (.slice a h.args.length c) ∧ h.args.length ≤ c ∧ ArRow lo hi w a h.args) ∧
  (∃ a c, rd (o + 4) = some (.slice a h.dirs.length c) ∧ DiRow lo hi w a h.dirs)

/-- The first k of a set. -/
def SelPre (lo hi : Nat) (w : World) : Sels → (Nat → Option Value) → Nat → Nat → Prop
  | .nil, _, _, _ => True
  | .cons h sub rest, rd, o, k => k = 0 ∨ (HdAt lo hi w rd o h ∧
      (∃ a c, rd (o + 5) = some (.slice a sub.len c) ∧ (sub = .nil ∨ ∃ b o', a = some ⟨b, o', none⟩ ∧ lo ≤ b ∧ b < hi ∧ SelPre lo hi w sub (rdOf w b) o' sub.len)) ∧
      SelPre lo hi w rest rd (o + 6) (k - 1))
def SelRow (lo hi : Nat) (w : World) (a : Option Addr) (l : Sels) : Prop :=
  l = .nil ∨ ∃ b o, a = some ⟨b, o, none⟩ ∧ lo ≤ b ∧ b < hi ∧ SelPre lo hi w l (rdOf w b) o l.len

def DeAt (lo hi : Nat) (w : World) (rd : Nat → Option Value) (o : Nat) (x : De) : Prop :=
  rd o = some (.int .i64 x.k) ∧ rd (o + 1) = some (.string x.nm) ∧ rd (o + 2) = some (.string x.on) ∧
  (∃ a c, rd (o + 3) = some (.slice a x.sels.len c) ∧ SelRow lo hi w a x.sels)
def DeRow (lo hi : Nat) (w : World) (a : Option Addr) (l : List De) : Prop := Row (DeAt lo hi w) 4 lo hi w a l

/-- Two worlds agree on the blocks from lo up and below hi. -/
def Agree (lo hi : Nat) (w w' : World) : Prop := ∀ g, lo ≤ g → g < hi → w'.heap[g]? = w.heap[g]?
theorem Agree.rd {lo hi : Nat} {w w' : World} (h : Agree lo hi w w') {b : Nat} (h1 : lo ≤ b) (h2 : b < hi) : rdOf w' b = rdOf w b := by
  funext j; simp only [rdOf, World.cell?, h b h1 h2]
theorem Below.agree {B : Nat} {w w' : World} (h : Below B w w') {lo hi : Nat} (hh : hi ≤ B) : Agree lo hi w w' := fun g _ h2 => h.block g (by omega)

theorem Row.keep {α : Type} {at_ : (Nat → Option Value) → Nat → α → Prop} {z lo hi : Nat} {w w' : World} {a : Option Addr} {l : List α} (h : Row at_ z lo hi w a l) (hk : Agree lo hi w w') : Row at_ z lo hi w' a l := by
  rcases h with h | ⟨b, o, rfl, h1, h2, h3⟩
  · exact .inl h
  · exact .inr ⟨b, o, rfl, h1, h2, by rw [hk.rd h1 h2]; exact h3⟩
theorem Row.wide {α : Type} {at_ : (Nat → Option Value) → Nat → α → Prop} {z lo hi lo' hi' : Nat} {w : World} {a : Option Addr} {l : List α} (h : Row at_ z lo hi w a l) (h1 : lo' ≤ lo) (h2 : hi ≤ hi') : Row at_ z lo' hi' w a l := by
  rcases h with h | ⟨b, o, rfl, h3, h4, h5⟩
  · exact .inl h
  · exact .inr ⟨b, o, rfl, by omega, by omega, h5⟩
theorem Row.at_ {α : Type} {at_ : (Nat → Option Value) → Nat → α → Prop} {z lo hi : Nat} {w : World} {a : Option Addr} {l : List α} (h : Row at_ z lo hi w a l) (k : Nat) (hk : k < l.length) :
    ∃ b o, a = some ⟨b, o, none⟩ ∧ lo ≤ b ∧ b < hi ∧ at_ (rdOf w b) (o + k * z) l[k] := by
  rcases h with rfl | ⟨b, o, rfl, h1, h2, h3⟩
  · simp at hk
  · exact ⟨b, o, rfl, h1, h2, h3 k l[k] (List.getElem?_eq_getElem hk)⟩
theorem HdAt.keep {lo hi : Nat} {w w' : World} {rd : Nat → Option Value} {o : Nat} {h : Hd} (hh : HdAt lo hi w rd o h) (hk : Agree lo hi w w') : HdAt lo hi w' rd o h := by
  obtain ⟨h0, h1, h2, ⟨a, c, h3, hq, h3'⟩, ⟨a', c', h4, h4'⟩⟩ := hh
  exact ⟨h0, h1, h2, ⟨a, c, h3, hq, h3'.keep hk⟩, ⟨a', c', h4, h4'.keep hk⟩⟩
theorem HdAt.wide {lo hi lo' hi' : Nat} {w : World} {rd : Nat → Option Value} {o : Nat} {h : Hd} (hh : HdAt lo hi w rd o h) (e1 : lo' ≤ lo) (e2 : hi ≤ hi') : HdAt lo' hi' w rd o h := by
  obtain ⟨h0, h1, h2, ⟨a, c, h3, hq, h3'⟩, ⟨a', c', h4, h4'⟩⟩ := hh
  exact ⟨h0, h1, h2, ⟨a, c, h3, hq, h3'.wide e1 e2⟩, ⟨a', c', h4, h4'.wide e1 e2⟩⟩
theorem SelPre.keep {lo hi : Nat} {w w' : World} (hk : Agree lo hi w w') : ∀ {l : Sels} {rd : Nat → Option Value} {o k : Nat}, SelPre lo hi w l rd o k → SelPre lo hi w' l rd o k
  | .nil, _, _, _, _ => trivial
  | .cons h sub rest, rd, o, k, hp => by
    rcases hp with hp | ⟨p1, ⟨a, c, p2, p3⟩, p4⟩
    · exact .inl hp
    · refine .inr ⟨p1.keep hk, ⟨a, c, p2, ?_⟩, SelPre.keep hk p4⟩
      rcases p3 with p3 | ⟨b, o', e, e1, e2, p3⟩
      · exact .inl p3
      · exact .inr ⟨b, o', e, e1, e2, by rw [hk.rd e1 e2]; exact SelPre.keep hk p3⟩
theorem SelPre.wide {lo hi lo' hi' : Nat} {w : World} (e1 : lo' ≤ lo) (e2 : hi ≤ hi') : ∀ {l : Sels} {rd : Nat → Option Value} {o k : Nat}, SelPre lo hi w l rd o k → SelPre lo' hi' w l rd o k
  | .nil, _, _, _, _ => trivial
  | .cons h sub rest, rd, o, k, hp => by
    rcases hp with hp | ⟨p1, ⟨a, c, p2, p3⟩, p4⟩
    · exact .inl hp
    · refine .inr ⟨p1.wide e1 e2, ⟨a, c, p2, ?_⟩, SelPre.wide e1 e2 p4⟩
      rcases p3 with p3 | ⟨b, o', e, f1, f2, p3⟩
      · exact .inl p3
      · exact .inr ⟨b, o', e, by omega, by omega, SelPre.wide e1 e2 p3⟩
theorem SelRow.keep {lo hi : Nat} {w w' : World} {a : Option Addr} {l : Sels} (h : SelRow lo hi w a l) (hk : Agree lo hi w w') : SelRow lo hi w' a l := by
  rcases h with h | ⟨b, o, rfl, h1, h2, h3⟩
  · exact .inl h
  · exact .inr ⟨b, o, rfl, h1, h2, by rw [hk.rd h1 h2]; exact h3.keep hk⟩
theorem SelRow.wide {lo hi lo' hi' : Nat} {w : World} {a : Option Addr} {l : Sels} (h : SelRow lo hi w a l) (e1 : lo' ≤ lo) (e2 : hi ≤ hi') : SelRow lo' hi' w a l := by
  rcases h with h | ⟨b, o, rfl, h1, h2, h3⟩
  · exact .inl h
  · exact .inr ⟨b, o, rfl, by omega, by omega, h3.wide e1 e2⟩
theorem DeAt.keep {lo hi : Nat} {w w' : World} {rd : Nat → Option Value} {o : Nat} {x : De} (hh : DeAt lo hi w rd o x) (hk : Agree lo hi w w') : DeAt lo hi w' rd o x := by
  obtain ⟨h0, h1, h2, ⟨a, c, h3, h3'⟩⟩ := hh
  exact ⟨h0, h1, h2, ⟨a, c, h3, h3'.keep hk⟩⟩
theorem DeAt.wide {lo hi lo' hi' : Nat} {w : World} {rd : Nat → Option Value} {o : Nat} {x : De} (hh : DeAt lo hi w rd o x) (e1 : lo' ≤ lo) (e2 : hi ≤ hi') : DeAt lo' hi' w rd o x := by
  obtain ⟨h0, h1, h2, ⟨a, c, h3, h3'⟩⟩ := hh
  exact ⟨h0, h1, h2, ⟨a, c, h3, h3'.wide e1 e2⟩⟩
theorem DeRow.keep {lo hi : Nat} {w w' : World} {a : Option Addr} {l : List De} (h : DeRow lo hi w a l) (hk : Agree lo hi w w') : DeRow lo hi w' a l := by
  rcases h with h | ⟨b, o, rfl, h1, h2, h3⟩
  · exact .inl h
  · exact .inr ⟨b, o, rfl, h1, h2, fun i x hx => by rw [hk.rd h1 h2]; exact (h3 i x hx).keep hk⟩
theorem DeRow.wide {lo hi lo' hi' : Nat} {w : World} {a : Option Addr} {l : List De} (h : DeRow lo hi w a l) (e1 : lo' ≤ lo) (e2 : hi ≤ hi') : DeRow lo' hi' w a l := by
  rcases h with h | ⟨b, o, rfl, h1, h2, h3⟩
  · exact .inl h
  · exact .inr ⟨b, o, rfl, by omega, by omega, fun i x hx => (h3 i x hx).wide e1 e2⟩
/-- The first of a set and the rest of it. -/
theorem SelPre.head {lo hi : Nat} {w : World} {h : Hd} {sub rest : Sels} {rd : Nat → Option Value} {o : Nat} (hp : SelPre lo hi w (.cons h sub rest) rd o (rest.len + 1)) :
    HdAt lo hi w rd o h ∧ (∃ a c, rd (o + 5) = some (.slice a sub.len c) ∧ SelRow lo hi w a sub) ∧ SelPre lo hi w rest rd (o + 6) rest.len := by
  rcases hp with hp | ⟨p1, p2, p3⟩
  · omega
  · exact ⟨p1, p2, p3⟩
/-- Selections ahead of a set. -/
def app : List (Hd × Sels) → Sels → Sels
  | [], r => r
  | x :: p, r => .cons x.1 x.2 (app p r)
theorem app_snoc : ∀ (p : List (Hd × Sels)) (h : Hd) (sub rest : Sels), app (p ++ [(h, sub)]) rest = app p (.cons h sub rest)
  | [], _, _, _ => rfl
  | x :: p, h, sub, rest => by simp only [List.cons_append, app]; rw [app_snoc p]
theorem app_len : ∀ (p : List (Hd × Sels)) (r : Sels), (app p r).len = p.length + r.len
  | [], r => by simp [app]
  | x :: p, r => by simp only [app, Sels.len, List.length_cons]; rw [app_len p]; omega
/-- The k-th of a set is laid, those ahead of it were: then one more is. -/
theorem SelPre.more {lo hi : Nat} {w : World} {rd : Nat → Option Value} {h : Hd} {sub rest : Sels} : ∀ (pre : List (Hd × Sels)) {o : Nat}, SelPre lo hi w (app pre (.cons h sub rest)) rd o pre.length →
    HdAt lo hi w rd (o + 6 * pre.length) h → (∃ a c, rd (o + 6 * pre.length + 5) = some (.slice a sub.len c) ∧ SelRow lo hi w a sub) → SelPre lo hi w (app pre (.cons h sub rest)) rd o (pre.length + 1)
  | [], o, hp, hh, hs => by
    refine .inr ⟨by simpa using hh, by simpa [SelRow] using hs, ?_⟩
    cases rest with
    | nil => exact trivial
    | cons _ _ _ => exact .inl rfl
  | x :: pre, o, hp, hh, hs => by
    rcases hp with hp | ⟨p1, p2, p3⟩
    · simp at hp
    · refine .inr ⟨p1, p2, ?_⟩
      simp only [List.length_cons] at hh hs ⊢
      exact SelPre.more pre (by simpa using p3) (by rw [show o + 6 + 6 * pre.length = o + 6 * (pre.length + 1) by omega]; exact hh) (by rw [show o + 6 + 6 * pre.length + 5 = o + 6 * (pre.length + 1) + 5 by omega]; exact hs)
/-- Only the cells of the first k count. -/
theorem SelPre.cells {lo hi : Nat} {w : World} {rd rd' : Nat → Option Value} : ∀ {l : Sels} {o k : Nat}, SelPre lo hi w l rd o k → (∀ j, o ≤ j → j < o + 6 * k → rd' j = rd j) → SelPre lo hi w l rd' o k
  | .nil, _, _, _, _ => trivial
  | .cons h sub rest, o, k, hp, hc => by
    rcases hp with hp | ⟨⟨h0, h1, h2, ⟨a1, c1, h3, hq, h3'⟩, ⟨a2, c2, h4, h4'⟩⟩, ⟨a, c, p2, p2'⟩, p3⟩
    · exact .inl hp
    · by_cases hk : k = 0
      · exact .inl hk
      · refine .inr ⟨⟨(hc _ (by omega) (by omega)).trans h0, (hc _ (by omega) (by omega)).trans h1, (hc _ (by omega) (by omega)).trans h2, ⟨a1, c1, (hc _ (by omega) (by omega)).trans h3, hq, h3'⟩, ⟨a2, c2, (hc _ (by omega) (by omega)).trans h4, h4'⟩⟩, ⟨a, c, (hc _ (by omega) (by omega)).trans p2, p2'⟩, ?_⟩
        exact p3.cells fun j hj hj' => hc j (by omega) (by omega)
end Go.Proofs.YtkjndghkimnjeaaGreat
namespace Go.Proofs.YtkjndghkimnjeaaGreat
open Go.ChangeShapes Go.WideShapes Go.ChangeAt Go.RowKit
set_option linter.unusedVariables false

def VaBd (m : Nat) (v : Va) : Prop := v.t.size ≤ m
def ArBd (m : Nat) (x : Ar) : Prop := x.nm.size ≤ m ∧ x.v.t.size ≤ m
def DiBd (m : Nat) (x : Di) : Prop := x.v.t.size ≤ m
def HdBd (m : Nat) (h : Hd) : Prop := h.al.size ≤ m ∧ h.nm.size ≤ m ∧ h.args.length ≤ m ∧ (∀ x ∈ h.args, ArBd m x) ∧ h.dirs.length ≤ m ∧ ∀ x ∈ h.dirs, DiBd m x
def SelsBd (m : Nat) : Sels → Prop
  | .nil => True
  | .cons h sub rest => HdBd m h ∧ sub.len ≤ m ∧ SelsBd m sub ∧ SelsBd m rest
def DeBd (m : Nat) (x : De) : Prop := x.nm.size ≤ m ∧ x.on.size ≤ m ∧ x.sels.len ≤ m ∧ SelsBd m x.sels
def DefsBd (m : Nat) (l : List De) : Prop := l.length ≤ m ∧ ∀ x ∈ l, DeBd m x

theorem cell_lt {W : World} {a : Addr} {v : Value} (h : W.cell? a = some v) : a.block < W.heap.size := by
  refine Nat.lt_of_not_le fun hle => ?_
  simp [World.cell?, Array.getElem?_eq_none hle] at h
theorem list_of {α : Type} {len : Nat} {p : Nat → α → Prop} (h : ∀ i, i < len → ∃ x, p i x) : ∃ l : List α, l.length = len ∧ ∀ i x, l[i]? = some x → p i x := by
  induction len with
  | zero => exact ⟨[], rfl, by simp⟩
  | succ n ih =>
    obtain ⟨l, hl, hp⟩ := ih fun i hi => h i (by omega)
    obtain ⟨y, hy⟩ := h n (by omega)
    refine ⟨l ++ [y], by simp [hl], fun i x hx => ?_⟩
    by_cases hi : i < n
    · rw [List.getElem?_append_left (by omega)] at hx; exact hp i x hx
    · rw [List.getElem?_append_right (by omega)] at hx
      have : i - l.length < 1 := by have := (List.getElem?_eq_some_iff.1 hx).1; simpa using this
      obtain rfl : i = n := by omega
      rw [hl, Nat.sub_self] at hx
      simp at hx; subst hx; exact hy

theorem list3 {α : Type} {l : List α} (h : l.length = 3) : ∃ a b c, l = [a, b, c] := by
  match l, h with
  | [a, b, c], _ => exact ⟨a, b, c, rfl⟩
theorem list4 {α : Type} {l : List α} (h : l.length = 4) : ∃ a b c d, l = [a, b, c, d] := by
  match l, h with
  | [a, b, c, d], _ => exact ⟨a, b, c, d, rfl⟩
theorem list6 {α : Type} {l : List α} (h : l.length = 6) : ∃ a b c d e f, l = [a, b, c, d, e, f] := by
  match l, h with
  | [a, b, c, d, e, f], _ => exact ⟨a, b, c, d, e, f, rfl⟩

section
variable {H : Type} {enc : TypeId × Value → H} {W : World}
/-- A slice's cell opened: its elements' cells, each with its own reading. -/
theorem sl_open {t e : TypeId} {z : Nat} {fuel : Nat} {cs : List Value} {x : DataW H × List MemPlace} (ht : Tryz.prog.underlying t = some (.slice e)) (hz : Tryz.prog.cellsOf e = z) (hz0 : 0 < z) (h : DataW.trod enc Tryz.prog W 0 (fun _ => true) true fuel t cs = some x) :
    ∃ a len cap, cs = [.slice a len cap] ∧ len ≤ cap ∧ len ≤ maxLen ∧ (len = 0 ∨ ∃ n b o, fuel = n + 1 ∧ a = some ⟨b, o, none⟩ ∧ b < W.heap.size ∧
      ∀ i, i < len → ∃ cs' y, cs'.length = z ∧ (∀ j, j < z → rdOf W b (o + i * z + j) = cs'[j]?) ∧ DataW.trod enc Tryz.prog W 0 (fun _ => true) true n e cs' = some y) := by
  rcases DataW.trod_slice ht h with ⟨rfl, _⟩ | ⟨a, len, cap, elems, rest, n, rfl, rfl, _, hb, hl, hm, hlen, hel, _, _⟩
  · exact ⟨none, 0, 0, rfl, Nat.le_refl _, Nat.zero_le _, .inl rfl⟩
  · refine ⟨some a, len, cap, rfl, hl, by omega, ?_⟩
    by_cases h0 : len = 0
    · exact .inl h0
    rw [hz] at hel
    have key : ∀ i, i < len → ∃ cs' y, cs'.length = z ∧ (∀ j, j < z → W.cell? ((a.add (i * z)).add j) = cs'[j]?) ∧ DataW.trod enc Tryz.prog W 0 (fun _ => true) true n e cs' = some y := by
      intro i hi
      have := hel i hi
      rw [List.getElem?_eq_getElem (by omega), Option.bind_eq_some_iff] at this
      obtain ⟨cs', h1, h2⟩ := this
      obtain ⟨_, hcl, hc⟩ := World.cells?_some h1
      exact ⟨cs', _, hcl, hc, h2⟩
    obtain ⟨b, o, spot⟩ := a
    obtain ⟨cs', y, hcl, hc, _⟩ := key 0 (by omega)
    have hc0 := hc 0 hz0
    rw [List.getElem?_eq_getElem (by omega)] at hc0
    have hspot : spot = none := by
      have := World.cell?_spot hc0
      simpa [Addr.add] using this
    subst hspot
    refine .inr ⟨n, b, o, rfl, rfl, (by have := cell_lt hc0; simpa [Addr.add] using this), fun i hi => ?_⟩
    obtain ⟨cs', y, hcl, hc, hd⟩ := key i hi
    refine ⟨cs', y, hcl, fun j hj => ?_, hd⟩
    have := hc j hj
    simp only [add_plain] at this
    exact this

theorem va_cells {n : Nat} {cs : List Value} {x : DataW H × List MemPlace} (h : DataW.trod enc Tryz.prog W 0 (fun _ => true) true n 51 cs = some x) : ∃ v : Va, cs = [.int .i64 v.k, .int .i64 v.n, .string v.t] ∧ VaBd maxLen v := by
  have ci : Tryz.prog.cellsOf 3 = 1 := by kernel_rfl
  have cst : Tryz.prog.cellsOf 9 = 1 := by kernel_rfl
  have cv : Tryz.prog.cellsOf 51 = 3 := by kernel_rfl
  obtain ⟨y0, y1, y2, m, _, hlen, h0, h1, h2⟩ := Deep.trod_struct3 Tryz.underlying51 h
  rw [cv] at hlen
  obtain ⟨v0, v1, v2, rfl⟩ := list3 hlen
  obtain ⟨k, e0, _, _⟩ := DataW.trod_int Tryz.underlying3 h0
  obtain ⟨j, e1, _, _⟩ := DataW.trod_int Tryz.underlying3 h1
  obtain ⟨s, e2, _, hs⟩ := DataW.trod_string Tryz.underlying9 h2
  simp [ci, cst] at e0 e1 e2
  subst e0 e1 e2
  exact ⟨⟨k, j, s⟩, rfl, hs⟩
theorem ar_cells {n : Nat} {cs : List Value} {x : DataW H × List MemPlace} (h : DataW.trod enc Tryz.prog W 0 (fun _ => true) true n 209 cs = some x) : ∃ v : Ar, cs = [.string v.nm, .int .i64 v.v.k, .int .i64 v.v.n, .string v.v.t] ∧ ArBd maxLen v := by
  have cst : Tryz.prog.cellsOf 9 = 1 := by kernel_rfl
  have cv : Tryz.prog.cellsOf 51 = 3 := by kernel_rfl
  have ca : Tryz.prog.cellsOf 209 = 4 := by kernel_rfl
  obtain ⟨y0, y1, m, _, hlen, h0, h1⟩ := trod_struct2 Tryz.underlying209 h
  rw [ca] at hlen
  obtain ⟨v0, v1, v2, v3, rfl⟩ := list4 hlen
  obtain ⟨s, e0, _, hs⟩ := DataW.trod_string Tryz.underlying9 h0
  obtain ⟨v, e1, hv⟩ := va_cells h1
  simp [cst, cv] at e0 e1
  obtain ⟨rfl, rfl, rfl⟩ := e1
  subst e0
  exact ⟨⟨s, v⟩, rfl, hs, hv⟩
theorem di_cells {n : Nat} {cs : List Value} {x : DataW H × List MemPlace} (h : DataW.trod enc Tryz.prog W 0 (fun _ => true) true n 212 cs = some x) : ∃ v : Di, cs = [.bool v.sk, .int .i64 v.v.k, .int .i64 v.v.n, .string v.v.t] ∧ DiBd maxLen v := by
  have cb : Tryz.prog.cellsOf 4 = 1 := by kernel_rfl
  have cv : Tryz.prog.cellsOf 51 = 3 := by kernel_rfl
  have ca : Tryz.prog.cellsOf 212 = 4 := by kernel_rfl
  obtain ⟨y0, y1, m, _, hlen, h0, h1⟩ := trod_struct2 Tryz.underlying212 h
  rw [ca] at hlen
  obtain ⟨v0, v1, v2, v3, rfl⟩ := list4 hlen
  obtain ⟨s, e0, _⟩ := DataW.trod_bool Tryz.underlying4 h0
  obtain ⟨v, e1, hv⟩ := va_cells h1
  simp [cb, cv] at e0 e1
  obtain ⟨rfl, rfl, rfl⟩ := e1
  subst e0
  exact ⟨⟨s, v⟩, rfl, hv⟩
theorem args_open {fuel : Nat} {cs : List Value} {x : DataW H × List MemPlace} (h : DataW.trod enc Tryz.prog W 0 (fun _ => true) true fuel 163 cs = some x) :
    ∃ a c, ∃ l : List Ar, cs = [.slice a l.length c] ∧ l.length ≤ maxLen ∧ (∀ x ∈ l, ArBd maxLen x) ∧ ArRow 0 W.heap.size W a l ∧ l.length ≤ c := by
  obtain ⟨a, len, cap, rfl, hcap, hm, hr⟩ := sl_open Tryz.underlying163 (z := 4) (by kernel_rfl) (by omega) h
  rcases hr with rfl | ⟨n, b, o, rfl, rfl, hb, hx⟩
  · exact ⟨a, cap, [], rfl, Nat.zero_le _, by simp, .inl rfl, Nat.zero_le _⟩
  · obtain ⟨l, hl, hp⟩ := list_of (p := fun i x => ArAt (rdOf W b) (o + i * 4) x ∧ ArBd maxLen x) (fun i hi => by
      obtain ⟨cs', y, hcl, hc, hd⟩ := hx i hi
      obtain ⟨v, rfl, hv⟩ := ar_cells hd
      exact ⟨v, ⟨hc 0 (by omega), hc 1 (by omega), hc 2 (by omega), hc 3 (by omega)⟩, hv⟩)
    subst hl
    refine ⟨_, cap, l, rfl, hm, fun x hx => ?_, .inr ⟨b, o, rfl, Nat.zero_le _, hb, fun i x hx => (hp i x hx).1⟩, hcap⟩
    obtain ⟨i, hi, rfl⟩ := List.getElem_of_mem hx
    exact (hp i _ (List.getElem?_eq_getElem hi)).2
theorem dirs_open {fuel : Nat} {cs : List Value} {x : DataW H × List MemPlace} (h : DataW.trod enc Tryz.prog W 0 (fun _ => true) true fuel 164 cs = some x) :
    ∃ a c, ∃ l : List Di, cs = [.slice a l.length c] ∧ l.length ≤ maxLen ∧ (∀ x ∈ l, DiBd maxLen x) ∧ DiRow 0 W.heap.size W a l := by
  obtain ⟨a, len, cap, rfl, hcap, hm, hr⟩ := sl_open Tryz.underlying164 (z := 4) (by kernel_rfl) (by omega) h
  rcases hr with rfl | ⟨n, b, o, rfl, rfl, hb, hx⟩
  · exact ⟨a, cap, [], rfl, Nat.zero_le _, by simp, .inl rfl⟩
  · obtain ⟨l, hl, hp⟩ := list_of (p := fun i x => DiAt (rdOf W b) (o + i * 4) x ∧ DiBd maxLen x) (fun i hi => by
      obtain ⟨cs', y, hcl, hc, hd⟩ := hx i hi
      obtain ⟨v, rfl, hv⟩ := di_cells hd
      exact ⟨v, ⟨hc 0 (by omega), hc 1 (by omega), hc 2 (by omega), hc 3 (by omega)⟩, hv⟩)
    subst hl
    refine ⟨_, cap, l, rfl, hm, fun x hx => ?_, .inr ⟨b, o, rfl, Nat.zero_le _, hb, fun i x hx => (hp i x hx).1⟩⟩
    obtain ⟨i, hi, rfl⟩ := List.getElem_of_mem hx
    exact (hp i _ (List.getElem?_eq_getElem hi)).2

/-- Selections by index are a set. -/
theorem sels_of {lo hi : Nat} {w : World} {rd : Nat → Option Value} {m : Nat} : ∀ {l : List (Hd × Sels)} {o : Nat}, (∀ i x, l[i]? = some x → HdAt lo hi w rd (o + i * 6) x.1 ∧ (∃ a c, rd (o + i * 6 + 5) = some (.slice a x.2.len c) ∧ SelRow lo hi w a x.2) ∧ HdBd m x.1 ∧ x.2.len ≤ m ∧ SelsBd m x.2) →
    SelPre lo hi w (app l .nil) rd o l.length ∧ SelsBd m (app l .nil)
  | [], _, _ => ⟨trivial, trivial⟩
  | x :: l, o, h => by
    obtain ⟨h1, h2, h3, h4, h5⟩ := h 0 x rfl
    have := sels_of (l := l) (o := o + 6) (fun i y hy => by
      have := h (i + 1) y (by simpa using hy)
      rw [show o + (i + 1) * 6 = o + 6 + i * 6 by omega] at this
      exact this)
    simp only [Nat.zero_mul, Nat.add_zero] at h1 h2
    exact ⟨.inr ⟨h1, h2, this.1⟩, h3, h4, h5, this.2⟩
theorem sels_open : ∀ {fuel : Nat} {cs : List Value} {x : DataW H × List MemPlace}, DataW.trod enc Tryz.prog W 0 (fun _ => true) true fuel 71 cs = some x →
    ∃ a c, ∃ l : Sels, cs = [.slice a l.len c] ∧ l.len ≤ maxLen ∧ SelsBd maxLen l ∧ SelRow 0 W.heap.size W a l := by
  intro fuel
  induction fuel using Nat.strongRecOn with
  | _ fuel ih =>
  intro cs x h
  have ci : Tryz.prog.cellsOf 3 = 1 := by kernel_rfl
  have cst : Tryz.prog.cellsOf 9 = 1 := by kernel_rfl
  have cs1 : Tryz.prog.cellsOf 163 = 1 := by kernel_rfl
  have cs2 : Tryz.prog.cellsOf 164 = 1 := by kernel_rfl
  have cs3 : Tryz.prog.cellsOf 71 = 1 := by kernel_rfl
  obtain ⟨a, len, cap, rfl, hcap, hm, hr⟩ := sl_open Tryz.underlying71 (z := 6) (by kernel_rfl) (by omega) h
  rcases hr with rfl | ⟨n, b, o, rfl, rfl, hb, hx⟩
  · exact ⟨a, cap, .nil, rfl, Nat.zero_le _, trivial, .inl rfl⟩
  · obtain ⟨l, hl, hp⟩ := list_of (p := fun i (x : Hd × Sels) => HdAt 0 W.heap.size W (rdOf W b) (o + i * 6) x.1 ∧ (∃ a c, rdOf W b (o + i * 6 + 5) = some (.slice a x.2.len c) ∧ SelRow 0 W.heap.size W a x.2) ∧ HdBd maxLen x.1 ∧ x.2.len ≤ maxLen ∧ SelsBd maxLen x.2) (fun i hi => by
      obtain ⟨cs', y, hcl, hc, hd⟩ := hx i hi
      obtain ⟨xs, n', rfl, rfl, _, hxl, hf⟩ := DataW.trod_struct Tryz.underlying166 hd
      obtain ⟨v0, v1, v2, v3, v4, v5, rfl⟩ := list6 hcl
      obtain ⟨y0, y1, y2, y3, y4, y5, rfl⟩ := list6 hxl
      obtain ⟨k, e0, _, _⟩ := DataW.trod_int Tryz.underlying3 (hf 0 _ rfl)
      obtain ⟨al, e1, _, hal⟩ := DataW.trod_string Tryz.underlying9 (hf 1 _ rfl)
      obtain ⟨nm, e2, _, hnm⟩ := DataW.trod_string Tryz.underlying9 (hf 2 _ rfl)
      obtain ⟨a3, c3, args, e3, b3, d3, r3, q3⟩ := args_open (hf 3 _ rfl)
      obtain ⟨a4, c4, dirs, e4, b4, d4, r4⟩ := dirs_open (hf 4 _ rfl)
      obtain ⟨a5, c5, sub, e5, b5, d5, r5⟩ := ih n' (by omega) (hf 5 _ rfl)
      simp [ci, cst, cs1, cs2, cs3] at e0 e1 e2 e3 e4 e5
      subst e0 e1 e2 e3 e4 e5
      exact ⟨(⟨k, al, nm, args, dirs⟩, sub), ⟨hc 0 (by omega), hc 1 (by omega), hc 2 (by omega), ⟨a3, c3, hc 3 (by omega), q3, r3⟩, ⟨a4, c4, hc 4 (by omega), r4⟩⟩, ⟨a5, c5, hc 5 (by omega), r5⟩, ⟨hal, hnm, b3, d3, b4, d4⟩, b5, d5⟩)
    obtain ⟨q1, q2⟩ := sels_of hp
    have hal : (app l .nil).len = len := by rw [app_len, hl]; rfl
    refine ⟨_, cap, app l .nil, by rw [hal], by omega, q2, .inr ⟨b, o, rfl, Nat.zero_le _, hb, ?_⟩⟩
    rw [hal, ← hl]; exact q1
theorem defs_open {fuel : Nat} {cs : List Value} {x : DataW H × List MemPlace} (h : DataW.trod enc Tryz.prog W 0 (fun _ => true) true fuel 22 cs = some x) :
    ∃ a c, ∃ l : List De, cs = [.slice a l.length c] ∧ DefsBd maxLen l ∧ DeRow 0 W.heap.size W a l := by
  have ci : Tryz.prog.cellsOf 3 = 1 := by kernel_rfl
  have cst : Tryz.prog.cellsOf 9 = 1 := by kernel_rfl
  have cs3 : Tryz.prog.cellsOf 71 = 1 := by kernel_rfl
  obtain ⟨a, len, cap, rfl, hcap, hm, hr⟩ := sl_open Tryz.underlying22 (z := 4) (by kernel_rfl) (by omega) h
  rcases hr with rfl | ⟨n, b, o, rfl, rfl, hb, hx⟩
  · exact ⟨a, cap, [], rfl, ⟨Nat.zero_le _, by simp⟩, .inl rfl⟩
  · obtain ⟨l, hl, hp⟩ := list_of (p := fun i x => DeAt 0 W.heap.size W (rdOf W b) (o + i * 4) x ∧ DeBd maxLen x) (fun i hi => by
      obtain ⟨cs', y, hcl, hc, hd⟩ := hx i hi
      obtain ⟨xs, n', rfl, rfl, _, hxl, hf⟩ := DataW.trod_struct Tryz.underlying73 hd
      obtain ⟨v0, v1, v2, v3, rfl⟩ := list4 hcl
      obtain ⟨y0, y1, y2, y3, rfl⟩ := list4 hxl
      obtain ⟨k, e0, _, _⟩ := DataW.trod_int Tryz.underlying3 (hf 0 _ rfl)
      obtain ⟨nm, e1, _, hnm⟩ := DataW.trod_string Tryz.underlying9 (hf 1 _ rfl)
      obtain ⟨on, e2, _, hon⟩ := DataW.trod_string Tryz.underlying9 (hf 2 _ rfl)
      obtain ⟨a5, c5, sub, e5, b5, d5, r5⟩ := sels_open (hf 3 _ rfl)
      simp [ci, cst, cs3] at e0 e1 e2 e5
      subst e0 e1 e2 e5
      exact ⟨⟨k, nm, on, sub⟩, ⟨hc 0 (by omega), hc 1 (by omega), hc 2 (by omega), ⟨a5, c5, hc 3 (by omega), r5⟩⟩, hnm, hon, b5, d5⟩)
    subst hl
    refine ⟨_, cap, l, rfl, ⟨hm, fun x hx => ?_⟩, .inr ⟨b, o, rfl, Nat.zero_le _, hb, fun i x hx => (hp i x hx).1⟩⟩
    obtain ⟨i, hi, rfl⟩ := List.getElem_of_mem hx
    exact (hp i _ (List.getElem?_eq_getElem hi)).2
end
end Go.Proofs.YtkjndghkimnjeaaGreat
namespace Go.Proofs.YtkjndghkimnjeaaGreat
open Go.ChangeShapes Go.WideShapes Go.ChangeAt Go.RowKit
set_option linter.unusedVariables false

def noB (s : ByteArray) : Bool := s.toList.isEmpty
def onB (s : ByteArray) : Bool := s.toList == [111, 110]
def valB (v : Va) : Bool :=
  if v.k = 1 then intB v.n && noB v.t
  else if v.k = 2 then (v.n == 0 || v.n == 1) && noB v.t
  else if v.k = 3 then (v.n == 0) && noB v.t
  else if v.k = 4 then (v.n == 0) && nameB v.t
  else false
def arB (x : Ar) : Bool := nameB x.nm && valB x.v
def diB (x : Di) : Bool := valB x.v
def argsB (l : List Ar) : Bool := decide (l.length ≤ 4) && l.all arB
def dirsB (l : List Di) : Bool := decide (l.length ≤ 4) && l.all diB
def kindB (h : Hd) (z : Bool) : Bool :=
  if h.k = 1 then nameB h.nm && (noB h.al || nameB h.al)
  else if h.k = 2 then nameB h.nm && !onB h.nm && noB h.al && h.args.isEmpty && z
  else if h.k = 3 then (noB h.nm || nameB h.nm) && noB h.al && h.args.isEmpty && !z
  else false
def hdB (h : Hd) (z : Bool) : Bool := argsB h.args && dirsB h.dirs && kindB h z
def okS : Nat → Sels → Bool
  | _, .nil => true
  | d, .cons h sub rest => decide (0 < d) && hdB h sub.isNil && okS (d - 1) sub && okS d rest
def headB (x : De) : Bool :=
  if x.k = 1 ∨ x.k = 2 then (noB x.nm || nameB x.nm) && noB x.on
  else if x.k = 3 then nameB x.nm && !onB x.nm && nameB x.on
  else false
def defB (x : De) : Bool := headB x && !x.sels.isNil && okS 7 x.sels
def sizeL : List De → Nat
  | [] => 0
  | x :: l => x.sels.size + sizeL l
def docB (l : List De) : Bool := decide (1 ≤ l.length) && decide (l.length ≤ 6) && l.all defB && decide (sizeL l ≤ 60)
namespace Sels
def depth : Sels → Nat
  | .nil => 0
  | .cons _ sub rest => max (1 + sub.depth) rest.depth
theorem depth_le : ∀ {d : Nat} {l : Sels}, okS d l = true → l.depth ≤ d
  | _, .nil, _ => Nat.zero_le _
  | d, .cons h sub rest, hk => by
    simp only [okS, Bool.and_eq_true, decide_eq_true_eq] at hk
    have h1 := depth_le hk.1.2
    have h2 := depth_le hk.2
    simp only [depth]; omega
end Sels
def depthL : List De → Nat
  | [] => 0
  | x :: l => max x.sels.depth (depthL l)
theorem sizeL_append (a b : List De) : sizeL (a ++ b) = sizeL a + sizeL b := by
  induction a with
  | nil => simp [sizeL]
  | cons x a ih => simp only [List.cons_append, sizeL, ih]; omega
theorem sizeL_take {l : List De} {k : Nat} (hk : k < l.length) : sizeL (l.take (k + 1)) = sizeL (l.take k) + l[k].sels.size := by
  rw [List.take_succ_eq_append_getElem hk, sizeL_append]; simp [sizeL]
theorem sizeL_le (l : List De) (k : Nat) : sizeL (l.take k) ≤ sizeL l := by
  have : sizeL l = sizeL (l.take k) + sizeL (l.drop k) := by rw [← sizeL_append, List.take_append_drop]
  omega
end Go.Proofs.YtkjndghkimnjeaaGreat
namespace Go.Proofs.YtkjndghkimnjeaaGreat
open Go.ChangeShapes Go.WideShapes Go.ChangeAt Go.RowKit
set_option linter.unusedVariables false

def inB (n a b : Int) : Bool := decide (a ≤ n ∧ n ≤ b)
set_option maxHeartbeats 400000 in
theorem spec_in (n a b : Int) (w : World) : Calls Tryz.prog 37 #[.int .i64 n, .int .i64 a, .int .i64 b] w fun e w' => e = .returned (.bool (inB n a b)) ∧ w' = w := by
  go_enter Tryz.func37, Tryz.ntmps37
  go_wp2
  all_goals (go_ret; exact ⟨ret_bool (by unfold inB; rw [Bool.eq_iff_iff]; simp; omega), rfl⟩)

theorem no_of {s : ByteArray} (h : s.toList = []) : noB s = true := by unfold noB; rw [h]; rfl
theorem no_not {s : ByteArray} (h : ¬ s.toList = []) : noB s = false := by unfold noB; cases hs : s.toList with | nil => exact absurd hs h | cons a l => rfl

set_option maxHeartbeats 1000000 in
theorem spec_val (v : Va) (w : World) (hs : v.t.size ≤ maxLen) :
    Calls Tryz.prog 40 #[.agg #[.int .i64 v.k, .int .i64 v.n, .string v.t]] w fun e w' => e = .returned (.bool (valB v)) ∧ Below w.heap.size w w' := by
  obtain ⟨k, n, s⟩ := v
  simp only at hs ⊢
  have k0 : (s.toList == []) = noB s := by unfold noB; cases s.toList <;> rfl
  have aB : Below w.heap.size w (w.alloc (.cells #[.int .i64 k, .int .i64 n, .string s] 62)) := (Below.refl _ _).alloc (Nat.le_refl _) _
  by_cases h1 : k = 1
  · have H : Hid (valB ⟨k, n, s⟩ = (intB n && noB s)) := by unfold Hid valB; rw [if_pos h1]
    subst h1
    cases hb : intB n
    all_goals
      go_enter Tryz.func40, Tryz.ntmps40
      go_wp2_with (go_at_call 75; refine (spec_isInt _ _).mono ?_; rintro e w1 ⟨rfl, rfl⟩)
      go_ret
      exact ⟨ret_bool (by rw [H.out, hb]; simp), aB⟩
  have g1 : (k == 1) = false := by rw [beq_eq_false_iff_ne]; omega
  by_cases h2 : k = 2
  · have H : Hid (valB ⟨k, n, s⟩ = ((n == 0 || n == 1) && noB s)) := by unfold Hid valB; rw [if_neg h1, if_pos h2]
    subst h2
    clear g1 h1
    have hin : inB n 0 1 = (n == 0 || n == 1) := by unfold inB; rw [Bool.eq_iff_iff]; simp; omega
    cases hb : (n == 0 || n == 1)
    all_goals
      rw [hb] at hin
      go_enter Tryz.func40, Tryz.ntmps40
      go_wp2_with (go_at_call 37; refine (spec_in _ _ _ _).mono ?_; rw [hin]; rintro e w1 ⟨rfl, rfl⟩)
      go_ret
      exact ⟨ret_bool (by rw [H.out, hb]; simp), aB⟩
  have g2 : (k == 2) = false := by rw [beq_eq_false_iff_ne]; omega
  by_cases h3 : k = 3
  · have H : Hid (valB ⟨k, n, s⟩ = ((n == 0) && noB s)) := by unfold Hid valB; rw [if_neg h1, if_neg h2, if_pos h3]
    subst h3
    clear g1 h1 g2 h2
    cases hb : (n == 0)
    all_goals
      go_enter Tryz.func40, Tryz.ntmps40
      go_wp2_with fail
      go_ret
      exact ⟨ret_bool (by rw [H.out, hb]; simp), aB⟩
  have g3 : (k == 3) = false := by rw [beq_eq_false_iff_ne]; omega
  by_cases h4 : k = 4
  · have H : Hid (valB ⟨k, n, s⟩ = ((n == 0) && nameB s)) := by unfold Hid valB; rw [if_neg h1, if_neg h2, if_neg h3, if_pos h4]
    subst h4
    clear g1 h1 g2 h2 g3 h3
    cases hb : (n == 0)
    all_goals
      go_enter Tryz.func40, Tryz.ntmps40
      go_wp2_with (go_at_call 39; refine (spec_nameOK _ _ hs).mono ?_; rintro e w1 ⟨rfl, rfl⟩)
      go_ret
      exact ⟨ret_bool (by rw [H.out, hb]; simp), aB⟩
  have g4 : (k == 4) = false := by rw [beq_eq_false_iff_ne]; omega
  have H2 : Hid (false = valB ⟨k, n, s⟩) := by unfold Hid valB; rw [if_neg h1, if_neg h2, if_neg h3, if_neg h4]
  clear h1 h2 h3 h4
  go_enter Tryz.func40, Tryz.ntmps40
  go_wp2_with fail
  go_ret
  exact ⟨ret_bool H2.out, aB⟩

set_option maxHeartbeats 1000000 in
theorem impl_val (v : Va) (w : World) (hs : v.t.size ≤ maxLen) :
    Calls Tryz.prog 51 #[.agg #[.int .i64 v.k, .int .i64 v.n, .string v.t]] w fun e w' => e = .returned (.bool (valB v)) ∧ Below w.heap.size w w' := by
  obtain ⟨k, n, s⟩ := v
  simp only at hs ⊢
  have aB : Below w.heap.size w (w.alloc (.cells #[.int .i64 k, .int .i64 n, .string s] 62)) := (Below.refl _ _).alloc (Nat.le_refl _) _
  have aN : ∀ w1, Below (w.alloc (.cells #[.int .i64 k, .int .i64 n, .string s] 62)).heap.size (w.alloc (.cells #[.int .i64 k, .int .i64 n, .string s] 62)) w1 → Below w.heap.size w w1 := fun w1 h => aB.trans (h.mono (by simp))
  have HA : Hid _ := aB
  have HN : Hid _ := aN
  clear aB aN
  by_cases h1 : k = 1
  · have H : Hid (valB ⟨k, n, s⟩ = (intB n && noB s)) := by unfold Hid valB; rw [if_pos h1]
    subst h1
    by_cases hz : s.toList = []
    · have H2 : Hid (intB n = valB ⟨1, n, s⟩) := by rw [Hid, H.out, no_of hz]; simp
      go_enter Tryz.func51, Tryz.ntmps51
      go_wp2_with (go_at_call 89; refine (impl_isInt _ _).mono ?_; rintro e w1 ⟨rfl, rfl⟩)
      go_ret
      exact ⟨ret_bool H2.out, HA.out⟩
    · have H2 : Hid (false = valB ⟨1, n, s⟩) := by rw [Hid, H.out, no_not hz]; simp
      go_enter Tryz.func51, Tryz.ntmps51
      go_wp2_with (go_at_call 89; refine (impl_isInt _ _).mono ?_; rintro e w1 ⟨rfl, rfl⟩)
      go_ret
      exact ⟨ret_bool H2.out, HA.out⟩
  have g1 : (k == 1) = false := by rw [beq_eq_false_iff_ne]; omega
  by_cases h2 : k = 2
  · have H : Hid (valB ⟨k, n, s⟩ = ((n == 0 || n == 1) && noB s)) := by unfold Hid valB; rw [if_neg h1, if_pos h2]
    subst h2
    clear g1 h1
    by_cases hz : s.toList = []
    · cases hb : (n == 0)
      · have H2 : Hid ((n == 1) = valB ⟨2, n, s⟩) := by rw [Hid, H.out, no_of hz, hb]; simp
        go_enter Tryz.func51, Tryz.ntmps51
        go_wp2_with fail
        go_ret
        exact ⟨ret_bool H2.out, HA.out⟩
      · have H2 : Hid (true = valB ⟨2, n, s⟩) := by rw [Hid, H.out, no_of hz, hb]; simp
        go_enter Tryz.func51, Tryz.ntmps51
        go_wp2_with fail
        go_ret
        exact ⟨ret_bool H2.out, HA.out⟩
    · have H2 : Hid (false = valB ⟨2, n, s⟩) := by rw [Hid, H.out, no_not hz]; simp
      go_enter Tryz.func51, Tryz.ntmps51
      go_wp2_with fail
      go_ret
      exact ⟨ret_bool H2.out, HA.out⟩
  have g2 : (k == 2) = false := by rw [beq_eq_false_iff_ne]; omega
  by_cases h3 : k = 3
  · have H : Hid (valB ⟨k, n, s⟩ = ((n == 0) && noB s)) := by unfold Hid valB; rw [if_neg h1, if_neg h2, if_pos h3]
    subst h3
    clear g1 h1 g2 h2
    by_cases hz : s.toList = []
    · have H2 : Hid ((n == 0) = valB ⟨3, n, s⟩) := by rw [Hid, H.out, no_of hz]; simp
      go_enter Tryz.func51, Tryz.ntmps51
      go_wp2_with fail
      go_ret
      exact ⟨ret_bool H2.out, HA.out⟩
    · have H2 : Hid (false = valB ⟨3, n, s⟩) := by rw [Hid, H.out, no_not hz]; simp
      go_enter Tryz.func51, Tryz.ntmps51
      go_wp2_with fail
      go_ret
      exact ⟨ret_bool H2.out, HA.out⟩
  have g3 : (k == 3) = false := by rw [beq_eq_false_iff_ne]; omega
  by_cases h4 : k = 4
  · have H : Hid (valB ⟨k, n, s⟩ = ((n == 0) && nameB s)) := by unfold Hid valB; rw [if_neg h1, if_neg h2, if_neg h3, if_pos h4]
    subst h4
    clear g1 h1 g2 h2 g3 h3
    cases hb : (n == 0)
    · have H2 : Hid (false = valB ⟨4, n, s⟩) := by rw [Hid, H.out, hb]; simp
      go_enter Tryz.func51, Tryz.ntmps51
      go_wp2_with (go_at_call 87; refine (impl_nameOK _ _ hs).mono ?_; rintro e w1 ⟨rfl, hb1⟩)
      go_ret
      exact ⟨ret_bool H2.out, HA.out⟩
    · have H2 : Hid (nameB s = valB ⟨4, n, s⟩) := by rw [Hid, H.out, hb]; simp
      go_enter Tryz.func51, Tryz.ntmps51
      go_wp2_with (go_at_call 87; refine (impl_nameOK _ _ hs).mono ?_; rintro e w1 ⟨rfl, hb1⟩)
      go_ret
      exact ⟨ret_bool H2.out, HN.out _ hb1⟩
  have g4 : (k == 4) = false := by rw [beq_eq_false_iff_ne]; omega
  have H2 : Hid (false = valB ⟨k, n, s⟩) := by unfold Hid valB; rw [if_neg h1, if_neg h2, if_neg h3, if_neg h4]
  clear h1 h2 h3 h4
  go_enter Tryz.func51, Tryz.ntmps51
  go_wp2_with fail
  go_ret
  exact ⟨ret_bool H2.out, HA.out⟩

/-- What is left of n, and what is known then. -/
def Sz (n m : Int) (p : Prop) : Prop := m ≤ n ∧ -1 ≤ m ∧ (0 ≤ m → p)
set_option maxHeartbeats 1000000 in
theorem sz_val (v : Va) (n : Int) (w : World) (hs : v.t.size ≤ maxLen) (h0 : 0 ≤ n) (h1 : n ≤ 1048576) :
    Calls Tryz.prog 36 #[.agg #[.int .i64 v.k, .int .i64 v.n, .string v.t], .int .i64 n] w fun e w' => ∃ m, e = .returned (.int .i64 m) ∧ Sz n m (VaBd 1048576 v) ∧ Below w.heap.size w w' := by
  obtain ⟨a, b, s⟩ := v
  simp only at hs ⊢
  unfold maxLen at hs
  by_cases h : n - s.size < 0
  · go_enter Tryz.func36, Tryz.ntmps36
    go_wp2
    go_ret
    exact ⟨-1, rfl, ⟨by omega, by omega, fun h => by omega⟩, (Below.refl _ _).alloc (Nat.le_refl _) _⟩
  · go_enter Tryz.func36, Tryz.ntmps36
    go_wp2
    go_ret
    exact ⟨n - s.size, rfl, ⟨by omega, by omega, fun _ => by unfold VaBd; simp only; omega⟩, (Below.refl _ _).alloc (Nat.le_refl _) _⟩
set_option maxHeartbeats 1000000 in
theorem to_val (a b : Int) (s : ByteArray) (w : World) :
    Calls Tryz.prog 48 #[.agg #[.int .i64 a, .int .i64 b, .string s]] w fun e w' => e = .returned (.agg #[.int .i64 a, .int .i64 b, .string s]) ∧ Below w.heap.size w w' := by
  go_enter Tryz.func48, Tryz.ntmps48
  go_wp2
  refine bodyPost_ret (v := .agg #[.int .i64 a, .int .i64 b, .string s]) (by simp [results, Tryz.results48, go_sem]) rfl ⟨rfl, ?_⟩
  repeat (first | exact Below.refl _ _ | refine Below.setCell ?_ (by simp <;> omega) _ | refine Below.alloc ?_ (by simp <;> omega) _)
end Go.Proofs.YtkjndghkimnjeaaGreat
