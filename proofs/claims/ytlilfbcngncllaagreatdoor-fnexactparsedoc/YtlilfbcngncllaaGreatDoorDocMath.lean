/- What is a right value, selection, definition, document; and counts of them. -/
import Derived.Test.YtlilfbcngncllaaGreatDoorRdSpec
import Derived.Test.YtlilfbcngncllaaGreatDoorLexSpec
import Derived.Below
import Derived.Deep.Slices
import Derived.Deep.Strs
import Derived.Lib.SmallJoins
namespace Go.Proofs.YtlilfbcngncllaaGreatDoor
set_option linter.unusedVariables false

/-- Tokens as a text has them: a name is not empty, a mark has no number. -/
def TkOk (l : List Tk) : Prop := ∀ t ∈ l, (t.k = 1 → t.t.toList ≠ []) ∧ (t.k = 4 → t.n = 0)
theorem tokB_ok {l : List Tk} (h : ∀ t ∈ l, tokB t.k t.n t.t = true) : TkOk l := fun t ht => by
  have := h t ht
  refine ⟨fun hk he => ?_, fun hk => ?_⟩
  · rw [hk] at this
    unfold tokB at this
    revert this
    simp [nameB]
    intro _ h1
    have h2 : t.t.data.toList = [] := by rw [← ByteArray.toList_eq]; exact he
    have h3 : t.t.size = 0 := by
      have : t.t.data.size = 0 := by simpa using congrArg List.length h2
      exact this
    omega
  · rw [hk] at this
    unfold tokB at this
    simp at this
    omega
theorem isB_tk {l : List Tk} (h : TkOk l) (t : ByteArray) (i : Nat) : isB 4 t l i = tkE (nxT l i) ⟨4, 0, t⟩ := by
  unfold isB tkE nxT
  by_cases hi : i < l.length
  · rw [List.getElem?_eq_getElem hi, decide_eq_true hi]
    simp only [Bool.true_and]
    by_cases hk : l[i].k = 4
    · rw [(h _ (List.getElem_mem hi)).2 hk]
      simp
    · have : (l[i].k == 4) = false := by simpa using hk
      rw [this]; simp
  · rw [List.getElem?_eq_none (by omega), decide_eq_false hi]
    simp
theorem nmB_nm {l : List Tk} (h : TkOk l) (i : Nat) : (nmB l i = true ∧ (nmI l i).toList ≠ []) ∨ (nmB l i = false ∧ (nmI l i).toList = []) := by
  unfold nmB nmI nxT
  by_cases hi : i < l.length
  · rw [List.getElem?_eq_getElem hi, decide_eq_true hi]
    by_cases hk : l[i].k = 1
    · refine .inl ⟨by simp [hk], ?_⟩
      simp only [hk, if_true]
      exact (h _ (List.getElem_mem hi)).1 hk
    · refine .inr ⟨by simp [hk], ?_⟩
      simp only [hk, if_false]
      rw [ByteArray.toList_eq]
  · rw [List.getElem?_eq_none (by omega), decide_eq_false hi]
    refine .inr ⟨rfl, ?_⟩
    simp only
    rw [if_neg (by decide), ByteArray.toList_eq]
end Go.Proofs.YtlilfbcngncllaaGreatDoor
namespace Go.Proofs.YtlilfbcngncllaaGreatDoor
open Go.ChangeShapes Go.WideShapes Go.ChangeAt Go.RowKit
set_option linter.unusedVariables false

structure Va where
  k : Int
  n : Int
  t : ByteArray
structure Ar where
  nm : ByteArray
  v : Va
structure Di where
  sk : Bool
  v : Va
/-- A selection but for its set. -/
structure Hd where
  k : Int
  al : ByteArray
  nm : ByteArray
  args : List Ar
  dirs : List Di
/-- A set: its first selection, that one's own set, and the rest. -/
inductive Sels where
  | nil
  | cons (h : Hd) (sub rest : Sels)
structure De where
  k : Int
  nm : ByteArray
  on : ByteArray
  sels : Sels

namespace Sels
def len : Sels → Nat
  | .nil => 0
  | .cons _ _ rest => rest.len + 1
def size : Sels → Nat
  | .nil => 0
  | .cons _ sub rest => 1 + sub.size + rest.size
def isNil : Sels → Bool
  | .nil => true
  | .cons _ _ _ => false
theorem isNil_len (l : Sels) : l.isNil = decide (l.len = 0) := by cases l <;> simp [isNil, len]
theorem len_le_size : ∀ l : Sels, l.len ≤ l.size
  | .nil => Nat.le_refl _
  | .cons h sub rest => by have := len_le_size rest; simp [len, size]; omega
end Sels





/-- A reader of cells that holds an argument, a directive at a place. -/
def ArAt (rd : Nat → Option Value) (o : Nat) (x : Ar) : Prop := rd o = some (.string x.nm) ∧ rd (o + 1) = some (.int .i64 x.v.k) ∧ rd (o + 2) = some (.int .i64 x.v.n) ∧ rd (o + 3) = some (.string x.v.t)
def DiAt (rd : Nat → Option Value) (o : Nat) (x : Di) : Prop := rd o = some (.bool x.sk) ∧ rd (o + 1) = some (.int .i64 x.v.k) ∧ rd (o + 2) = some (.int .i64 x.v.n) ∧ rd (o + 3) = some (.string x.v.t)
/-- The cells of a block. -/
def rdOf (w : World) (b : Nat) : Nat → Option Value := fun j => w.cell? ⟨b, j, none⟩
/-- A row of elements of some cells each, in a block from lo up and below hi; any place where there is none. -/
def Row {α : Type} (at_ : (Nat → Option Value) → Nat → α → Prop) (z : Nat) (lo hi : Nat) (w : World) (a : Option Addr) (l : List α) : Prop :=
  l = [] ∨ ∃ b o, a = some ⟨b, o, none⟩ ∧ lo ≤ b ∧ b < hi ∧ ∀ i x, l[i]? = some x → at_ (rdOf w b) (o + i * z) x
abbrev ArRow := Row ArAt 4
abbrev DiRow := Row DiAt 4

/-- One selection's cells but the last. -/
def HdAt (lo hi : Nat) (w : World) (rd : Nat → Option Value) (o : Nat) (h : Hd) : Prop :=
  rd o = some (.int .i64 h.k) ∧ rd (o + 1) = some (.string h.al) ∧ rd (o + 2) = some (.string h.nm) ∧
  (∃ a c, rd (o + 3) = some (.slice a h.args.length c) ∧ ArRow lo hi w a h.args) ∧
  (∃ a c, rd (o + 4) = some (.slice a h.dirs.length c) ∧ DiRow lo hi w a h.dirs)

/-- The first k of a set. -/
def SelPre (lo hi : Nat) (w : World) : Sels → (Nat → Option Value) → Nat → Nat → Prop
  | .nil, _, _, _ => True
  | .cons h sub rest, rd, o, k => k = 0 ∨ (HdAt lo hi w rd o h ∧
      (∃ a c, rd (o + 5) = some (.slice a sub.len c) ∧ (sub = .nil ∨ ∃ b o', a = some ⟨b, o', none⟩ ∧ lo ≤ b ∧ b < hi ∧ SelPre lo hi w sub (rdOf w b) o' sub.len)) ∧
      SelPre lo hi w rest rd (o + 6) (k - 1))
def SelRow (lo hi : Nat) (w : World) (a : Option Addr) (l : Sels) : Prop :=
  l = .nil ∨ ∃ b o, a = some ⟨b, o, none⟩ ∧ lo ≤ b ∧ b < hi ∧ SelPre lo hi w l (rdOf w b) o l.len

def DeAt (lo hi : Nat) (w : World) (rd : Nat → Option Value) (o : Nat) (x : De) : Prop :=
  rd o = some (.int .i64 x.k) ∧ rd (o + 1) = some (.string x.nm) ∧ rd (o + 2) = some (.string x.on) ∧
  (∃ a c, rd (o + 3) = some (.slice a x.sels.len c) ∧ SelRow lo hi w a x.sels)
def DeRow (lo hi : Nat) (w : World) (a : Option Addr) (l : List De) : Prop := Row (DeAt lo hi w) 4 lo hi w a l

/-- Two worlds agree on the blocks from lo up and below hi. -/
def Agree (lo hi : Nat) (w w' : World) : Prop := ∀ g, lo ≤ g → g < hi → w'.heap[g]? = w.heap[g]?
theorem Agree.rd {lo hi : Nat} {w w' : World} (h : Agree lo hi w w') {b : Nat} (h1 : lo ≤ b) (h2 : b < hi) : rdOf w' b = rdOf w b := by
  funext j; simp only [rdOf, World.cell?, h b h1 h2]
theorem Below.agree {B : Nat} {w w' : World} (h : Below B w w') {lo hi : Nat} (hh : hi ≤ B) : Agree lo hi w w' := fun g _ h2 => h.block g (by omega)

theorem Row.keep {α : Type} {at_ : (Nat → Option Value) → Nat → α → Prop} {z lo hi : Nat} {w w' : World} {a : Option Addr} {l : List α} (h : Row at_ z lo hi w a l) (hk : Agree lo hi w w') : Row at_ z lo hi w' a l := by
  rcases h with h | ⟨b, o, rfl, h1, h2, h3⟩
  · exact .inl h
  · exact .inr ⟨b, o, rfl, h1, h2, by rw [hk.rd h1 h2]; exact h3⟩
theorem Row.wide {α : Type} {at_ : (Nat → Option Value) → Nat → α → Prop} {z lo hi lo' hi' : Nat} {w : World} {a : Option Addr} {l : List α} (h : Row at_ z lo hi w a l) (h1 : lo' ≤ lo) (h2 : hi ≤ hi') : Row at_ z lo' hi' w a l := by
  rcases h with h | ⟨b, o, rfl, h3, h4, h5⟩
  · exact .inl h
  · exact .inr ⟨b, o, rfl, by omega, by omega, h5⟩
theorem Row.at_ {α : Type} {at_ : (Nat → Option Value) → Nat → α → Prop} {z lo hi : Nat} {w : World} {a : Option Addr} {l : List α} (h : Row at_ z lo hi w a l) (k : Nat) (hk : k < l.length) :
    ∃ b o, a = some ⟨b, o, none⟩ ∧ lo ≤ b ∧ b < hi ∧ at_ (rdOf w b) (o + k * z) l[k] := by
  rcases h with rfl | ⟨b, o, rfl, h1, h2, h3⟩
  · simp at hk
  · exact ⟨b, o, rfl, h1, h2, h3 k l[k] (List.getElem?_eq_getElem hk)⟩
theorem HdAt.keep {lo hi : Nat} {w w' : World} {rd : Nat → Option Value} {o : Nat} {h : Hd} (hh : HdAt lo hi w rd o h) (hk : Agree lo hi w w') : HdAt lo hi w' rd o h := by
  obtain ⟨h0, h1, h2, ⟨a, c, h3, h3'⟩, ⟨a', c', h4, h4'⟩⟩ := hh
  exact ⟨h0, h1, h2, ⟨a, c, h3, h3'.keep hk⟩, ⟨a', c', h4, h4'.keep hk⟩⟩
theorem HdAt.wide {lo hi lo' hi' : Nat} {w : World} {rd : Nat → Option Value} {o : Nat} {h : Hd} (hh : HdAt lo hi w rd o h) (e1 : lo' ≤ lo) (e2 : hi ≤ hi') : HdAt lo' hi' w rd o h := by
  obtain ⟨h0, h1, h2, ⟨a, c, h3, h3'⟩, ⟨a', c', h4, h4'⟩⟩ := hh
  exact ⟨h0, h1, h2, ⟨a, c, h3, h3'.wide e1 e2⟩, ⟨a', c', h4, h4'.wide e1 e2⟩⟩
theorem SelPre.keep {lo hi : Nat} {w w' : World} (hk : Agree lo hi w w') : ∀ {l : Sels} {rd : Nat → Option Value} {o k : Nat}, SelPre lo hi w l rd o k → SelPre lo hi w' l rd o k
  | .nil, _, _, _, _ => trivial
  | .cons h sub rest, rd, o, k, hp => by
    rcases hp with hp | ⟨p1, ⟨a, c, p2, p3⟩, p4⟩
    · exact .inl hp
    · refine .inr ⟨p1.keep hk, ⟨a, c, p2, ?_⟩, SelPre.keep hk p4⟩
      rcases p3 with p3 | ⟨b, o', e, e1, e2, p3⟩
      · exact .inl p3
      · exact .inr ⟨b, o', e, e1, e2, by rw [hk.rd e1 e2]; exact SelPre.keep hk p3⟩
theorem SelPre.wide {lo hi lo' hi' : Nat} {w : World} (e1 : lo' ≤ lo) (e2 : hi ≤ hi') : ∀ {l : Sels} {rd : Nat → Option Value} {o k : Nat}, SelPre lo hi w l rd o k → SelPre lo' hi' w l rd o k
  | .nil, _, _, _, _ => trivial
  | .cons h sub rest, rd, o, k, hp => by
    rcases hp with hp | ⟨p1, ⟨a, c, p2, p3⟩, p4⟩
    · exact .inl hp
    · refine .inr ⟨p1.wide e1 e2, ⟨a, c, p2, ?_⟩, SelPre.wide e1 e2 p4⟩
      rcases p3 with p3 | ⟨b, o', e, f1, f2, p3⟩
      · exact .inl p3
      · exact .inr ⟨b, o', e, by omega, by omega, SelPre.wide e1 e2 p3⟩
theorem SelRow.keep {lo hi : Nat} {w w' : World} {a : Option Addr} {l : Sels} (h : SelRow lo hi w a l) (hk : Agree lo hi w w') : SelRow lo hi w' a l := by
  rcases h with h | ⟨b, o, rfl, h1, h2, h3⟩
  · exact .inl h
  · exact .inr ⟨b, o, rfl, h1, h2, by rw [hk.rd h1 h2]; exact h3.keep hk⟩
theorem SelRow.wide {lo hi lo' hi' : Nat} {w : World} {a : Option Addr} {l : Sels} (h : SelRow lo hi w a l) (e1 : lo' ≤ lo) (e2 : hi ≤ hi') : SelRow lo' hi' w a l := by
  rcases h with h | ⟨b, o, rfl, h1, h2, h3⟩
  · exact .inl h
  · exact .inr ⟨b, o, rfl, by omega, by omega, h3.wide e1 e2⟩
theorem DeAt.keep {lo hi : Nat} {w w' : World} {rd : Nat → Option Value} {o : Nat} {x : De} (hh : DeAt lo hi w rd o x) (hk : Agree lo hi w w') : DeAt lo hi w' rd o x := by
  obtain ⟨h0, h1, h2, ⟨a, c, h3, h3'⟩⟩ := hh
  exact ⟨h0, h1, h2, ⟨a, c, h3, h3'.keep hk⟩⟩
theorem DeAt.wide {lo hi lo' hi' : Nat} {w : World} {rd : Nat → Option Value} {o : Nat} {x : De} (hh : DeAt lo hi w rd o x) (e1 : lo' ≤ lo) (e2 : hi ≤ hi') : DeAt lo' hi' w rd o x := by
  obtain ⟨h0, h1, h2, ⟨a, c, h3, h3'⟩⟩ := hh
  exact ⟨h0, h1, h2, ⟨a, c, h3, h3'.wide e1 e2⟩⟩
theorem DeRow.keep {lo hi : Nat} {w w' : World} {a : Option Addr} {l : List De} (h : DeRow lo hi w a l) (hk : Agree lo hi w w') : DeRow lo hi w' a l := by
  rcases h with h | ⟨b, o, rfl, h1, h2, h3⟩
  · exact .inl h
  · exact .inr ⟨b, o, rfl, h1, h2, fun i x hx => by rw [hk.rd h1 h2]; exact (h3 i x hx).keep hk⟩
theorem DeRow.wide {lo hi lo' hi' : Nat} {w : World} {a : Option Addr} {l : List De} (h : DeRow lo hi w a l) (e1 : lo' ≤ lo) (e2 : hi ≤ hi') : DeRow lo' hi' w a l := by
  rcases h with h | ⟨b, o, rfl, h1, h2, h3⟩
  · exact .inl h
  · exact .inr ⟨b, o, rfl, by omega, by omega, fun i x hx => (h3 i x hx).wide e1 e2⟩
/-- The first of a set and the rest of it. -/
theorem SelPre.head {lo hi : Nat} {w : World} {h : Hd} {sub rest : Sels} {rd : Nat → Option Value} {o : Nat} (hp : SelPre lo hi w (.cons h sub rest) rd o (rest.len + 1)) :
    HdAt lo hi w rd o h ∧ (∃ a c, rd (o + 5) = some (.slice a sub.len c) ∧ SelRow lo hi w a sub) ∧ SelPre lo hi w rest rd (o + 6) rest.len := by
  rcases hp with hp | ⟨p1, p2, p3⟩
  · omega
  · exact ⟨p1, p2, p3⟩
/-- Selections ahead of a set. -/
def app : List (Hd × Sels) → Sels → Sels
  | [], r => r
  | x :: p, r => .cons x.1 x.2 (app p r)
theorem app_snoc : ∀ (p : List (Hd × Sels)) (h : Hd) (sub rest : Sels), app (p ++ [(h, sub)]) rest = app p (.cons h sub rest)
  | [], _, _, _ => rfl
  | x :: p, h, sub, rest => by simp only [List.cons_append, app]; rw [app_snoc p]
theorem app_len : ∀ (p : List (Hd × Sels)) (r : Sels), (app p r).len = p.length + r.len
  | [], r => by simp [app]
  | x :: p, r => by simp only [app, Sels.len, List.length_cons]; rw [app_len p]; omega
/-- The k-th of a set is laid, those ahead of it were: then one more is. -/
theorem SelPre.more {lo hi : Nat} {w : World} {rd : Nat → Option Value} {h : Hd} {sub rest : Sels} : ∀ (pre : List (Hd × Sels)) {o : Nat}, SelPre lo hi w (app pre (.cons h sub rest)) rd o pre.length →
    HdAt lo hi w rd (o + 6 * pre.length) h → (∃ a c, rd (o + 6 * pre.length + 5) = some (.slice a sub.len c) ∧ SelRow lo hi w a sub) → SelPre lo hi w (app pre (.cons h sub rest)) rd o (pre.length + 1)
  | [], o, hp, hh, hs => by
    refine .inr ⟨by simpa using hh, by simpa [SelRow] using hs, ?_⟩
    cases rest with
    | nil => exact trivial
    | cons _ _ _ => exact .inl rfl
  | x :: pre, o, hp, hh, hs => by
    rcases hp with hp | ⟨p1, p2, p3⟩
    · simp at hp
    · refine .inr ⟨p1, p2, ?_⟩
      simp only [List.length_cons] at hh hs ⊢
      exact SelPre.more pre (by simpa using p3) (by rw [show o + 6 + 6 * pre.length = o + 6 * (pre.length + 1) by omega]; exact hh) (by rw [show o + 6 + 6 * pre.length + 5 = o + 6 * (pre.length + 1) + 5 by omega]; exact hs)
/-- Only the cells of the first k count. -/
theorem SelPre.cells {lo hi : Nat} {w : World} {rd rd' : Nat → Option Value} : ∀ {l : Sels} {o k : Nat}, SelPre lo hi w l rd o k → (∀ j, o ≤ j → j < o + 6 * k → rd' j = rd j) → SelPre lo hi w l rd' o k
  | .nil, _, _, _, _ => trivial
  | .cons h sub rest, o, k, hp, hc => by
    rcases hp with hp | ⟨⟨h0, h1, h2, ⟨a1, c1, h3, h3'⟩, ⟨a2, c2, h4, h4'⟩⟩, ⟨a, c, p2, p2'⟩, p3⟩
    · exact .inl hp
    · by_cases hk : k = 0
      · exact .inl hk
      · refine .inr ⟨⟨(hc _ (by omega) (by omega)).trans h0, (hc _ (by omega) (by omega)).trans h1, (hc _ (by omega) (by omega)).trans h2, ⟨a1, c1, (hc _ (by omega) (by omega)).trans h3, h3'⟩, ⟨a2, c2, (hc _ (by omega) (by omega)).trans h4, h4'⟩⟩, ⟨a, c, (hc _ (by omega) (by omega)).trans p2, p2'⟩, ?_⟩
        exact p3.cells fun j hj hj' => hc j (by omega) (by omega)
end Go.Proofs.YtlilfbcngncllaaGreatDoor
namespace Go.Proofs.YtlilfbcngncllaaGreatDoor
open Go.ChangeShapes Go.WideShapes Go.ChangeAt Go.RowKit
set_option linter.unusedVariables false

def VaBd (m : Nat) (v : Va) : Prop := v.t.size ≤ m
def ArBd (m : Nat) (x : Ar) : Prop := x.nm.size ≤ m ∧ x.v.t.size ≤ m
def DiBd (m : Nat) (x : Di) : Prop := x.v.t.size ≤ m
def HdBd (m : Nat) (h : Hd) : Prop := h.al.size ≤ m ∧ h.nm.size ≤ m ∧ h.args.length ≤ m ∧ (∀ x ∈ h.args, ArBd m x) ∧ h.dirs.length ≤ m ∧ ∀ x ∈ h.dirs, DiBd m x
def SelsBd (m : Nat) : Sels → Prop
  | .nil => True
  | .cons h sub rest => HdBd m h ∧ sub.len ≤ m ∧ SelsBd m sub ∧ SelsBd m rest
def DeBd (m : Nat) (x : De) : Prop := x.nm.size ≤ m ∧ x.on.size ≤ m ∧ x.sels.len ≤ m ∧ SelsBd m x.sels
def DefsBd (m : Nat) (l : List De) : Prop := l.length ≤ m ∧ ∀ x ∈ l, DeBd m x

theorem cell_lt {W : World} {a : Addr} {v : Value} (h : W.cell? a = some v) : a.block < W.heap.size := by
  refine Nat.lt_of_not_le fun hle => ?_
  simp [World.cell?, Array.getElem?_eq_none hle] at h
theorem list_of {α : Type} {len : Nat} {p : Nat → α → Prop} (h : ∀ i, i < len → ∃ x, p i x) : ∃ l : List α, l.length = len ∧ ∀ i x, l[i]? = some x → p i x := by
  induction len with
  | zero => exact ⟨[], rfl, by simp⟩
  | succ n ih =>
    obtain ⟨l, hl, hp⟩ := ih fun i hi => h i (by omega)
    obtain ⟨y, hy⟩ := h n (by omega)
    refine ⟨l ++ [y], by simp [hl], fun i x hx => ?_⟩
    by_cases hi : i < n
    · rw [List.getElem?_append_left (by omega)] at hx; exact hp i x hx
    · rw [List.getElem?_append_right (by omega)] at hx
      have : i - l.length < 1 := by have := (List.getElem?_eq_some_iff.1 hx).1; simpa using this
      obtain rfl : i = n := by omega
      rw [hl, Nat.sub_self] at hx
      simp at hx; subst hx; exact hy

theorem list3 {α : Type} {l : List α} (h : l.length = 3) : ∃ a b c, l = [a, b, c] := by
  match l, h with
  | [a, b, c], _ => exact ⟨a, b, c, rfl⟩
theorem list4 {α : Type} {l : List α} (h : l.length = 4) : ∃ a b c d, l = [a, b, c, d] := by
  match l, h with
  | [a, b, c, d], _ => exact ⟨a, b, c, d, rfl⟩
theorem list6 {α : Type} {l : List α} (h : l.length = 6) : ∃ a b c d e f, l = [a, b, c, d, e, f] := by
  match l, h with
  | [a, b, c, d, e, f], _ => exact ⟨a, b, c, d, e, f, rfl⟩

section
variable {H : Type} {enc : TypeId × Value → H} {W : World}
/-- A slice's cell opened: its elements' cells, each with its own reading. -/
theorem sl_open {t e : TypeId} {z : Nat} {fuel : Nat} {cs : List Value} {x : DataW H × List MemPlace} (ht : Tryz.prog.underlying t = some (.slice e)) (hz : Tryz.prog.cellsOf e = z) (hz0 : 0 < z) (h : DataW.trod enc Tryz.prog W 0 (fun _ => true) true fuel t cs = some x) :
    ∃ a len cap, cs = [.slice a len cap] ∧ len ≤ maxLen ∧ (len = 0 ∨ ∃ n b o, fuel = n + 1 ∧ a = some ⟨b, o, none⟩ ∧ b < W.heap.size ∧
      ∀ i, i < len → ∃ cs' y, cs'.length = z ∧ (∀ j, j < z → rdOf W b (o + i * z + j) = cs'[j]?) ∧ DataW.trod enc Tryz.prog W 0 (fun _ => true) true n e cs' = some y) := by
  rcases DataW.trod_slice ht h with ⟨rfl, _⟩ | ⟨a, len, cap, elems, rest, n, rfl, rfl, _, hb, hl, hm, hlen, hel, _, _⟩
  · exact ⟨none, 0, 0, rfl, Nat.zero_le _, .inl rfl⟩
  · refine ⟨some a, len, cap, rfl, by omega, ?_⟩
    by_cases h0 : len = 0
    · exact .inl h0
    rw [hz] at hel
    have key : ∀ i, i < len → ∃ cs' y, cs'.length = z ∧ (∀ j, j < z → W.cell? ((a.add (i * z)).add j) = cs'[j]?) ∧ DataW.trod enc Tryz.prog W 0 (fun _ => true) true n e cs' = some y := by
      intro i hi
      have := hel i hi
      rw [List.getElem?_eq_getElem (by omega), Option.bind_eq_some_iff] at this
      obtain ⟨cs', h1, h2⟩ := this
      obtain ⟨_, hcl, hc⟩ := World.cells?_some h1
      exact ⟨cs', _, hcl, hc, h2⟩
    obtain ⟨b, o, spot⟩ := a
    obtain ⟨cs', y, hcl, hc, _⟩ := key 0 (by omega)
    have hc0 := hc 0 hz0
    rw [List.getElem?_eq_getElem (by omega)] at hc0
    have hspot : spot = none := by
      have := World.cell?_spot hc0
      simpa [Addr.add] using this
    subst hspot
    refine .inr ⟨n, b, o, rfl, rfl, (by have := cell_lt hc0; simpa [Addr.add] using this), fun i hi => ?_⟩
    obtain ⟨cs', y, hcl, hc, hd⟩ := key i hi
    refine ⟨cs', y, hcl, fun j hj => ?_, hd⟩
    have := hc j hj
    simp only [add_plain] at this
    exact this

/-- Selections by index are a set. -/
theorem sels_of {lo hi : Nat} {w : World} {rd : Nat → Option Value} {m : Nat} : ∀ {l : List (Hd × Sels)} {o : Nat}, (∀ i x, l[i]? = some x → HdAt lo hi w rd (o + i * 6) x.1 ∧ (∃ a c, rd (o + i * 6 + 5) = some (.slice a x.2.len c) ∧ SelRow lo hi w a x.2) ∧ HdBd m x.1 ∧ x.2.len ≤ m ∧ SelsBd m x.2) →
    SelPre lo hi w (app l .nil) rd o l.length ∧ SelsBd m (app l .nil)
  | [], _, _ => ⟨trivial, trivial⟩
  | x :: l, o, h => by
    obtain ⟨h1, h2, h3, h4, h5⟩ := h 0 x rfl
    have := sels_of (l := l) (o := o + 6) (fun i y hy => by
      have := h (i + 1) y (by simpa using hy)
      rw [show o + (i + 1) * 6 = o + 6 + i * 6 by omega] at this
      exact this)
    simp only [Nat.zero_mul, Nat.add_zero] at h1 h2
    exact ⟨.inr ⟨h1, h2, this.1⟩, h3, h4, h5, this.2⟩
end
end Go.Proofs.YtlilfbcngncllaaGreatDoor
namespace Go.Proofs.YtlilfbcngncllaaGreatDoor
open Go.ChangeShapes Go.WideShapes Go.ChangeAt Go.RowKit
set_option linter.unusedVariables false

def noB (s : ByteArray) : Bool := s.toList.isEmpty
def onB (s : ByteArray) : Bool := s.toList == [111, 110]
def valB (v : Va) : Bool :=
  if v.k = 1 then intB v.n && noB v.t
  else if v.k = 2 then (v.n == 0 || v.n == 1) && noB v.t
  else if v.k = 3 then (v.n == 0) && noB v.t
  else if v.k = 4 then (v.n == 0) && nameB v.t
  else false
def arB (x : Ar) : Bool := nameB x.nm && valB x.v
def diB (x : Di) : Bool := valB x.v
def argsB (l : List Ar) : Bool := decide (l.length ≤ 4) && l.all arB
def dirsB (l : List Di) : Bool := decide (l.length ≤ 4) && l.all diB
def kindB (h : Hd) (z : Bool) : Bool :=
  if h.k = 1 then nameB h.nm && (noB h.al || nameB h.al)
  else if h.k = 2 then nameB h.nm && !onB h.nm && noB h.al && h.args.isEmpty && z
  else if h.k = 3 then (noB h.nm || nameB h.nm) && noB h.al && h.args.isEmpty && !z
  else false
def hdB (h : Hd) (z : Bool) : Bool := argsB h.args && dirsB h.dirs && kindB h z
def okS : Nat → Sels → Bool
  | _, .nil => true
  | d, .cons h sub rest => decide (0 < d) && hdB h sub.isNil && okS (d - 1) sub && okS d rest
def headB (x : De) : Bool :=
  if x.k = 1 ∨ x.k = 2 then (noB x.nm || nameB x.nm) && noB x.on
  else if x.k = 3 then nameB x.nm && !onB x.nm && nameB x.on
  else false
def defB (x : De) : Bool := headB x && !x.sels.isNil && okS 7 x.sels
def sizeL : List De → Nat
  | [] => 0
  | x :: l => x.sels.size + sizeL l
def docB (l : List De) : Bool := decide (1 ≤ l.length) && decide (l.length ≤ 6) && l.all defB && decide (sizeL l ≤ 60)
namespace Sels
def depth : Sels → Nat
  | .nil => 0
  | .cons _ sub rest => max (1 + sub.depth) rest.depth
theorem depth_le : ∀ {d : Nat} {l : Sels}, okS d l = true → l.depth ≤ d
  | _, .nil, _ => Nat.zero_le _
  | d, .cons h sub rest, hk => by
    simp only [okS, Bool.and_eq_true, decide_eq_true_eq] at hk
    have h1 := depth_le hk.1.2
    have h2 := depth_le hk.2
    simp only [depth]; omega
end Sels
def depthL : List De → Nat
  | [] => 0
  | x :: l => max x.sels.depth (depthL l)
theorem sizeL_append (a b : List De) : sizeL (a ++ b) = sizeL a + sizeL b := by
  induction a with
  | nil => simp [sizeL]
  | cons x a ih => simp only [List.cons_append, sizeL, ih]; omega
theorem sizeL_take {l : List De} {k : Nat} (hk : k < l.length) : sizeL (l.take (k + 1)) = sizeL (l.take k) + l[k].sels.size := by
  rw [List.take_succ_eq_append_getElem hk, sizeL_append]; simp [sizeL]
theorem sizeL_le (l : List De) (k : Nat) : sizeL (l.take k) ≤ sizeL l := by
  have : sizeL l = sizeL (l.take k) + sizeL (l.drop k) := by rw [← sizeL_append, List.take_append_drop]
  omega
end Go.Proofs.YtlilfbcngncllaaGreatDoor
