/- The decimal digits of a number, and that the specification's text of them computes them. -/
import Derived.Test.YtoaeggfnlenjkaaGreatDoorNameOK
import Derived.Below
import Derived.Deep.Slices
import Derived.Deep.Strs
import Derived.Lib.SmallJoins
import Derived.Deep.QuietTactic
import Derived.BigQuiet
import Derived.Deep.RegionWith
import Derived.Lib.ItoaNum
import Derived.Lib.ItoaLen
namespace Go.Proofs.YtoaeggfnlenjkaaGreatDoor.G
open Go.ChangeShapes Go.WideShapes Go.ChangeAt Go.RowKit
set_option linter.unusedVariables false

def rdOf (w : World) (b : Nat) : Nat → Option Value := fun j => w.cell? ⟨b, j, none⟩
/-- A row of elements of some cells each, in a block from lo up and below hi; any place where there is none. -/
def Row {α : Type} (at_ : (Nat → Option Value) → Nat → α → Prop) (z : Nat) (lo hi : Nat) (w : World) (a : Option Addr) (l : List α) : Prop :=
  l = [] ∨ ∃ b o, a = some ⟨b, o, none⟩ ∧ lo ≤ b ∧ b < hi ∧ ∀ i x, l[i]? = some x → at_ (rdOf w b) (o + i * z) x
/-- Two worlds agree on the blocks from lo up and below hi. -/
def Agree (lo hi : Nat) (w w' : World) : Prop := ∀ g, lo ≤ g → g < hi → w'.heap[g]? = w.heap[g]?
theorem Agree.rd {lo hi : Nat} {w w' : World} (h : Agree lo hi w w') {b : Nat} (h1 : lo ≤ b) (h2 : b < hi) : rdOf w' b = rdOf w b := by
  funext j; simp only [rdOf, World.cell?, h b h1 h2]
theorem agree {B : Nat} {w w' : World} (h : Below B w w') {lo hi : Nat} (hh : hi ≤ B) : Agree lo hi w w' := fun g _ h2 => h.block g (by omega)
theorem Row.at_ {α : Type} {at_ : (Nat → Option Value) → Nat → α → Prop} {z lo hi : Nat} {w : World} {a : Option Addr} {l : List α} (h : Row at_ z lo hi w a l) (k : Nat) (hk : k < l.length) :
    ∃ b o, a = some ⟨b, o, none⟩ ∧ lo ≤ b ∧ b < hi ∧ at_ (rdOf w b) (o + k * z) l[k] := by
  rcases h with rfl | ⟨b, o, rfl, h1, h2, h3⟩
  · simp at hk
  · exact ⟨b, o, rfl, h1, h2, h3 k l[k] (List.getElem?_eq_getElem hk)⟩
theorem Row.of {α : Type} {at1 at2 : (Nat → Option Value) → Nat → α → Prop} {z lo hi : Nat} {w w' : World} {a : Option Addr} {l : List α} (h : Row at1 z lo hi w a l) (hk : Agree lo hi w w') (hi' : ∀ rd o x, at1 rd o x → at2 rd o x) : Row at2 z lo hi w' a l := by
  rcases h with h | ⟨b, o, rfl, h1, h2, h3⟩
  · exact .inl h
  · exact .inr ⟨b, o, rfl, h1, h2, fun i x hx => by rw [hk.rd h1 h2]; exact hi' _ _ _ (h3 i x hx)⟩
theorem Row.out {α : Type} {at1 at2 : (Nat → Option Value) → Nat → α → Prop} {z lo hi lo' hi' : Nat} {w : World} {a : Option Addr} {l : List α} (h : Row at1 z lo hi w a l) (e1 : lo' ≤ lo) (e2 : hi ≤ hi') (hx : ∀ rd o x, at1 rd o x → at2 rd o x) : Row at2 z lo' hi' w a l := by
  rcases h with h | ⟨b, o, rfl, h1, h2, h3⟩
  · exact .inl h
  · exact .inr ⟨b, o, rfl, by omega, by omega, fun i x h => hx _ _ _ (h3 i x h)⟩

theorem cell_lt {W : World} {a : Addr} {v : Value} (h : W.cell? a = some v) : a.block < W.heap.size := by
  refine Nat.lt_of_not_le fun hle => ?_
  simp [World.cell?, Array.getElem?_eq_none hle] at h
theorem list_of {α : Type} {len : Nat} {p : Nat → α → Prop} (h : ∀ i, i < len → ∃ x, p i x) : ∃ l : List α, l.length = len ∧ ∀ i x, l[i]? = some x → p i x := by
  induction len with
  | zero => exact ⟨[], rfl, by simp⟩
  | succ n ih =>
    obtain ⟨l, hl, hp⟩ := ih fun i hi => h i (by omega)
    obtain ⟨y, hy⟩ := h n (by omega)
    refine ⟨l ++ [y], by simp [hl], fun i x hx => ?_⟩
    by_cases hi : i < n
    · rw [List.getElem?_append_left (by omega)] at hx; exact hp i x hx
    · rw [List.getElem?_append_right (by omega)] at hx
      have : i - l.length < 1 := by have := (List.getElem?_eq_some_iff.1 hx).1; simpa using this
      obtain rfl : i = n := by omega
      rw [hl, Nat.sub_self] at hx
      simp at hx; subst hx; exact hy
section
variable {H : Type} {enc : TypeId × Value → H} {W : World}
/-- A slice's cell opened: its elements' cells, each with its own reading. -/
theorem sl_open {t e : TypeId} {z : Nat} {fuel : Nat} {cs : List Value} {x : DataW H × List MemPlace} (ht : Tryz.prog.underlying t = some (.slice e)) (hz : Tryz.prog.cellsOf e = z) (hz0 : 0 < z) (h : DataW.trod enc Tryz.prog W 0 (fun _ => true) true fuel t cs = some x) :
    ∃ a len cap, cs = [.slice a len cap] ∧ len ≤ maxLen ∧ (len = 0 ∨ ∃ n b o, fuel = n + 1 ∧ a = some ⟨b, o, none⟩ ∧ b < W.heap.size ∧
      ∀ i, i < len → ∃ cs' y, cs'.length = z ∧ (∀ j, j < z → rdOf W b (o + i * z + j) = cs'[j]?) ∧ DataW.trod enc Tryz.prog W 0 (fun _ => true) true n e cs' = some y) := by
  rcases DataW.trod_slice ht h with ⟨rfl, _⟩ | ⟨a, len, cap, elems, rest, n, rfl, rfl, _, hb, hl, hm, hlen, hel, _, _⟩
  · exact ⟨none, 0, 0, rfl, Nat.zero_le _, .inl rfl⟩
  · refine ⟨some a, len, cap, rfl, by omega, ?_⟩
    by_cases h0 : len = 0
    · exact .inl h0
    rw [hz] at hel
    have key : ∀ i, i < len → ∃ cs' y, cs'.length = z ∧ (∀ j, j < z → W.cell? ((a.add (i * z)).add j) = cs'[j]?) ∧ DataW.trod enc Tryz.prog W 0 (fun _ => true) true n e cs' = some y := by
      intro i hi
      have := hel i hi
      rw [List.getElem?_eq_getElem (by omega), Option.bind_eq_some_iff] at this
      obtain ⟨cs', h1, h2⟩ := this
      obtain ⟨_, hcl, hc⟩ := World.cells?_some h1
      exact ⟨cs', _, hcl, hc, h2⟩
    obtain ⟨b, o, spot⟩ := a
    obtain ⟨cs', y, hcl, hc, _⟩ := key 0 (by omega)
    have hc0 := hc 0 hz0
    rw [List.getElem?_eq_getElem (by omega)] at hc0
    have hspot : spot = none := by
      have := World.cell?_spot hc0
      simpa [Addr.add] using this
    subst hspot
    refine .inr ⟨n, b, o, rfl, rfl, (by have := cell_lt hc0; simpa [Addr.add] using this), fun i hi => ?_⟩
    obtain ⟨cs', y, hcl, hc, hd⟩ := key i hi
    refine ⟨cs', y, hcl, fun j hj => ?_, hd⟩
    have := hc j hj
    simp only [add_plain] at this
    exact this
end
def Sz (n m : Int) (p : Prop) : Prop := m ≤ n ∧ -1 ≤ m ∧ (0 ≤ m → p)
theorem Sz.mono {n n' m : Int} {p q : Prop} (h : Sz n m p) (hn : n ≤ n') (hp : p → q) : Sz n' m q := ⟨by have := h.1; omega, h.2.1, fun h0 => hp (h.2.2 h0)⟩
theorem Sz.neg {n : Int} {p : Prop} (h : 0 ≤ n) : Sz n (-1) p := ⟨by omega, by omega, fun h => by omega⟩
theorem all_take {α : Type} {p : α → Prop} {l : List α} {k : Nat} (hk : k < l.length) (h : ∀ x ∈ l.take k, p x) (h2 : p l[k]) : ∀ x ∈ l.take (k + 1), p x := by
  rw [List.take_succ_eq_append_getElem hk]
  intro x hx
  rcases List.mem_append.1 hx with hx | hx
  · exact h x hx
  · simp only [List.mem_singleton] at hx; subst hx; exact h2
theorem all_take_b {α : Type} {p : α → Bool} {l : List α} {k : Nat} (hk : k < l.length) (h : (l.take k).all p = true) (h2 : p l[k] = true) : (l.take (k + 1)).all p = true := by
  rw [List.take_succ_eq_append_getElem hk, List.all_append, h]; simp [h2]
theorem all_no_b {α : Type} {p : α → Bool} {l : List α} {k : Nat} (hk : k < l.length) (h2 : p l[k] = false) : l.all p = false := by
  rw [List.all_eq_false]
  exact ⟨l[k], List.getElem_mem hk, by simp [h2]⟩
theorem size_one {w w' : World} {o : Obj} {B : Nat} (hb : Below B (w.alloc o) w') : w.heap.size + 1 ≤ w'.heap.size := by have := hb.size; simpa using this
theorem below_one {w w1 : World} {o : Obj} (h : Below (w.alloc o).heap.size (w.alloc o) w1) : Below w.heap.size w w1 := ((Below.refl _ _).alloc (Nat.le_refl _) _).trans (h.mono (by simp))
theorem ret_ints {a b c d : Int} (h1 : a = b) (h2 : c = d) : Ending.returned (.tuple #[.int .i64 a, .int .i64 c]) = .returned (.tuple #[.int .i64 b, .int .i64 d]) := by rw [h1, h2]
theorem ret_int {a b : Int} (h1 : a = b) : Ending.returned (.int .i64 a) = .returned (.int .i64 b) := by rw [h1]
theorem row_cell {w : World} {N : Nat} {e : TypeId} {cs : Array Value} (h : w.heap[N]? = some (.cells cs e (0, 0))) (j : Nat) : w.cell? ⟨N, j, none⟩ = cs[j]? := cell_of_row w N j cs e _ h
theorem row_frozen {w : World} {N : Nat} {e : TypeId} {cs : Array Value} (h : w.heap[N]? = some (.cells cs e (0, 0))) (j : Nat) : w.frozen? ⟨N, j, none⟩ = false := by
  simp [World.frozen?, h]
theorem row_set {w : World} {N : Nat} {e : TypeId} {cs : Array Value} (h : w.heap[N]? = some (.cells cs e (0, 0))) (j : Nat) (v : Value) : (w.setCell ⟨N, j, none⟩ v).heap[N]? = some (.cells (cs.setIfInBounds j v) e (0, 0)) := by
  rw [setCell_eq_setRow w N j cs e _ v h]; exact setRow_heap w N cs _ e _ h
theorem row_rd {w : World} {N : Nat} {e : TypeId} {cs : Array Value} (h : w.heap[N]? = some (.cells cs e (0, 0))) : rdOf w N = fun j => cs[j]? := by
  funext j; exact row_cell h j
theorem heap_set (w : World) (b o : Nat) (v : Value) (g : Nat) (h : g ≠ b) : (w.setCell ⟨b, o, none⟩ v).heap[g]? = w.heap[g]? := Below.heap_setCell _ _ _ _ h
/-- The first k of a row are laid. -/
def LaidR {α : Type} (at_ : (Nat → Option Value) → Nat → α → Prop) (z : Nat) (cs : Array Value) (l : List α) (k : Nat) : Prop := ∀ i x, i < k → l[i]? = some x → at_ (fun j => cs[j]?) (i * z) x
end Go.Proofs.YtoaeggfnlenjkaaGreatDoor.G
namespace Go.Proofs.YtoaeggfnlenjkaaGreatDoor.G
open Go.ChangeShapes Go.WideShapes Go.ChangeAt Go.RowKit
set_option linter.unusedVariables false

/-- A value but for its items. -/
structure Oh where
  k : Int
  n : Int
  t : ByteArray
  keys : List ByteArray
/-- A list of values: the first one, its items, and the rest. -/
inductive Ous where
  | nil
  | cons (h : Oh) (sub rest : Ous)
namespace Ous
def len : Ous → Nat
  | .nil => 0
  | .cons _ _ rest => rest.len + 1
def size : Ous → Nat
  | .nil => 0
  | .cons _ sub rest => 1 + sub.size + rest.size
theorem len_le_size : ∀ l : Ous, l.len ≤ l.size
  | .nil => Nat.le_refl _
  | .cons h sub rest => by have := len_le_size rest; simp [len, size]; omega
theorem nil_of {l : Ous} (h : l.len = 0) : l = .nil := by cases l with | nil => rfl | cons h s r => simp [len] at h
end Ous
def KeAt (rd : Nat → Option Value) (o : Nat) (x : ByteArray) : Prop := rd o = some (.string x)
abbrev KeRow (lo hi : Nat) (w : World) (a : Option Addr) (l : List ByteArray) : Prop := Row KeAt 1 lo hi w a l
theorem KeRow.keep {lo hi : Nat} {w w' : World} {a : Option Addr} {l : List ByteArray} (h : KeRow lo hi w a l) (hk : Agree lo hi w w') : KeRow lo hi w' a l := Row.of h hk fun _ _ _ hx => hx
theorem KeRow.wide {lo hi lo' hi' : Nat} {w : World} {a : Option Addr} {l : List ByteArray} (h : KeRow lo hi w a l) (e1 : lo' ≤ lo) (e2 : hi ≤ hi') : KeRow lo' hi' w a l := Row.out h e1 e2 fun _ _ _ hx => hx
theorem KeRow.up {w w' : World} {a : Option Addr} {l : List ByteArray} (h : KeRow 0 w.heap.size w a l) (hb : Below w.heap.size w w') : KeRow 0 w'.heap.size w' a l := KeRow.wide (KeRow.keep h (agree hb (Nat.le_refl _))) (Nat.le_refl _) hb.size
theorem KeRow.cells {lo hi : Nat} {w : World} {a : Option Addr} {l : List ByteArray} (h : KeRow lo hi w a l) (k : Nat) (hk : k < l.length) :
    ∃ b o, a = some ⟨b, o, none⟩ ∧ lo ≤ b ∧ b < hi ∧ w.cell? ⟨b, o + k, none⟩ = some (.string l[k]) := by
  obtain ⟨b, o, e1, e2, e3, h0⟩ := Row.at_ h k hk
  rw [Nat.mul_one] at h0
  exact ⟨b, o, e1, e2, e3, h0⟩
theorem KeRow.take {lo hi : Nat} {w : World} {a : Option Addr} {x : List ByteArray} (h : KeRow lo hi w a x) (n : Nat) : KeRow lo hi w a (x.take n) := by
  rcases h with rfl | ⟨b, o, e, h1, h2, h3⟩
  · exact .inl (by simp)
  · exact .inr ⟨b, o, e, h1, h2, fun i y hy => h3 i y (by rw [List.getElem?_take] at hy; split at hy; exact hy; cases hy)⟩
/-- One value's cells but the last. -/
def OhAt (lo hi : Nat) (w : World) (rd : Nat → Option Value) (o : Nat) (h : Oh) : Prop :=
  rd o = some (.int .i64 h.k) ∧ rd (o + 1) = some (.int .i64 h.n) ∧ rd (o + 2) = some (.string h.t) ∧ ∃ a c, rd (o + 3) = some (.slice a h.keys.length c) ∧ h.keys.length ≤ c ∧ KeRow lo hi w a h.keys
/-- The first k of a list. -/
def OuPre (lo hi : Nat) (w : World) : Ous → (Nat → Option Value) → Nat → Nat → Prop
  | .nil, _, _, _ => True
  | .cons h sub rest, rd, o, k => k = 0 ∨ (OhAt lo hi w rd o h ∧
      (∃ a c, rd (o + 4) = some (.slice a sub.len c) ∧ (sub = .nil ∨ ∃ b o', a = some ⟨b, o', none⟩ ∧ lo ≤ b ∧ b < hi ∧ OuPre lo hi w sub (rdOf w b) o' sub.len)) ∧
      OuPre lo hi w rest rd (o + 5) (k - 1))
def OuRow (lo hi : Nat) (w : World) (a : Option Addr) (l : Ous) : Prop :=
  l = .nil ∨ ∃ b o, a = some ⟨b, o, none⟩ ∧ lo ≤ b ∧ b < hi ∧ OuPre lo hi w l (rdOf w b) o l.len
theorem OhAt.keep {lo hi : Nat} {w w' : World} {rd : Nat → Option Value} {o : Nat} {h : Oh} (hh : OhAt lo hi w rd o h) (hk : Agree lo hi w w') : OhAt lo hi w' rd o h := by
  obtain ⟨h0, h1, h2, a, c, h3, hc, h4⟩ := hh
  exact ⟨h0, h1, h2, a, c, h3, hc, h4.keep hk⟩
theorem OhAt.wide {lo hi lo' hi' : Nat} {w : World} {rd : Nat → Option Value} {o : Nat} {h : Oh} (hh : OhAt lo hi w rd o h) (e1 : lo' ≤ lo) (e2 : hi ≤ hi') : OhAt lo' hi' w rd o h := by
  obtain ⟨h0, h1, h2, a, c, h3, hc, h4⟩ := hh
  exact ⟨h0, h1, h2, a, c, h3, hc, h4.wide e1 e2⟩
theorem OuPre.keep {lo hi : Nat} {w w' : World} (hk : Agree lo hi w w') : ∀ {l : Ous} {rd : Nat → Option Value} {o k : Nat}, OuPre lo hi w l rd o k → OuPre lo hi w' l rd o k
  | .nil, _, _, _, _ => trivial
  | .cons h sub rest, rd, o, k, hp => by
    rcases hp with hp | ⟨p1, ⟨a, c, p2, p3⟩, p4⟩
    · exact .inl hp
    · refine .inr ⟨p1.keep hk, ⟨a, c, p2, ?_⟩, OuPre.keep hk p4⟩
      rcases p3 with p3 | ⟨b, o', e, e1, e2, p3⟩
      · exact .inl p3
      · exact .inr ⟨b, o', e, e1, e2, by rw [hk.rd e1 e2]; exact OuPre.keep hk p3⟩
theorem OuPre.wide {lo hi lo' hi' : Nat} {w : World} (e1 : lo' ≤ lo) (e2 : hi ≤ hi') : ∀ {l : Ous} {rd : Nat → Option Value} {o k : Nat}, OuPre lo hi w l rd o k → OuPre lo' hi' w l rd o k
  | .nil, _, _, _, _ => trivial
  | .cons h sub rest, rd, o, k, hp => by
    rcases hp with hp | ⟨p1, ⟨a, c, p2, p3⟩, p4⟩
    · exact .inl hp
    · refine .inr ⟨p1.wide e1 e2, ⟨a, c, p2, ?_⟩, OuPre.wide e1 e2 p4⟩
      rcases p3 with p3 | ⟨b, o', e, f1, f2, p3⟩
      · exact .inl p3
      · exact .inr ⟨b, o', e, by omega, by omega, OuPre.wide e1 e2 p3⟩
theorem OuRow.keep {lo hi : Nat} {w w' : World} {a : Option Addr} {l : Ous} (h : OuRow lo hi w a l) (hk : Agree lo hi w w') : OuRow lo hi w' a l := by
  rcases h with h | ⟨b, o, rfl, h1, h2, h3⟩
  · exact .inl h
  · exact .inr ⟨b, o, rfl, h1, h2, by rw [hk.rd h1 h2]; exact h3.keep hk⟩
theorem OuRow.wide {lo hi lo' hi' : Nat} {w : World} {a : Option Addr} {l : Ous} (h : OuRow lo hi w a l) (e1 : lo' ≤ lo) (e2 : hi ≤ hi') : OuRow lo' hi' w a l := by
  rcases h with h | ⟨b, o, rfl, h1, h2, h3⟩
  · exact .inl h
  · exact .inr ⟨b, o, rfl, by omega, by omega, h3.wide e1 e2⟩
theorem OuRow.up {w w' : World} {a : Option Addr} {l : Ous} (h : OuRow 0 w.heap.size w a l) (hb : Below w.heap.size w w') : OuRow 0 w'.heap.size w' a l :=
  (h.keep (agree hb (Nat.le_refl _))).wide (Nat.le_refl _) hb.size
/-- A list in memory from its k-th value on. -/
def OuFrom (lo hi : Nat) (w : World) (a : Option Addr) (k : Nat) (l : Ous) : Prop :=
  l = .nil ∨ ∃ b o, a = some ⟨b, o, none⟩ ∧ lo ≤ b ∧ b < hi ∧ OuPre lo hi w l (rdOf w b) (o + k * 5) l.len
theorem OuRow.from_ {lo hi : Nat} {w : World} {a : Option Addr} {l : Ous} (h : OuRow lo hi w a l) : OuFrom lo hi w a 0 l := by
  rcases h with h | ⟨b, o, rfl, h1, h2, h3⟩
  · exact .inl h
  · exact .inr ⟨b, o, rfl, h1, h2, by simpa using h3⟩
theorem OuFrom.keep {lo hi : Nat} {w w' : World} {a : Option Addr} {k : Nat} {l : Ous} (h : OuFrom lo hi w a k l) (hk : Agree lo hi w w') : OuFrom lo hi w' a k l := by
  rcases h with h | ⟨b, o, rfl, h1, h2, h3⟩
  · exact .inl h
  · exact .inr ⟨b, o, rfl, h1, h2, by rw [hk.rd h1 h2]; exact h3.keep hk⟩
theorem OuFrom.wide {lo hi lo' hi' : Nat} {w : World} {a : Option Addr} {k : Nat} {l : Ous} (h : OuFrom lo hi w a k l) (e1 : lo' ≤ lo) (e2 : hi ≤ hi') : OuFrom lo' hi' w a k l := by
  rcases h with h | ⟨b, o, rfl, h1, h2, h3⟩
  · exact .inl h
  · exact .inr ⟨b, o, rfl, by omega, by omega, h3.wide e1 e2⟩
theorem OuFrom.up {w w' : World} {a : Option Addr} {k : Nat} {l : Ous} (h : OuFrom 0 w.heap.size w a k l) (hb : Below w.heap.size w w') : OuFrom 0 w'.heap.size w' a k l :=
  (h.keep (agree hb (Nat.le_refl _))).wide (Nat.le_refl _) hb.size
/-- The k-th value's cells, its lists, and the rest. -/
theorem OuFrom.step {lo hi : Nat} {w : World} {a : Option Addr} {k : Nat} {h : Oh} {sub rest : Ous} (H : OuFrom lo hi w a k (.cons h sub rest)) :
    ∃ b o a1 c1 a2 c2, a = some ⟨b, o, none⟩ ∧ lo ≤ b ∧ b < hi ∧ w.cell? ⟨b, o + k * 5, none⟩ = some (.int .i64 h.k) ∧ w.cell? ⟨b, o + k * 5 + 1, none⟩ = some (.int .i64 h.n) ∧ w.cell? ⟨b, o + k * 5 + 2, none⟩ = some (.string h.t) ∧
      w.cell? ⟨b, o + k * 5 + 3, none⟩ = some (.slice a1 h.keys.length c1) ∧ w.cell? ⟨b, o + k * 5 + 4, none⟩ = some (.slice a2 sub.len c2) ∧ h.keys.length ≤ c1 ∧
      KeRow lo hi w a1 h.keys ∧ OuRow lo hi w a2 sub ∧ OuFrom lo hi w a (k + 1) rest := by
  rcases H with H | ⟨b, o, rfl, h1, h2, h3⟩
  · cases H
  · rcases h3 with h3 | ⟨⟨p0, p1, p2, a1, c1, p3, pc, q3⟩, ⟨a2, c2, p4, q4⟩, p6⟩
    · simp [Ous.len] at h3
    refine ⟨b, o, a1, c1, a2, c2, rfl, h1, h2, p0, p1, p2, p3, p4, pc, q3, q4, ?_⟩
    refine .inr ⟨b, o, rfl, h1, h2, ?_⟩
    rw [show o + (k + 1) * 5 = o + k * 5 + 5 by omega]
    have e : (Ous.cons h sub rest).len - 1 = rest.len := by simp [Ous.len]
    rw [e] at p6
    exact p6
/-- Bounds. -/
def OhBd (m : Nat) (h : Oh) : Prop := h.t.size ≤ m ∧ h.keys.length ≤ m ∧ ∀ x ∈ h.keys, x.size ≤ m
def OusBd (m : Nat) : Ous → Prop
  | .nil => True
  | .cons h sub rest => OhBd m h ∧ sub.len ≤ m ∧ OusBd m sub ∧ OusBd m rest
theorem five {α : Type} {l : List α} (h : l.length = 5) : ∃ a b c d e, l = [a, b, c, d, e] := by
  match l, h with
  | [a, b, c, d, e], _ => exact ⟨a, b, c, d, e, rfl⟩
def appO : List (Oh × Ous) → Ous → Ous
  | [], r => r
  | x :: l, r => .cons x.1 x.2 (appO l r)
theorem appO_len : ∀ (l : List (Oh × Ous)) (r : Ous), (appO l r).len = l.length + r.len
  | [], r => by simp [appO]
  | x :: l, r => by simp [appO, Ous.len, appO_len l r]; omega
section
variable {H : Type} {enc : TypeId × Value → H} {W : World}
theorem sl_open2 {t e : TypeId} {z : Nat} {fuel : Nat} {cs : List Value} {x : DataW H × List MemPlace} (ht : Tryz.prog.underlying t = some (.slice e)) (hz : Tryz.prog.cellsOf e = z) (hz0 : 0 < z) (h : DataW.trod enc Tryz.prog W 0 (fun _ => true) true fuel t cs = some x) :
    ∃ a len cap, cs = [.slice a len cap] ∧ len ≤ cap ∧ len ≤ maxLen ∧ (len = 0 ∨ ∃ n b o, fuel = n + 1 ∧ a = some ⟨b, o, none⟩ ∧ b < W.heap.size ∧
      ∀ i, i < len → ∃ cs' y, cs'.length = z ∧ (∀ j, j < z → rdOf W b (o + i * z + j) = cs'[j]?) ∧ DataW.trod enc Tryz.prog W 0 (fun _ => true) true n e cs' = some y) := by
  have h' := h
  rcases DataW.trod_slice ht h with ⟨rfl, _⟩ | ⟨a, len, cap, elems, rest, n, rfl, rfl, _, hb, hl, hm, hlen, hel, _, _⟩
  · exact ⟨none, 0, 0, rfl, Nat.le_refl _, Nat.zero_le _, .inl rfl⟩
  · obtain ⟨a', len', cap', e', h1, h2⟩ := sl_open ht hz hz0 h'
    simp only [List.cons.injEq, Value.slice.injEq, and_true] at e'
    obtain ⟨rfl, rfl, rfl⟩ := e'
    exact ⟨_, _, _, rfl, hl, h1, h2⟩
theorem keys_open {fuel : Nat} {cs : List Value} {x : DataW H × List MemPlace} (h : DataW.trod enc Tryz.prog W 0 (fun _ => true) true fuel 23 cs = some x) :
    ∃ a c, ∃ l : List ByteArray, cs = [.slice a l.length c] ∧ l.length ≤ c ∧ l.length ≤ maxLen ∧ (∀ x ∈ l, x.size ≤ maxLen) ∧ KeRow 0 W.heap.size W a l := by
  have cst : Tryz.prog.cellsOf 9 = 1 := by kernel_rfl
  obtain ⟨a, len, cap, rfl, hcap, hm, hr⟩ := sl_open2 Tryz.underlying23 (z := 1) cst (by omega) h
  rcases hr with rfl | ⟨n, b, o, rfl, rfl, hb, hx⟩
  · exact ⟨a, cap, [], rfl, Nat.zero_le _, Nat.zero_le _, by simp, .inl rfl⟩
  · obtain ⟨l, hl, hp⟩ := list_of (p := fun i x => KeAt (rdOf W b) (o + i * 1) x ∧ x.size ≤ maxLen) (fun i hi => by
      obtain ⟨cs', y, hcl, hc, hd⟩ := hx i hi
      obtain ⟨s, e0, _, hs⟩ := DataW.trod_string Tryz.underlying9 hd
      subst e0
      exact ⟨s, hc 0 (by omega), hs⟩)
    subst hl
    refine ⟨_, cap, l, rfl, hcap, hm, fun x hx => ?_, .inr ⟨b, o, rfl, Nat.zero_le _, hb, fun i x hx => (hp i x hx).1⟩⟩
    obtain ⟨i, hi, rfl⟩ := List.getElem_of_mem hx
    exact (hp i _ (List.getElem?_eq_getElem hi)).2
theorem ous_of {lo hi : Nat} {w : World} {rd : Nat → Option Value} {m : Nat} : ∀ {l : List (Oh × Ous)} {o : Nat}, (∀ i x, l[i]? = some x → OhAt lo hi w rd (o + i * 5) x.1 ∧ (∃ a c, rd (o + i * 5 + 4) = some (.slice a x.2.len c) ∧ OuRow lo hi w a x.2) ∧ OhBd m x.1 ∧ x.2.len ≤ m ∧ OusBd m x.2) →
    OuPre lo hi w (appO l .nil) rd o l.length ∧ OusBd m (appO l .nil)
  | [], _, _ => ⟨trivial, trivial⟩
  | x :: l, o, h => by
    obtain ⟨h1, h2, h3, h4, h5⟩ := h 0 x rfl
    have := ous_of (l := l) (o := o + 5) (fun i y hy => by
      have := h (i + 1) y (by simpa using hy)
      rw [show o + (i + 1) * 5 = o + 5 + i * 5 by omega] at this
      exact this)
    simp only [Nat.zero_mul, Nat.add_zero] at h1 h2
    exact ⟨.inr ⟨h1, h2, this.1⟩, h3, h4, h5, this.2⟩
theorem ous_open : ∀ {fuel : Nat} {cs : List Value} {x : DataW H × List MemPlace}, DataW.trod enc Tryz.prog W 0 (fun _ => true) true fuel 39 cs = some x →
    ∃ a c, ∃ l : Ous, cs = [.slice a l.len c] ∧ l.len ≤ maxLen ∧ OusBd maxLen l ∧ OuRow 0 W.heap.size W a l := by
  intro fuel
  induction fuel using Nat.strongRecOn with
  | _ fuel ih =>
  intro cs x h
  have ci : Tryz.prog.cellsOf 3 = 1 := by kernel_rfl
  have cst : Tryz.prog.cellsOf 9 = 1 := by kernel_rfl
  have cs1 : Tryz.prog.cellsOf 23 = 1 := by kernel_rfl
  have cs3 : Tryz.prog.cellsOf 39 = 1 := by kernel_rfl
  obtain ⟨a, len, cap, rfl, _, hm, hr⟩ := sl_open2 Tryz.underlying39 (z := 5) (by kernel_rfl) (by omega) h
  rcases hr with rfl | ⟨n, b, o, rfl, rfl, hb, hx⟩
  · exact ⟨a, cap, .nil, rfl, Nat.zero_le _, trivial, .inl rfl⟩
  · obtain ⟨l, hl, hp⟩ := list_of (p := fun i (x : Oh × Ous) => OhAt 0 W.heap.size W (rdOf W b) (o + i * 5) x.1 ∧ (∃ a c, rdOf W b (o + i * 5 + 4) = some (.slice a x.2.len c) ∧ OuRow 0 W.heap.size W a x.2) ∧ OhBd maxLen x.1 ∧ x.2.len ≤ maxLen ∧ OusBd maxLen x.2) (fun i hi => by
      obtain ⟨cs', y, hcl, hc, hd⟩ := hx i hi
      obtain ⟨xs, n', rfl, rfl, _, hxl, hf⟩ := DataW.trod_struct Tryz.underlying41 hd
      obtain ⟨v0, v1, v2, v3, v4, rfl⟩ := five hcl
      obtain ⟨y0, y1, y2, y3, y4, rfl⟩ := five hxl
      obtain ⟨k, e0, _, _⟩ := DataW.trod_int Tryz.underlying3 (hf 0 _ rfl)
      obtain ⟨n1, e1, _, _⟩ := DataW.trod_int Tryz.underlying3 (hf 1 _ rfl)
      obtain ⟨t, e2, _, ht⟩ := DataW.trod_string Tryz.underlying9 (hf 2 _ rfl)
      obtain ⟨a3, c3, keys, e3, q3, b3, d3, r3⟩ := keys_open (hf 3 _ rfl)
      obtain ⟨a5, c5, sub, e5, b5, d5, r5⟩ := ih n' (by omega) (hf 4 _ rfl)
      simp [ci, cst, cs1, cs3] at e0 e1 e2 e3 e5
      subst e0 e1 e2 e3 e5
      exact ⟨(⟨k, n1, t, keys⟩, sub), ⟨hc 0 (by omega), hc 1 (by omega), hc 2 (by omega), a3, c3, hc 3 (by omega), q3, r3⟩, ⟨a5, c5, hc 4 (by omega), r5⟩, ⟨ht, b3, d3⟩, b5, d5⟩)
    obtain ⟨q1, q2⟩ := ous_of hp
    have hal : (appO l .nil).len = len := by rw [appO_len, hl]; rfl
    refine ⟨_, cap, appO l .nil, by rw [hal], by omega, q2, .inr ⟨b, o, rfl, Nat.zero_le _, hb, ?_⟩⟩
    rw [hal, ← hl]; exact q1
/-- One value opened. -/
theorem out_open {fuel : Nat} {cs : List Value} {x : DataW H × List MemPlace} (h : DataW.trod enc Tryz.prog W 0 (fun _ => true) true fuel 41 cs = some x) :
    ∃ (h : Oh) (sub : Ous) (a1 a2 : Option Addr) (c1 c2 : Nat), cs = [.int .i64 h.k, .int .i64 h.n, .string h.t, .slice a1 h.keys.length c1, .slice a2 sub.len c2] ∧ h.keys.length ≤ c1 ∧ OhBd maxLen h ∧ sub.len ≤ maxLen ∧ OusBd maxLen sub ∧ KeRow 0 W.heap.size W a1 h.keys ∧ OuRow 0 W.heap.size W a2 sub := by
  have ci : Tryz.prog.cellsOf 3 = 1 := by kernel_rfl
  have cst : Tryz.prog.cellsOf 9 = 1 := by kernel_rfl
  have cs1 : Tryz.prog.cellsOf 23 = 1 := by kernel_rfl
  have cs3 : Tryz.prog.cellsOf 39 = 1 := by kernel_rfl
  have co : Tryz.prog.cellsOf 41 = 5 := by kernel_rfl
  obtain ⟨xs, n', rfl, rfl, hcl, hxl, hf⟩ := DataW.trod_struct Tryz.underlying41 h
  rw [co] at hcl
  obtain ⟨v0, v1, v2, v3, v4, rfl⟩ := five hcl
  obtain ⟨y0, y1, y2, y3, y4, rfl⟩ := five hxl
  obtain ⟨k, e0, _, _⟩ := DataW.trod_int Tryz.underlying3 (hf 0 _ rfl)
  obtain ⟨n1, e1, _, _⟩ := DataW.trod_int Tryz.underlying3 (hf 1 _ rfl)
  obtain ⟨t, e2, _, ht⟩ := DataW.trod_string Tryz.underlying9 (hf 2 _ rfl)
  obtain ⟨a3, c3, keys, e3, q3, b3, d3, r3⟩ := keys_open (hf 3 _ rfl)
  obtain ⟨a5, c5, sub, e5, b5, d5, r5⟩ := ous_open (hf 4 _ rfl)
  simp [ci, cst, cs1, cs3] at e0 e1 e2 e3 e5
  subst e0 e1 e2 e3 e5
  exact ⟨⟨k, n1, t, keys⟩, sub, a3, a5, c3, c5, rfl, q3, ⟨ht, b3, d3⟩, b5, d5, r3, r5⟩
end
end Go.Proofs.YtoaeggfnlenjkaaGreatDoor.G
namespace Go.Proofs.YtoaeggfnlenjkaaGreatDoor.G
open Go.ChangeShapes Go.WideShapes Go.ChangeAt Go.RowKit
set_option linter.unusedVariables false

theorem spec_nameOK (s : ByteArray) (w : World) (hs : s.size ≤ maxLen) :
    Calls Tryz.prog 87 #[.string s] w fun e w' => e = .returned (.bool (nameB s)) ∧ w' = w := by
  go_enter Tryz.func87, Tryz.ntmps87
  go_wp2_with fail
  refine (word_any s _ hs).mono ?_
  rintro e w1 ⟨rfl, rfl⟩
  go_wp2_with fail
  go_ret
  exact ⟨rfl, rfl⟩
theorem impl_nameOK (s : ByteArray) (w : World) (hs : s.size ≤ maxLen) :
    Calls Tryz.prog 113 #[.string s] w fun e w' => e = .returned (.bool (nameB s)) ∧ Below w.heap.size w w' := by
  refine (nameOK_any s w hs).mono ?_
  rintro e w1 ⟨rfl, hw⟩
  refine ⟨rfl, ?_⟩
  rcases hw with rfl | ⟨pos, rfl⟩
  · exact Below.refl _ _
  · exact (Below.refl _ _).alloc (Nat.le_refl _) _

def inB (n a b : Int) : Bool := decide (a ≤ n ∧ n ≤ b)
set_option maxHeartbeats 400000 in
theorem spec_in (n a b : Int) (w : World) : Calls Tryz.prog 48 #[.int .i64 n, .int .i64 a, .int .i64 b] w fun e w' => e = .returned (.bool (inB n a b)) ∧ w' = w := by
  go_enter Tryz.func48, Tryz.ntmps48
  go_wp2
  all_goals (go_ret; exact ⟨ret_bool (by unfold inB; rw [Bool.eq_iff_iff]; simp; omega), rfl⟩)
end Go.Proofs.YtoaeggfnlenjkaaGreatDoor.G
namespace Go.Proofs.YtoaeggfnlenjkaaGreatDoor.G
set_option linter.unusedVariables false

def hasK (ns : List ByteArray) (s : ByteArray) : Bool := ns.any fun t => t.toList == s.toList
def keyB (keys : List ByteArray) (i : Nat) : Bool := match keys[i]? with | some s => nameB s && !hasK (keys.take i) s | none => false
def keysB (keys : List ByteArray) : Bool := (List.range keys.length).all (keyB keys)
def intO (v : Int) : Bool := decide (-2147483648 ≤ v ∧ v ≤ 2147483647)
def plainB (h : Oh) (sub : Ous) : Bool := decide (h.keys.length = 0) && decide (sub.len = 0)
def noT (h : Oh) : Bool := h.t.toList.isEmpty
/-- One value but for its items. -/
def headB (h : Oh) (sub : Ous) : Bool :=
  if h.k = 0 then plainB h sub && (h.n == 0) && noT h
  else if h.k = 1 then plainB h sub && intO h.n && noT h
  else if h.k = 2 then plainB h sub && (h.n == 0) && nameB h.t
  else if h.k = 3 then (h.n == 0) && noT h && decide (h.keys.length = 0)
  else if h.k = 4 then (h.n == 0) && noT h && decide (h.keys.length = sub.len) && keysB h.keys
  else false
/-- All values of a list, each in fewer than d others. -/
def okO : Nat → Ous → Bool
  | _, .nil => true
  | d, .cons h sub rest => decide (0 < d) && headB h sub && okO (d - 1) sub && okO d rest
def oneO (d : Nat) (h : Oh) (sub : Ous) : Bool := decide (0 < d) && headB h sub && okO (d - 1) sub
def outB (d : Nat) (h : Oh) (sub : Ous) : Bool := oneO d h sub && decide (1 + sub.size ≤ 4000)
theorem okO_cons (d : Nat) (h : Oh) (sub rest : Ous) : okO d (.cons h sub rest) = (oneO d h sub && okO d rest) := rfl
theorem keyB_eq {keys : List ByteArray} {i : Nat} (h : i < keys.length) : keyB keys i = (nameB keys[i] && !hasK (keys.take i) keys[i]) := by simp [keyB, h]
theorem keysB_true {keys : List ByteArray} (h : ∀ i, i < keys.length → keyB keys i = true) : keysB keys = true := by
  unfold keysB; rw [List.all_eq_true]; intro i hi; exact h i (List.mem_range.1 hi)
theorem keysB_false {keys : List ByteArray} {i : Nat} (hi : i < keys.length) (h : keyB keys i = false) : keysB keys = false := by
  unfold keysB; rw [List.all_eq_false]; exact ⟨i, List.mem_range.2 hi, by simp [h]⟩
theorem keysB_at {keys : List ByteArray} (h : keysB keys = true) {i : Nat} (hi : i < keys.length) : keyB keys i = true := by
  unfold keysB at h; rw [List.all_eq_true] at h; exact h i (List.mem_range.2 hi)
theorem hasK_take {ns : List ByteArray} {s : ByteArray} {k : Nat} (h : k < ns.length) : hasK (ns.take (k + 1)) s = (hasK (ns.take k) s || (ns[k].toList == s.toList)) := by
  unfold hasK; rw [List.take_succ_eq_append_getElem h, List.any_append]; simp
theorem hasK_of {ns : List ByteArray} {s : ByteArray} {k : Nat} (h : k < ns.length) (he : (ns[k].toList == s.toList) = true) : hasK ns s = true := by
  unfold hasK; rw [List.any_eq_true]; exact ⟨ns[k], List.getElem_mem h, he⟩
/-- No deep value: 0. -/
theorem outB_zero (h : Oh) (sub : Ous) : outB 0 h sub = false := rfl
theorem outB_head {d : Nat} {h : Oh} {sub : Ous} (hh : headB h sub = false) : outB d h sub = false := by simp [outB, oneO, hh]
theorem plain_nil {h : Oh} {sub : Ous} (hp : plainB h sub = true) : sub = .nil := by
  simp only [plainB, Bool.and_eq_true, decide_eq_true_eq] at hp
  exact Ous.nil_of hp.2
/-- A value without items. -/
theorem outB_leaf {d : Nat} {h : Oh} {sub : Ous} (hd : 0 < d) (hk : h.k = 0 ∨ h.k = 1 ∨ h.k = 2) : outB d h sub = headB h sub := by
  cases hh : headB h sub
  · exact outB_head hh
  · have hs : sub = .nil := by
      unfold headB at hh
      rcases hk with e | e | e <;> simp only [e] at hh <;> simp at hh <;> exact plain_nil hh.1.1
    subst hs
    simp [outB, oneO, hh, hd, okO, Ous.size]
theorem outB_big {d : Nat} {h : Oh} {sub : Ous} (hs : 4000 < 1 + sub.size) : outB d h sub = false := by
  simp only [outB]; rw [decide_eq_false (by omega)]; simp
theorem outB_sub {d : Nat} {h : Oh} {sub : Ous} (hs : okO (d - 1) sub = false) : outB d h sub = false := by simp [outB, oneO, hs]
theorem outB_yes {d : Nat} {h : Oh} {sub : Ous} (hd : 0 < d) (hh : headB h sub = true) (ho : okO (d - 1) sub = true) (hs : 1 + sub.size ≤ 4000) : outB d h sub = true := by
  simp [outB, oneO, hd, hh, ho, hs]
theorem outB_all {d : Nat} {h : Oh} {sub : Ous} (ho : outB d h sub = true) : 0 < d ∧ headB h sub = true ∧ okO (d - 1) sub = true ∧ 1 + sub.size ≤ 4000 := by
  simp only [outB, oneO, Bool.and_eq_true, decide_eq_true_eq] at ho
  exact ⟨ho.1.1.1, ho.1.1.2, ho.1.2, ho.2⟩
/-- The rule of lists and objects ahead of their items. -/
def groupB (h : Oh) (sub : Ous) : Bool := (h.k == 3 || h.k == 4) && (h.n == 0) && noT h && (!(h.k == 3) || decide (h.keys.length = 0)) && (!(h.k == 4) || decide (h.keys.length = sub.len))
theorem head_group {h : Oh} {sub : Ous} (hk : h.k ≠ 0 ∧ h.k ≠ 1 ∧ h.k ≠ 2) : headB h sub = (groupB h sub && (!(h.k == 4) || keysB h.keys)) := by
  unfold headB groupB
  rw [if_neg hk.1, if_neg hk.2.1, if_neg hk.2.2]
  by_cases h3 : h.k = 3
  · simp [h3]
  · rw [if_neg h3]
    by_cases h4 : h.k = 4
    · simp [h4]
    · rw [if_neg h4]; simp [h3, h4]
end Go.Proofs.YtoaeggfnlenjkaaGreatDoor.G
namespace Go.Proofs.YtoaeggfnlenjkaaGreatDoor
open Go.ChangeShapes Go.WideShapes Go.ChangeAt Go.RowKit
set_option linter.unusedVariables false

def intB (n : Int) : Bool := decide (-2147483648 ≤ n ∧ n ≤ 2147483647)
set_option maxHeartbeats 400000 in
theorem spec_isInt (n : Int) (w : World) : Calls Tryz.prog 110 #[.int .i64 n] w fun e w' => e = .returned (.bool (intB n)) ∧ w' = w := by
  go_enter Tryz.func110, Tryz.ntmps110
  go_wp2
  all_goals (go_ret; exact ⟨ret_bool (by unfold intB; rw [Bool.eq_iff_iff]; simp; omega), rfl⟩)
set_option maxHeartbeats 400000 in
theorem impl_isInt (n : Int) (w : World) : Calls Tryz.prog 120 #[.int .i64 n] w fun e w' => e = .returned (.bool (intB n)) ∧ w' = w := by
  go_enter Tryz.func120, Tryz.ntmps120
  go_wp2
  all_goals (go_ret; exact ⟨ret_bool (by unfold intB; rw [Bool.eq_iff_iff]; simp; omega), rfl⟩)
theorem spec_nameOK (s : ByteArray) (w : World) (hs : s.size ≤ maxLen) :
    Calls Tryz.prog 87 #[.string s] w fun e w' => e = .returned (.bool (nameB s)) ∧ w' = w := by
  go_enter Tryz.func87, Tryz.ntmps87
  go_wp2_with fail
  refine (word_any s _ hs).mono ?_
  rintro e w1 ⟨rfl, rfl⟩
  go_wp2_with fail
  go_ret
  exact ⟨rfl, rfl⟩
theorem impl_nameOK (s : ByteArray) (w : World) (hs : s.size ≤ maxLen) :
    Calls Tryz.prog 113 #[.string s] w fun e w' => e = .returned (.bool (nameB s)) ∧ Below w.heap.size w w' := by
  refine (nameOK_any s w hs).mono ?_
  rintro e w1 ⟨rfl, hw⟩
  refine ⟨rfl, ?_⟩
  rcases hw with rfl | ⟨pos, rfl⟩
  · exact Below.refl _ _
  · exact (Below.refl _ _).alloc (Nat.le_refl _) _

theorem bcell {W w1 : World} (hb : Below W.heap.size W w1) : (∀ b o, b < W.heap.size → w1.cell? ⟨b, o, none⟩ = W.cell? ⟨b, o, none⟩) ∧ (∀ b o, b < W.heap.size → w1.frozen? ⟨b, o, none⟩ = W.frozen? ⟨b, o, none⟩) :=
  ⟨fun b o h => hb.cell (p := ⟨b, o, none⟩) h, fun b o h => hb.frozen (p := ⟨b, o, none⟩) h⟩

theorem ret_int {k : IntKind} {a b : Int} (h : a = b) : Ending.returned (.int k a) = .returned (.int k b) := by rw [h]
end Go.Proofs.YtoaeggfnlenjkaaGreatDoor
namespace Go.Proofs.YtoaeggfnlenjkaaGreatDoor
open Go.ChangeShapes Go.WideShapes Go.ChangeAt Go.RowKit
set_option linter.unusedVariables false

theorem conv1 (n : Int) (W : World) (b : Nat) (hc : W.cell? ⟨b, 0, none⟩ = some (.int .u8 n)) :
    (convert 22 9 (.slice (some ⟨b, 0, none⟩) 1 1)).run Tryz.prog W = .ok (.string ⟨#[UInt8.ofNat n.toNat]⟩) W := by
  rw [run_convert_bytes_string W 22 9 5 _ 1 1 Tryz.underlying22 Tryz.underlying5 Tryz.underlying9]
  rw [run_bytesToString W ⟨b, 0, none⟩ 1 1 [n] (run_loadCells_list W ⟨b, 0, none⟩ [.int .u8 n] (fun j v hv => by
    cases j with
    | zero => simp at hv; subst hv; simpa [Addr.add] using hc
    | succ j => simp at hv))]
  rfl
theorem ret_str {a b : ByteArray} (h : a = b) : Ending.returned (.string a) = .returned (.string b) := by rw [h]

set_option maxHeartbeats 1000000 in
theorem digs_small (n : Int) (w : World) (h0 : 0 ≤ n) (h1 : n < 10) :
    Calls Tryz.prog 79 #[.int .i64 n] w fun e w' => e = .returned (.string ⟨(Lib.decDigits n.toNat).toArray⟩) ∧ Below w.heap.size w w' := by
  have g0 : (n == -9223372036854775808) = false := by rw [beq_eq_false_iff_ne]; omega
  have HF : Hid ((⟨#[UInt8.ofNat (48 + n).toNat]⟩ : ByteArray) = ⟨(Lib.decDigits n.toNat).toArray⟩) := by
    unfold Hid; rw [Lib.decDigits_one (by omega), show (48 + n).toNat = 48 + n.toNat by omega]
  have hcv := conv1 (48 + n)
  go_enter Tryz.func79, Tryz.ntmps79
  go_wp2_with fail
  go_ret
  exact ⟨ret_str HF.out, (Below.refl _ _).alloc (Nat.le_refl _) _⟩

theorem quo10 (n : Int) (h0 : 0 ≤ n) (h1 : n ≤ 9223372036854775807) : IntKind.i64.wrap (n.tdiv 10) = n / 10 := by
  rw [Int.tdiv_eq_ediv_of_nonneg h0, wrap_small _ (by omega) (by omega)]
theorem rem10 (n : Int) (h0 : 0 ≤ n) : IntKind.u8.wrap (IntKind.i64.wrap (48 + n.tmod 10)) = 48 + n % 10 := by
  rw [Int.tmod_eq_emod_of_nonneg h0, wrap_small _ (by omega) (by omega), IntKind.wrap_u8]; omega
theorem digs_step (n : Int) (h0 : 0 ≤ n) (hn : ¬ n < 10) : (⟨(Lib.decDigits (n / 10).toNat).toArray⟩ : ByteArray) ++ (⟨#[UInt8.ofNat (48 + n % 10).toNat]⟩ : ByteArray) = ⟨(Lib.decDigits n.toNat).toArray⟩ := by
  rw [Lib.decDigits.eq_def n.toNat, dif_neg (by omega), show n.toNat / 10 = (n / 10).toNat by omega, show (48 + n % 10).toNat = 48 + n.toNat % 10 by omega]
  generalize Lib.decDigits (n / 10).toNat = D
  apply ByteArray.ext
  simp
theorem digs_len (n : Int) (h1 : n ≤ 9223372036854775807) : (⟨(Lib.decDigits n.toNat).toArray⟩ : ByteArray).size ≤ 20 := by
  have := Lib.nDigits_le20 n.toNat (by omega)
  rw [← Lib.decDigits_length] at this
  exact this

set_option maxHeartbeats 400000 in
theorem digs_nat (k : Nat) : ∀ (n : Int) (w : World), n ≤ k → 0 ≤ n → n ≤ 9223372036854775807 →
    Calls Tryz.prog 79 #[.int .i64 n] w fun e w' => e = .returned (.string ⟨(Lib.decDigits n.toNat).toArray⟩) ∧ Below w.heap.size w w' := by
  induction k with
  | zero =>
    intro n w hk h0 h1
    exact digs_small n w h0 (by omega)
  | succ k ih =>
    intro n w hk h0 h1
    by_cases hn : n < 10
    · exact digs_small n w h0 hn
    have g0 : (n == -9223372036854775808) = false := by rw [beq_eq_false_iff_ne]; omega
    have HS : Hid _ := digs_step n h0 hn
    have hln := digs_len (n / 10) (by omega)
    have hcv := conv1 (48 + n % 10)
    have e1 := quo10 n h0 h1
    have e2 := rem10 n h0
    have HI : Hid (∀ W : World, Calls Tryz.prog 79 #[.int .i64 (n / 10)] W fun e w' => e = .returned (.string ⟨(Lib.decDigits (n / 10).toNat).toArray⟩) ∧ Below W.heap.size W w') := fun W => ih (n / 10) W (by omega) (by omega) (by omega)
    clear ih hk
    have hS1 : (⟨#[UInt8.ofNat (48 + n % 10).toNat]⟩ : ByteArray).size = 1 := rfl
    generalize (⟨(Lib.decDigits (n / 10).toNat).toArray⟩ : ByteArray) = S at *
    generalize (⟨#[UInt8.ofNat (48 + n % 10).toNat]⟩ : ByteArray) = T at *
    have hno : ¬ (9223372036854775807 < S.size + T.size) := by omega
    clear hS1 hln
    go_enter Tryz.func79, Tryz.ntmps79
    go_wp2_with fail
    go_region_with (go_at_call 79; refine (HI.out _).mono ?_; rintro e w1 ⟨rfl, hb1⟩; obtain ⟨hc1, hf1⟩ := bcell hb1)
    all_goals
      have q : Below w.heap.size w w1 := by
        have q1 := hb1.size
        first
          | exact ((Below.refl _ _).drew).trans (hb1.mono (Nat.le_refl _))
          | exact (((Below.refl _ _).alloc (Nat.le_refl _) _).drew).trans (hb1.mono (by simp))
      go_wp2_with fail
      go_ret
      refine ⟨ret_str HS.out, ?_⟩
      first
        | exact q
        | exact q.alloc q.size _

set_option maxHeartbeats 1000000 in
theorem digs_any (n : Int) (w : World) (h0 : -9223372036854775807 ≤ n) (h1 : n ≤ 9223372036854775807) :
    Calls Tryz.prog 79 #[.int .i64 n] w fun e w' => e = .returned (.string ⟨(Lib.itoa n).toArray⟩) ∧ Below w.heap.size w w' := by
  by_cases hn : n < 0
  · have g0 : (n == -9223372036854775808) = false := by rw [beq_eq_false_iff_ne]; omega
    have HF : Hid ((⟨#[45]⟩ : ByteArray) ++ ⟨(Lib.decDigits (-n).toNat).toArray⟩ = ⟨(Lib.itoa n).toArray⟩) := by
      unfold Hid Lib.itoa; rw [if_pos hn, show n.natAbs = (-n).toNat by omega]
      apply ByteArray.ext
      simp
    have hln := digs_len (-n) (by omega)
    have HI : Hid (∀ W : World, Calls Tryz.prog 79 #[.int .i64 (-n)] W fun e w' => e = .returned (.string ⟨(Lib.decDigits (-n).toNat).toArray⟩) ∧ Below W.heap.size W w') := fun W => digs_nat (-n).toNat (-n) W (by omega) (by omega) (by omega)
    generalize (⟨(Lib.decDigits (-n).toNat).toArray⟩ : ByteArray) = S at *
    have hno : ¬ (9223372036854775807 < (⟨#[45]⟩ : ByteArray).size + S.size) := by have : (⟨#[45]⟩ : ByteArray).size = 1 := rfl; omega
    go_enter Tryz.func79, Tryz.ntmps79
    go_wp2_with (go_at_call 79; refine (HI.out _).mono ?_; rintro e w1 ⟨rfl, hb1⟩)
    go_ret
    exact ⟨ret_str HF.out, hb1⟩
  · refine (digs_nat n.toNat n w (by omega) (by omega) h1).mono ?_
    rintro e w1 ⟨rfl, hb⟩
    exact ⟨ret_str (by unfold Lib.itoa; rw [if_neg hn]), hb⟩
end Go.Proofs.YtoaeggfnlenjkaaGreatDoor
