/- The law's marks: their texts. -/
import Derived.Test.YtdchpeifpiglmaaGreatDoorStMark
import Derived.Deep.CutBlock
import Derived.Deep.CutRange
import Derived.Lib.ItoaNum
import Derived.Lib.ItoaLen
namespace Go.Proofs.YtdchpeifpiglmaaGreatDoor.G
open Go.ChangeShapes Go.WideShapes Go.ChangeAt Go.RowKit
set_option linter.unusedVariables false

/-- A value but for its items. -/
structure Oh where
  k : Int
  n : Int
  t : ByteArray
  keys : List ByteArray
/-- A list of values: the first one, its items, and the rest. -/
inductive Ous where
  | nil
  | cons (h : Oh) (sub rest : Ous)
namespace Ous
def len : Ous → Nat
  | .nil => 0
  | .cons _ _ rest => rest.len + 1
def size : Ous → Nat
  | .nil => 0
  | .cons _ sub rest => 1 + sub.size + rest.size
theorem len_le_size : ∀ l : Ous, l.len ≤ l.size
  | .nil => Nat.le_refl _
  | .cons h sub rest => by have := len_le_size rest; simp [len, size]; omega
theorem nil_of {l : Ous} (h : l.len = 0) : l = .nil := by cases l with | nil => rfl | cons h s r => simp [len] at h
end Ous
def KeAt (rd : Nat → Option Value) (o : Nat) (x : ByteArray) : Prop := rd o = some (.string x)
abbrev KeRow (lo hi : Nat) (w : World) (a : Option Addr) (l : List ByteArray) : Prop := Row KeAt 1 lo hi w a l
theorem KeRow.keep {lo hi : Nat} {w w' : World} {a : Option Addr} {l : List ByteArray} (h : KeRow lo hi w a l) (hk : Agree lo hi w w') : KeRow lo hi w' a l := Row.of h hk fun _ _ _ hx => hx
theorem KeRow.wide {lo hi lo' hi' : Nat} {w : World} {a : Option Addr} {l : List ByteArray} (h : KeRow lo hi w a l) (e1 : lo' ≤ lo) (e2 : hi ≤ hi') : KeRow lo' hi' w a l := Row.out h e1 e2 fun _ _ _ hx => hx
theorem KeRow.up {w w' : World} {a : Option Addr} {l : List ByteArray} (h : KeRow 0 w.heap.size w a l) (hb : Below w.heap.size w w') : KeRow 0 w'.heap.size w' a l := KeRow.wide (KeRow.keep h (agree hb (Nat.le_refl _))) (Nat.le_refl _) hb.size
theorem KeRow.cells {lo hi : Nat} {w : World} {a : Option Addr} {l : List ByteArray} (h : KeRow lo hi w a l) (k : Nat) (hk : k < l.length) :
    ∃ b o, a = some ⟨b, o, none⟩ ∧ lo ≤ b ∧ b < hi ∧ w.cell? ⟨b, o + k, none⟩ = some (.string l[k]) := by
  obtain ⟨b, o, e1, e2, e3, h0⟩ := Row.at_ h k hk
  rw [Nat.mul_one] at h0
  exact ⟨b, o, e1, e2, e3, h0⟩
theorem KeRow.take {lo hi : Nat} {w : World} {a : Option Addr} {x : List ByteArray} (h : KeRow lo hi w a x) (n : Nat) : KeRow lo hi w a (x.take n) := by
  rcases h with rfl | ⟨b, o, e, h1, h2, h3⟩
  · exact .inl (by simp)
  · exact .inr ⟨b, o, e, h1, h2, fun i y hy => h3 i y (by rw [List.getElem?_take] at hy; split at hy; exact hy; cases hy)⟩
/-- One value's cells but the last. -/
def OhAt (lo hi : Nat) (w : World) (rd : Nat → Option Value) (o : Nat) (h : Oh) : Prop :=
  rd o = some (.int .i64 h.k) ∧ rd (o + 1) = some (.int .i64 h.n) ∧ rd (o + 2) = some (.string h.t) ∧ ∃ a c, rd (o + 3) = some (.slice a h.keys.length c) ∧ h.keys.length ≤ c ∧ KeRow lo hi w a h.keys
/-- The first k of a list. -/
def OuPre (lo hi : Nat) (w : World) : Ous → (Nat → Option Value) → Nat → Nat → Prop
  | .nil, _, _, _ => True
  | .cons h sub rest, rd, o, k => k = 0 ∨ (OhAt lo hi w rd o h ∧
      (∃ a c, rd (o + 4) = some (.slice a sub.len c) ∧ (sub = .nil ∨ ∃ b o', a = some ⟨b, o', none⟩ ∧ lo ≤ b ∧ b < hi ∧ OuPre lo hi w sub (rdOf w b) o' sub.len)) ∧
      OuPre lo hi w rest rd (o + 5) (k - 1))
def OuRow (lo hi : Nat) (w : World) (a : Option Addr) (l : Ous) : Prop :=
  l = .nil ∨ ∃ b o, a = some ⟨b, o, none⟩ ∧ lo ≤ b ∧ b < hi ∧ OuPre lo hi w l (rdOf w b) o l.len
theorem OhAt.keep {lo hi : Nat} {w w' : World} {rd : Nat → Option Value} {o : Nat} {h : Oh} (hh : OhAt lo hi w rd o h) (hk : Agree lo hi w w') : OhAt lo hi w' rd o h := by
  obtain ⟨h0, h1, h2, a, c, h3, hc, h4⟩ := hh
  exact ⟨h0, h1, h2, a, c, h3, hc, h4.keep hk⟩
theorem OhAt.wide {lo hi lo' hi' : Nat} {w : World} {rd : Nat → Option Value} {o : Nat} {h : Oh} (hh : OhAt lo hi w rd o h) (e1 : lo' ≤ lo) (e2 : hi ≤ hi') : OhAt lo' hi' w rd o h := by
  obtain ⟨h0, h1, h2, a, c, h3, hc, h4⟩ := hh
  exact ⟨h0, h1, h2, a, c, h3, hc, h4.wide e1 e2⟩
theorem OuPre.keep {lo hi : Nat} {w w' : World} (hk : Agree lo hi w w') : ∀ {l : Ous} {rd : Nat → Option Value} {o k : Nat}, OuPre lo hi w l rd o k → OuPre lo hi w' l rd o k
  | .nil, _, _, _, _ => trivial
  | .cons h sub rest, rd, o, k, hp => by
    rcases hp with hp | ⟨p1, ⟨a, c, p2, p3⟩, p4⟩
    · exact .inl hp
    · refine .inr ⟨p1.keep hk, ⟨a, c, p2, ?_⟩, OuPre.keep hk p4⟩
      rcases p3 with p3 | ⟨b, o', e, e1, e2, p3⟩
      · exact .inl p3
      · exact .inr ⟨b, o', e, e1, e2, by rw [hk.rd e1 e2]; exact OuPre.keep hk p3⟩
theorem OuPre.wide {lo hi lo' hi' : Nat} {w : World} (e1 : lo' ≤ lo) (e2 : hi ≤ hi') : ∀ {l : Ous} {rd : Nat → Option Value} {o k : Nat}, OuPre lo hi w l rd o k → OuPre lo' hi' w l rd o k
  | .nil, _, _, _, _ => trivial
  | .cons h sub rest, rd, o, k, hp => by
    rcases hp with hp | ⟨p1, ⟨a, c, p2, p3⟩, p4⟩
    · exact .inl hp
    · refine .inr ⟨p1.wide e1 e2, ⟨a, c, p2, ?_⟩, OuPre.wide e1 e2 p4⟩
      rcases p3 with p3 | ⟨b, o', e, f1, f2, p3⟩
      · exact .inl p3
      · exact .inr ⟨b, o', e, by omega, by omega, OuPre.wide e1 e2 p3⟩
theorem OuRow.keep {lo hi : Nat} {w w' : World} {a : Option Addr} {l : Ous} (h : OuRow lo hi w a l) (hk : Agree lo hi w w') : OuRow lo hi w' a l := by
  rcases h with h | ⟨b, o, rfl, h1, h2, h3⟩
  · exact .inl h
  · exact .inr ⟨b, o, rfl, h1, h2, by rw [hk.rd h1 h2]; exact h3.keep hk⟩
theorem OuRow.wide {lo hi lo' hi' : Nat} {w : World} {a : Option Addr} {l : Ous} (h : OuRow lo hi w a l) (e1 : lo' ≤ lo) (e2 : hi ≤ hi') : OuRow lo' hi' w a l := by
  rcases h with h | ⟨b, o, rfl, h1, h2, h3⟩
  · exact .inl h
  · exact .inr ⟨b, o, rfl, by omega, by omega, h3.wide e1 e2⟩
theorem OuRow.up {w w' : World} {a : Option Addr} {l : Ous} (h : OuRow 0 w.heap.size w a l) (hb : Below w.heap.size w w') : OuRow 0 w'.heap.size w' a l :=
  (h.keep (agree hb (Nat.le_refl _))).wide (Nat.le_refl _) hb.size
/-- A list in memory from its k-th value on. -/
def OuFrom (lo hi : Nat) (w : World) (a : Option Addr) (k : Nat) (l : Ous) : Prop :=
  l = .nil ∨ ∃ b o, a = some ⟨b, o, none⟩ ∧ lo ≤ b ∧ b < hi ∧ OuPre lo hi w l (rdOf w b) (o + k * 5) l.len
theorem OuRow.from_ {lo hi : Nat} {w : World} {a : Option Addr} {l : Ous} (h : OuRow lo hi w a l) : OuFrom lo hi w a 0 l := by
  rcases h with h | ⟨b, o, rfl, h1, h2, h3⟩
  · exact .inl h
  · exact .inr ⟨b, o, rfl, h1, h2, by simpa using h3⟩
theorem OuFrom.keep {lo hi : Nat} {w w' : World} {a : Option Addr} {k : Nat} {l : Ous} (h : OuFrom lo hi w a k l) (hk : Agree lo hi w w') : OuFrom lo hi w' a k l := by
  rcases h with h | ⟨b, o, rfl, h1, h2, h3⟩
  · exact .inl h
  · exact .inr ⟨b, o, rfl, h1, h2, by rw [hk.rd h1 h2]; exact h3.keep hk⟩
theorem OuFrom.wide {lo hi lo' hi' : Nat} {w : World} {a : Option Addr} {k : Nat} {l : Ous} (h : OuFrom lo hi w a k l) (e1 : lo' ≤ lo) (e2 : hi ≤ hi') : OuFrom lo' hi' w a k l := by
  rcases h with h | ⟨b, o, rfl, h1, h2, h3⟩
  · exact .inl h
  · exact .inr ⟨b, o, rfl, by omega, by omega, h3.wide e1 e2⟩
theorem OuFrom.up {w w' : World} {a : Option Addr} {k : Nat} {l : Ous} (h : OuFrom 0 w.heap.size w a k l) (hb : Below w.heap.size w w') : OuFrom 0 w'.heap.size w' a k l :=
  (h.keep (agree hb (Nat.le_refl _))).wide (Nat.le_refl _) hb.size
/-- The k-th value's cells, its lists, and the rest. -/
theorem OuFrom.step {lo hi : Nat} {w : World} {a : Option Addr} {k : Nat} {h : Oh} {sub rest : Ous} (H : OuFrom lo hi w a k (.cons h sub rest)) :
    ∃ b o a1 c1 a2 c2, a = some ⟨b, o, none⟩ ∧ lo ≤ b ∧ b < hi ∧ w.cell? ⟨b, o + k * 5, none⟩ = some (.int .i64 h.k) ∧ w.cell? ⟨b, o + k * 5 + 1, none⟩ = some (.int .i64 h.n) ∧ w.cell? ⟨b, o + k * 5 + 2, none⟩ = some (.string h.t) ∧
      w.cell? ⟨b, o + k * 5 + 3, none⟩ = some (.slice a1 h.keys.length c1) ∧ w.cell? ⟨b, o + k * 5 + 4, none⟩ = some (.slice a2 sub.len c2) ∧ h.keys.length ≤ c1 ∧
      KeRow lo hi w a1 h.keys ∧ OuRow lo hi w a2 sub ∧ OuFrom lo hi w a (k + 1) rest := by
  rcases H with H | ⟨b, o, rfl, h1, h2, h3⟩
  · cases H
  · rcases h3 with h3 | ⟨⟨p0, p1, p2, a1, c1, p3, pc, q3⟩, ⟨a2, c2, p4, q4⟩, p6⟩
    · simp [Ous.len] at h3
    refine ⟨b, o, a1, c1, a2, c2, rfl, h1, h2, p0, p1, p2, p3, p4, pc, q3, q4, ?_⟩
    refine .inr ⟨b, o, rfl, h1, h2, ?_⟩
    rw [show o + (k + 1) * 5 = o + k * 5 + 5 by omega]
    have e : (Ous.cons h sub rest).len - 1 = rest.len := by simp [Ous.len]
    rw [e] at p6
    exact p6
/-- Bounds. -/
def OhBd (m : Nat) (h : Oh) : Prop := h.t.size ≤ m ∧ h.keys.length ≤ m ∧ ∀ x ∈ h.keys, x.size ≤ m
def OusBd (m : Nat) : Ous → Prop
  | .nil => True
  | .cons h sub rest => OhBd m h ∧ sub.len ≤ m ∧ OusBd m sub ∧ OusBd m rest
theorem five {α : Type} {l : List α} (h : l.length = 5) : ∃ a b c d e, l = [a, b, c, d, e] := by
  match l, h with
  | [a, b, c, d, e], _ => exact ⟨a, b, c, d, e, rfl⟩
def appO : List (Oh × Ous) → Ous → Ous
  | [], r => r
  | x :: l, r => .cons x.1 x.2 (appO l r)
theorem appO_len : ∀ (l : List (Oh × Ous)) (r : Ous), (appO l r).len = l.length + r.len
  | [], r => by simp [appO]
  | x :: l, r => by simp [appO, Ous.len, appO_len l r]; omega
section
variable {H : Type} {enc : TypeId × Value → H} {W : World}
theorem sl_open2 {t e : TypeId} {z : Nat} {fuel : Nat} {cs : List Value} {x : DataW H × List MemPlace} (ht : Tryz.prog.underlying t = some (.slice e)) (hz : Tryz.prog.cellsOf e = z) (hz0 : 0 < z) (h : DataW.trod enc Tryz.prog W 0 (fun _ => true) true fuel t cs = some x) :
    ∃ a len cap, cs = [.slice a len cap] ∧ len ≤ cap ∧ len ≤ maxLen ∧ (len = 0 ∨ ∃ n b o, fuel = n + 1 ∧ a = some ⟨b, o, none⟩ ∧ b < W.heap.size ∧
      ∀ i, i < len → ∃ cs' y, cs'.length = z ∧ (∀ j, j < z → rdOf W b (o + i * z + j) = cs'[j]?) ∧ DataW.trod enc Tryz.prog W 0 (fun _ => true) true n e cs' = some y) := by
  have h' := h
  rcases DataW.trod_slice ht h with ⟨rfl, _⟩ | ⟨a, len, cap, elems, rest, n, rfl, rfl, _, hb, hl, hm, hlen, hel, _, _⟩
  · exact ⟨none, 0, 0, rfl, Nat.le_refl _, Nat.zero_le _, .inl rfl⟩
  · obtain ⟨a', len', cap', e', h1, h2⟩ := sl_open ht hz hz0 h'
    simp only [List.cons.injEq, Value.slice.injEq, and_true] at e'
    obtain ⟨rfl, rfl, rfl⟩ := e'
    exact ⟨_, _, _, rfl, hl, h1, h2⟩
theorem keys_open {fuel : Nat} {cs : List Value} {x : DataW H × List MemPlace} (h : DataW.trod enc Tryz.prog W 0 (fun _ => true) true fuel 27 cs = some x) :
    ∃ a c, ∃ l : List ByteArray, cs = [.slice a l.length c] ∧ l.length ≤ c ∧ l.length ≤ maxLen ∧ (∀ x ∈ l, x.size ≤ maxLen) ∧ KeRow 0 W.heap.size W a l := by
  have cst : Tryz.prog.cellsOf 9 = 1 := by kernel_rfl
  obtain ⟨a, len, cap, rfl, hcap, hm, hr⟩ := sl_open2 Tryz.underlying27 (z := 1) cst (by omega) h
  rcases hr with rfl | ⟨n, b, o, rfl, rfl, hb, hx⟩
  · exact ⟨a, cap, [], rfl, Nat.zero_le _, Nat.zero_le _, by simp, .inl rfl⟩
  · obtain ⟨l, hl, hp⟩ := list_of (p := fun i x => KeAt (rdOf W b) (o + i * 1) x ∧ x.size ≤ maxLen) (fun i hi => by
      obtain ⟨cs', y, hcl, hc, hd⟩ := hx i hi
      obtain ⟨s, e0, _, hs⟩ := DataW.trod_string Tryz.underlying9 hd
      subst e0
      exact ⟨s, hc 0 (by omega), hs⟩)
    subst hl
    refine ⟨_, cap, l, rfl, hcap, hm, fun x hx => ?_, .inr ⟨b, o, rfl, Nat.zero_le _, hb, fun i x hx => (hp i x hx).1⟩⟩
    obtain ⟨i, hi, rfl⟩ := List.getElem_of_mem hx
    exact (hp i _ (List.getElem?_eq_getElem hi)).2
theorem ous_of {lo hi : Nat} {w : World} {rd : Nat → Option Value} {m : Nat} : ∀ {l : List (Oh × Ous)} {o : Nat}, (∀ i x, l[i]? = some x → OhAt lo hi w rd (o + i * 5) x.1 ∧ (∃ a c, rd (o + i * 5 + 4) = some (.slice a x.2.len c) ∧ OuRow lo hi w a x.2) ∧ OhBd m x.1 ∧ x.2.len ≤ m ∧ OusBd m x.2) →
    OuPre lo hi w (appO l .nil) rd o l.length ∧ OusBd m (appO l .nil)
  | [], _, _ => ⟨trivial, trivial⟩
  | x :: l, o, h => by
    obtain ⟨h1, h2, h3, h4, h5⟩ := h 0 x rfl
    have := ous_of (l := l) (o := o + 5) (fun i y hy => by
      have := h (i + 1) y (by simpa using hy)
      rw [show o + (i + 1) * 5 = o + 5 + i * 5 by omega] at this
      exact this)
    simp only [Nat.zero_mul, Nat.add_zero] at h1 h2
    exact ⟨.inr ⟨h1, h2, this.1⟩, h3, h4, h5, this.2⟩
theorem ous_open : ∀ {fuel : Nat} {cs : List Value} {x : DataW H × List MemPlace}, DataW.trod enc Tryz.prog W 0 (fun _ => true) true fuel 28 cs = some x →
    ∃ a c, ∃ l : Ous, cs = [.slice a l.len c] ∧ l.len ≤ maxLen ∧ OusBd maxLen l ∧ OuRow 0 W.heap.size W a l := by
  intro fuel
  induction fuel using Nat.strongRecOn with
  | _ fuel ih =>
  intro cs x h
  have ci : Tryz.prog.cellsOf 3 = 1 := by kernel_rfl
  have cst : Tryz.prog.cellsOf 9 = 1 := by kernel_rfl
  have cs1 : Tryz.prog.cellsOf 27 = 1 := by kernel_rfl
  have cs3 : Tryz.prog.cellsOf 28 = 1 := by kernel_rfl
  obtain ⟨a, len, cap, rfl, _, hm, hr⟩ := sl_open2 Tryz.underlying28 (z := 5) (by kernel_rfl) (by omega) h
  rcases hr with rfl | ⟨n, b, o, rfl, rfl, hb, hx⟩
  · exact ⟨a, cap, .nil, rfl, Nat.zero_le _, trivial, .inl rfl⟩
  · obtain ⟨l, hl, hp⟩ := list_of (p := fun i (x : Oh × Ous) => OhAt 0 W.heap.size W (rdOf W b) (o + i * 5) x.1 ∧ (∃ a c, rdOf W b (o + i * 5 + 4) = some (.slice a x.2.len c) ∧ OuRow 0 W.heap.size W a x.2) ∧ OhBd maxLen x.1 ∧ x.2.len ≤ maxLen ∧ OusBd maxLen x.2) (fun i hi => by
      obtain ⟨cs', y, hcl, hc, hd⟩ := hx i hi
      obtain ⟨xs, n', rfl, rfl, _, hxl, hf⟩ := DataW.trod_struct Tryz.underlying30 hd
      obtain ⟨v0, v1, v2, v3, v4, rfl⟩ := five hcl
      obtain ⟨y0, y1, y2, y3, y4, rfl⟩ := five hxl
      obtain ⟨k, e0, _, _⟩ := DataW.trod_int Tryz.underlying3 (hf 0 _ rfl)
      obtain ⟨n1, e1, _, _⟩ := DataW.trod_int Tryz.underlying3 (hf 1 _ rfl)
      obtain ⟨t, e2, _, ht⟩ := DataW.trod_string Tryz.underlying9 (hf 2 _ rfl)
      obtain ⟨a3, c3, keys, e3, q3, b3, d3, r3⟩ := keys_open (hf 3 _ rfl)
      obtain ⟨a5, c5, sub, e5, b5, d5, r5⟩ := ih n' (by omega) (hf 4 _ rfl)
      simp [ci, cst, cs1, cs3] at e0 e1 e2 e3 e5
      subst e0 e1 e2 e3 e5
      exact ⟨(⟨k, n1, t, keys⟩, sub), ⟨hc 0 (by omega), hc 1 (by omega), hc 2 (by omega), a3, c3, hc 3 (by omega), q3, r3⟩, ⟨a5, c5, hc 4 (by omega), r5⟩, ⟨ht, b3, d3⟩, b5, d5⟩)
    obtain ⟨q1, q2⟩ := ous_of hp
    have hal : (appO l .nil).len = len := by rw [appO_len, hl]; rfl
    refine ⟨_, cap, appO l .nil, by rw [hal], by omega, q2, .inr ⟨b, o, rfl, Nat.zero_le _, hb, ?_⟩⟩
    rw [hal, ← hl]; exact q1
/-- One value opened. -/
theorem out_open {fuel : Nat} {cs : List Value} {x : DataW H × List MemPlace} (h : DataW.trod enc Tryz.prog W 0 (fun _ => true) true fuel 30 cs = some x) :
    ∃ (h : Oh) (sub : Ous) (a1 a2 : Option Addr) (c1 c2 : Nat), cs = [.int .i64 h.k, .int .i64 h.n, .string h.t, .slice a1 h.keys.length c1, .slice a2 sub.len c2] ∧ h.keys.length ≤ c1 ∧ OhBd maxLen h ∧ sub.len ≤ maxLen ∧ OusBd maxLen sub ∧ KeRow 0 W.heap.size W a1 h.keys ∧ OuRow 0 W.heap.size W a2 sub := by
  have ci : Tryz.prog.cellsOf 3 = 1 := by kernel_rfl
  have cst : Tryz.prog.cellsOf 9 = 1 := by kernel_rfl
  have cs1 : Tryz.prog.cellsOf 27 = 1 := by kernel_rfl
  have cs3 : Tryz.prog.cellsOf 28 = 1 := by kernel_rfl
  have co : Tryz.prog.cellsOf 30 = 5 := by kernel_rfl
  obtain ⟨xs, n', rfl, rfl, hcl, hxl, hf⟩ := DataW.trod_struct Tryz.underlying30 h
  rw [co] at hcl
  obtain ⟨v0, v1, v2, v3, v4, rfl⟩ := five hcl
  obtain ⟨y0, y1, y2, y3, y4, rfl⟩ := five hxl
  obtain ⟨k, e0, _, _⟩ := DataW.trod_int Tryz.underlying3 (hf 0 _ rfl)
  obtain ⟨n1, e1, _, _⟩ := DataW.trod_int Tryz.underlying3 (hf 1 _ rfl)
  obtain ⟨t, e2, _, ht⟩ := DataW.trod_string Tryz.underlying9 (hf 2 _ rfl)
  obtain ⟨a3, c3, keys, e3, q3, b3, d3, r3⟩ := keys_open (hf 3 _ rfl)
  obtain ⟨a5, c5, sub, e5, b5, d5, r5⟩ := ous_open (hf 4 _ rfl)
  simp [ci, cst, cs1, cs3] at e0 e1 e2 e3 e5
  subst e0 e1 e2 e3 e5
  exact ⟨⟨k, n1, t, keys⟩, sub, a3, a5, c3, c5, rfl, q3, ⟨ht, b3, d3⟩, b5, d5, r3, r5⟩
end
end Go.Proofs.YtdchpeifpiglmaaGreatDoor.G
namespace Go.Proofs.YtdchpeifpiglmaaGreatDoor.G
open Go.ChangeShapes Go.WideShapes Go.ChangeAt Go.RowKit
set_option linter.unusedVariables false

theorem appO_snoc : ∀ (p : List (Oh × Ous)) (h : Oh) (sub rest : Ous), appO (p ++ [(h, sub)]) rest = appO p (.cons h sub rest)
  | [], h, sub, rest => rfl
  | x :: p, h, sub, rest => by simp only [List.cons_append, appO]; rw [appO_snoc p]
theorem OuPre.more {lo hi : Nat} {w : World} {rd : Nat → Option Value} {h : Oh} {sub rest : Ous} : ∀ (pre : List (Oh × Ous)) {o : Nat}, OuPre lo hi w (appO pre (.cons h sub rest)) rd o pre.length →
    OhAt lo hi w rd (o + 5 * pre.length) h → (∃ a c, rd (o + 5 * pre.length + 4) = some (.slice a sub.len c) ∧ OuRow lo hi w a sub) → OuPre lo hi w (appO pre (.cons h sub rest)) rd o (pre.length + 1)
  | [], o, _, h1, h2 => .inr ⟨by simpa using h1, by simpa [OuRow] using h2, by
      cases rest with
      | nil => exact trivial
      | cons _ _ _ => exact .inl rfl⟩
  | x :: pre, o, hp, h1, h2 => by
    rcases hp with hp | ⟨p1, p2, p3⟩
    · simp at hp
    · refine .inr ⟨p1, p2, ?_⟩
      have e : (x :: pre).length + 1 - 1 = pre.length + 1 := by simp
      rw [e]
      refine OuPre.more pre (by simpa using p3) ?_ ?_
      · rw [show o + 5 + 5 * pre.length = o + 5 * (x :: pre).length by simp; omega]; exact h1
      · rw [show o + 5 + 5 * pre.length = o + 5 * (x :: pre).length by simp; omega]; exact h2
theorem OuPre.cells {lo hi : Nat} {w : World} {rd rd' : Nat → Option Value} : ∀ {l : Ous} {o k : Nat}, OuPre lo hi w l rd o k → (∀ j, o ≤ j → j < o + 5 * k → rd' j = rd j) → OuPre lo hi w l rd' o k
  | .nil, _, _, _, _ => trivial
  | .cons h sub rest, o, k, hp, hj => by
    rcases hp with hp | ⟨⟨p0, p1, p2, a, c, p3, pc, p4⟩, ⟨a2, c2, p5, p6⟩, p7⟩
    · exact .inl hp
    · by_cases hk : k = 0
      · exact .inl hk
      refine .inr ⟨⟨?_, ?_, ?_, a, c, ?_, pc, p4⟩, ⟨a2, c2, ?_, p6⟩, OuPre.cells p7 (fun j h1 h2 => hj j (by omega) (by omega))⟩
      · rw [hj _ (by omega) (by omega)]; exact p0
      · rw [hj _ (by omega) (by omega)]; exact p1
      · rw [hj _ (by omega) (by omega)]; exact p2
      · rw [hj _ (by omega) (by omega)]; exact p3
      · rw [hj _ (by omega) (by omega)]; exact p5
theorem agree_set {lo hi : Nat} {w : World} {b o : Nat} {v : Value} (h : b < lo) : Agree lo hi w (w.setCell ⟨b, o, none⟩ v) := fun g h1 _ => heap_set _ _ _ _ _ (by omega)
set_option maxRecDepth 100000 in
theorem info_str : ∃ i, Tryz.prog.info? 9 = some i ∧ i.zero = some (.string ⟨#[]⟩) ∧ i.size = 1 ∧ i.bytes = 16 := by
  refine ⟨_, rfl, ?_, ?_, ?_⟩ <;> kernel_rfl
set_option maxRecDepth 100000 in
theorem info_out : ∃ i, Tryz.prog.info? 44 = some i ∧ i.zero = some (.agg #[.int .i64 0, .int .i64 0, .string ⟨#[]⟩, .slice none 0 0, .slice none 0 0]) ∧ i.size = 5 ∧ i.bytes = 80 := by
  refine ⟨_, rfl, ?_, ?_, ?_⟩ <;> kernel_rfl
set_option maxHeartbeats 1000000 in
theorem to_keys (a : Option Addr) (c : Nat) (l : List ByteArray) (w : World) (hr : KeRow 0 w.heap.size w a l) (hl : l.length ≤ 1048576) :
    Calls Tryz.prog 28 #[.slice a l.length c] w fun e w' => ∃ a', e = .returned (.slice a' l.length l.length) ∧ KeRow w.heap.size w'.heap.size w' a' l ∧ Below w.heap.size w w' := by
  have HR : Hid (KeRow 0 w.heap.size w a l) := hr
  clear hr
  obtain ⟨i27, hi, hz, hsz, hby⟩ := info_str
  have hmk := run_make (P := Tryz.prog) w 27 9 i27 _ Tryz.underlying27 hi hz .i64 .i64 (l.length : Int) (l.length : Int) (by omega) (by omega) (by rw [hby]; omega) (by omega)
  rw [hsz, Int.toNat_natCast, Nat.mul_one] at hmk
  clear hi hz hsz hby
  have hs0 := size_madeCells (Value.string ⟨#[]⟩).cells l.length
  generalize madeCells (Value.string ⟨#[]⟩).cells l.length = cs0 at *
  go_enter Tryz.func28, Tryz.ntmps28
  go_wp2_with fail
  go_loopw [4] (fun i w' => ∃ (k : Nat) (cs : Array Value), k ≤ l.length ∧ i = .int .i64 k ∧ Below w.heap.size w w' ∧ Hid (w'.heap[w.heap.size]? = some (.cells cs 9 (0, 0))) ∧ cs.size = l.length ∧ Hid (∀ i (h : i < l.length), i < k → cs[i]? = some (.string l[i]))) (fun i _ => l.length - (intOf i).toNat)
  case atStart => exact ⟨0, cs0, by omega, rfl, (Below.refl _ _).alloc (Nat.le_refl _) _, heap_alloc_new _ _, hs0, fun i _ h => by omega⟩
  case round =>
    obtain ⟨wo, rfl⟩ : ∃ x, x = wr := ⟨_, rfl⟩
    obtain ⟨k, cs, hk, rfl, hb, HH, hcs, HL⟩ := hrel
    clear hmk hs0
    by_cases hlt : k < l.length
    · obtain ⟨b, o, ha, _, hbl, c0⟩ := KeRow.cells (KeRow.keep HR.out (agree hb (Nat.le_refl _))) k hlt
      subst ha
      obtain ⟨v0, hv0⟩ : ∃ v, wo.cell? ⟨w.heap.size, k, none⟩ = some v := ⟨_, (row_cell HH.out _).trans (Array.getElem?_eq_getElem (by omega))⟩
      have hf0 := row_frozen HH.out k
      go_wp2_with fail
      refine ⟨⟨k + 1, _, by omega, by go_num, hb.setCell (Nat.le_refl _) _, row_set HH.out _ _, by simp [hcs], ?_⟩, by simp [intOf]; omega⟩
      intro i hi1 hi2
      by_cases e : i = k
      · subst e; simp [Array.getElem?_setIfInBounds]; omega
      · rw [Array.getElem?_setIfInBounds_ne (by omega)]; exact HL.out i hi1 (by omega)
    · go_wp2_with fail
      go_ret
      refine ⟨_, rfl, .inr ⟨w.heap.size, 0, rfl, Nat.le_refl _, (Array.getElem?_eq_some_iff.1 HH.out).1, fun i x hx => ?_⟩, hb⟩
      obtain ⟨hi, rfl⟩ := List.getElem?_eq_some_iff.1 hx
      rw [row_rd HH.out]
      show cs[0 + i * 1]? = _
      rw [Nat.mul_one, Nat.zero_add]
      exact HL.out i hi (by omega)
def ToOus (l : Ous) : Prop := ∀ (a : Option Addr) (c : Nat) (w : World), OuRow 0 w.heap.size w a l → l.len ≤ 1048576 → OusBd 1048576 l →
    Calls Tryz.prog 49 #[.slice a l.len c] w fun e w' => ∃ a', e = .returned (.slice a' l.len l.len) ∧ OuRow w.heap.size w'.heap.size w' a' l ∧ Below w.heap.size w w'
set_option maxHeartbeats 2000000 in
theorem to_out (h : Oh) (sub : Ous) (ih : ToOus sub) (a1 a2 : Option Addr) (c1 c2 : Nat) (w : World) (r1 : KeRow 0 w.heap.size w a1 h.keys) (r2 : OuRow 0 w.heap.size w a2 sub)
    (hb : OhBd 1048576 h) (hl : sub.len ≤ 1048576) (hs : OusBd 1048576 sub) :
    Calls Tryz.prog 27 #[.agg #[.int .i64 h.k, .int .i64 h.n, .string h.t, .slice a1 h.keys.length c1, .slice a2 sub.len c2]] w fun e w' =>
      ∃ b1 b2, e = .returned (.agg #[.int .i64 h.k, .int .i64 h.n, .string h.t, .slice b1 h.keys.length h.keys.length, .slice b2 sub.len sub.len]) ∧
        KeRow w.heap.size w'.heap.size w' b1 h.keys ∧ OuRow w.heap.size w'.heap.size w' b2 sub ∧ Below w.heap.size w w' := by
  obtain ⟨x1, x2, x3⟩ := hb
  have K1 : Hid (∀ W0, Below w.heap.size w W0 → KeRow 0 W0.heap.size W0 a1 h.keys) := fun W0 hB => KeRow.up r1 hB
  have K2 : Hid (∀ W0, Below w.heap.size w W0 → OuRow 0 W0.heap.size W0 a2 sub) := fun W0 hB => OuRow.up r2 hB
  have HI : Hid (ToOus sub) := ih
  have HS : Hid (OusBd 1048576 sub) := hs
  clear r1 r2 ih hs x3
  go_enter Tryz.func27, Tryz.ntmps27
  go_wp2_with fail
  refine (to_keys a1 c1 h.keys _ (K1.out _ ?b0) x2).mono ?_
  case b0 => repeat (first | exact Below.refl _ _ | refine Below.setCell ?_ (by simp <;> omega) _ | refine Below.alloc ?_ (by simp <;> omega) _)
  rintro e w1 ⟨b1, rfl, A1, hb1⟩
  have hz1 : w.heap.size + 3 ≤ w1.heap.size := by have := hb1.size; simp at this; omega
  have A1 : Hid (KeRow (w.heap.size + 3) w1.heap.size w1 b1 h.keys) := KeRow.wide A1 (by simp <;> omega) (Nat.le_refl _)
  have q1 : Below w.heap.size w w1 := by
    refine Below.trans ?_ (hb1.mono (by simp <;> omega))
    repeat (first | exact Below.refl _ _ | refine Below.setCell ?_ (by simp <;> omega) _ | refine Below.alloc ?_ (by simp <;> omega) _)
  have k10 := fun o => hb1.cell (p := ⟨w.heap.size, o, none⟩) (by simp <;> omega)
  have k11 := fun o => hb1.cell (p := ⟨w.heap.size + 1, o, none⟩) (by simp <;> omega)
  have k12 := fun o => hb1.cell (p := ⟨w.heap.size + 1 + 1, o, none⟩) (by simp <;> omega)
  have j11 := fun o => hb1.frozen (p := ⟨w.heap.size + 1, o, none⟩) (by simp <;> omega)
  have j12 := fun o => hb1.frozen (p := ⟨w.heap.size + 1 + 1, o, none⟩) (by simp <;> omega)
  have Q1 : Hid _ := q1
  clear hb1 q1
  go_wp2_with fail
  refine (HI.out a2 c2 _ (K2.out _ ?b0) hl HS.out).mono ?_
  case b0 => exact Below.setCell Q1.out (by simp <;> omega) _
  rintro e w3 ⟨b3, rfl, A3, hb3⟩
  have hz3 : w1.heap.size ≤ w3.heap.size := by have := hb3.size; simpa using this
  have A3 : Hid (OuRow (w.heap.size + 3) w3.heap.size w3 b3 sub) := OuRow.wide A3 (by simp <;> omega) (Nat.le_refl _)
  have A1 : Hid (KeRow (w.heap.size + 3) w3.heap.size w3 b1 h.keys) := KeRow.wide (KeRow.keep A1.out (fun g h1 h2 => (agree hb3 (lo := w.heap.size + 3) (hi := w1.heap.size) (by simp) g h1 h2).trans (heap_set _ _ _ _ _ (by omega)))) (Nat.le_refl _) hz3
  have q3 : Below w.heap.size w w3 := (Below.setCell Q1.out (by simp <;> omega) _).trans (hb3.mono (by simp <;> omega))
  have k31 := fun o => hb3.cell (p := ⟨w.heap.size + 1, o, none⟩) (by simp <;> omega)
  have k32 := fun o => hb3.cell (p := ⟨w.heap.size + 1 + 1, o, none⟩) (by simp <;> omega)
  have j31 := fun o => hb3.frozen (p := ⟨w.heap.size + 1, o, none⟩) (by simp <;> omega)
  have j32 := fun o => hb3.frozen (p := ⟨w.heap.size + 1 + 1, o, none⟩) (by simp <;> omega)
  have Q3 : Hid _ := q3
  clear hb3 q3
  go_wp2_with fail
  refine bodyPost_ret (v := .agg #[.int .i64 h.k, .int .i64 h.n, .string h.t, .slice b1 h.keys.length h.keys.length, .slice b3 sub.len sub.len]) (by simp [results, Tryz.results27, go_sem, k11, k31]) rfl ⟨b1, b3, rfl, ?_⟩
  have G : ∀ W' : World, W'.heap.size = w3.heap.size → Agree (w.heap.size + 3) w3.heap.size w3 W' → Below w.heap.size w W' → KeRow w.heap.size W'.heap.size W' b1 h.keys ∧ OuRow w.heap.size W'.heap.size W' b3 sub ∧ Below w.heap.size w W' :=
    fun W' hw ha hB => ⟨KeRow.wide (KeRow.keep A1.out ha) (by omega) (by omega), OuRow.wide (OuRow.keep A3.out ha) (by omega) (by omega), hB⟩
  refine G _ (by simp) ?_ ?_
  · intro g h1 h2
    repeat rw [heap_set _ _ _ _ _ (by omega)]
  · repeat (refine Below.setCell ?_ (by simp <;> omega) _)
    exact Q3.out
def put5 (cs : Array Value) (k : Nat) (v0 v1 v2 v3 v4 : Value) : Array Value := (((((cs.setIfInBounds k v0).setIfInBounds (k + 1) v1).setIfInBounds (k + 2) v2).setIfInBounds (k + 3) v3).setIfInBounds (k + 4) v4)
theorem put5_at {cs : Array Value} {k : Nat} {v0 v1 v2 v3 v4 : Value} (h : k + 4 < cs.size) : (put5 cs k v0 v1 v2 v3 v4)[k]? = some v0 ∧ (put5 cs k v0 v1 v2 v3 v4)[k + 1]? = some v1 ∧ (put5 cs k v0 v1 v2 v3 v4)[k + 2]? = some v2 ∧ (put5 cs k v0 v1 v2 v3 v4)[k + 3]? = some v3 ∧ (put5 cs k v0 v1 v2 v3 v4)[k + 4]? = some v4 := by
  unfold put5
  refine ⟨?_, ?_, ?_, ?_, ?_⟩ <;> simp [Array.getElem?_setIfInBounds] <;> omega
theorem put5_else {cs : Array Value} {k : Nat} {v0 v1 v2 v3 v4 : Value} {j : Nat} (h : j < k) : (put5 cs k v0 v1 v2 v3 v4)[j]? = cs[j]? := by
  unfold put5
  rw [Array.getElem?_setIfInBounds_ne (by omega), Array.getElem?_setIfInBounds_ne (by omega), Array.getElem?_setIfInBounds_ne (by omega), Array.getElem?_setIfInBounds_ne (by omega), Array.getElem?_setIfInBounds_ne (by omega)]
set_option maxHeartbeats 2000000 in
theorem to_ous (l : Ous) : ToOus l := by
  induction hN : l.size using Nat.strongRecOn generalizing l with
  | _ N ih =>
  subst hN
  intro a c w hr hl hbd
  have IH : Hid (∀ sub : Ous, sub.size < l.size → ToOus sub) := fun sub hsub => ih sub.size hsub sub rfl
  have HR : Hid (OuFrom 0 w.heap.size w a 0 l) := hr.from_
  have HB : Hid (OusBd 1048576 l) := hbd
  clear hr ih hbd
  obtain ⟨i27, hi, hz, hsz, hby⟩ := info_out
  have hmk := run_make (P := Tryz.prog) w 42 44 i27 _ Tryz.underlying42 hi hz .i64 .i64 (l.len : Int) (l.len : Int) (by omega) (by omega) (by rw [hby]; omega) (by omega)
  rw [hsz, Int.toNat_natCast] at hmk
  clear hi hz hsz hby
  have hs0 := size_madeCells (Value.agg #[.int .i64 0, .int .i64 0, .string ⟨#[]⟩, .slice none 0 0, .slice none 0 0]).cells (l.len * 5)
  generalize madeCells (Value.agg #[.int .i64 0, .int .i64 0, .string ⟨#[]⟩, .slice none 0 0, .slice none 0 0]).cells (l.len * 5) = cs0 at *
  go_enter Tryz.func49, Tryz.ntmps49
  go_wp2_with fail
  go_loopw [4] (fun i w' => ∃ (k : Nat) (cs : Array Value) (pre : List (Oh × Ous)) (rest : Ous), Hid (l.len = k + rest.len) ∧ i = .int .i64 k ∧ Below w.heap.size w w' ∧ Hid (l = appO pre rest ∧ pre.length = k) ∧ Hid (rest.size ≤ l.size) ∧ Hid (OusBd 1048576 rest) ∧ Hid (OuFrom 0 w.heap.size w a k rest) ∧ Hid (w'.heap[w.heap.size]? = some (.cells cs 44 (0, 0))) ∧ cs.size = l.len * 5 ∧ Hid (OuPre (w.heap.size + 1) w'.heap.size w' l (fun j => cs[j]?) 0 k)) (fun i _ => l.len - (intOf i).toNat)
  case atStart => exact ⟨0, cs0, [], l, by simp [Hid], rfl, (Below.refl _ _).alloc (Nat.le_refl _) _, ⟨rfl, rfl⟩, Nat.le_refl _, HB, HR, heap_alloc_new _ _, hs0, by
      unfold Hid
      cases l with
      | nil => exact trivial
      | cons _ _ _ => exact .inl rfl⟩
  case round =>
    obtain ⟨wo, rfl⟩ : ∃ x, x = wr := ⟨_, rfl⟩
    obtain ⟨k, cs, pre, rest, HK, rfl, hb, HP, HZ, HD, HF, HH, hcs, HL⟩ := hrel
    clear hmk hs0
    cases rest with
    | nil =>
      have hk' : ¬ k < l.len := by rw [HK.out]; simp only [Ous.len]; omega
      go_wp2_with fail
      go_ret
      refine ⟨_, rfl, ?_, hb⟩
      have hkl : l.len = k := by rw [HK.out]; rfl
      refine .inr ⟨w.heap.size, 0, rfl, Nat.le_refl _, (Array.getElem?_eq_some_iff.1 HH.out).1, ?_⟩
      rw [row_rd HH.out, hkl]
      exact HL.out.wide (by omega) (Nat.le_refl _)
    | cons h sub rest =>
      have hlt : k < l.len := by rw [HK.out]; simp only [Ous.len]; omega
      have HK2 : Hid (l.len = k + 1 + rest.len) := by rw [Hid, HK.out]; simp only [Ous.len]; omega
      obtain ⟨b, o, a1, c1, a2, c2, ha, _, hbl, d0, d1, d2, d3, d4, hc, r1, r2, _⟩ := OuFrom.step (OuFrom.keep HF.out (agree hb (Nat.le_refl _)))
      have HF2 : Hid (OuFrom 0 w.heap.size w a (k + 1) rest) := by
        obtain ⟨_, _, _, _, _, _, _, _, _, _, _, _, _, _, _, _, _, rf9⟩ := OuFrom.step HF.out
        exact rf9
      subst ha
      have R1 : Hid (KeRow 0 wo.heap.size wo a1 h.keys) := KeRow.wide r1 (Nat.le_refl _) hb.size
      have R2 : Hid (OuRow 0 wo.heap.size wo a2 sub) := OuRow.wide r2 (Nat.le_refl _) hb.size
      obtain ⟨e1, e2, e3, e4⟩ := HD.out
      have E1 : Hid (OhBd 1048576 h) := e1
      have E3 : Hid (OusBd 1048576 sub) := e3
      have E4 : Hid (OusBd 1048576 rest) := e4
      have HZ2 : Hid (rest.size ≤ l.size) := by have := HZ.out; simp only [Ous.size] at this; unfold Hid; omega
      have IS : Hid (ToOus sub) := IH.out sub (by have := HZ.out; simp only [Ous.size] at this; omega)
      clear r1 r2 e1 e3 e4
      go_wp2_with fail
      refine (to_out h sub IS.out a1 a2 c1 c2 _ R1.out R2.out E1.out e2 E3.out).mono ?_
      rintro e w1 ⟨b1, b3, rfl, A1, A3, hb1⟩
      have A1 : Hid (KeRow wo.heap.size w1.heap.size w1 b1 h.keys) := A1
      have A3 : Hid (OuRow wo.heap.size w1.heap.size w1 b3 sub) := A3
      have hN : w.heap.size < wo.heap.size := (Array.getElem?_eq_some_iff.1 HH.out).1
      have HH1 : Hid (w1.heap[w.heap.size]? = some (.cells cs 44 (0, 0))) := (hb1.block _ hN).trans HH.out
      have HL1 : Hid (OuPre (w.heap.size + 1) w1.heap.size w1 l (fun j => cs[j]?) 0 k) := OuPre.wide (Nat.le_refl _) hb1.size (OuPre.keep (agree hb1 (Nat.le_refl _)) HL.out)
      obtain ⟨v0, hv0⟩ : ∃ v, w1.cell? ⟨w.heap.size, k * 5, none⟩ = some v := ⟨_, (row_cell HH1.out _).trans (Array.getElem?_eq_getElem (by omega))⟩
      obtain ⟨v1, hv1⟩ : ∃ v, w1.cell? ⟨w.heap.size, k * 5 + 1, none⟩ = some v := ⟨_, (row_cell HH1.out _).trans (Array.getElem?_eq_getElem (by omega))⟩
      obtain ⟨v2, hv2⟩ : ∃ v, w1.cell? ⟨w.heap.size, k * 5 + 2, none⟩ = some v := ⟨_, (row_cell HH1.out _).trans (Array.getElem?_eq_getElem (by omega))⟩
      obtain ⟨v3, hv3⟩ : ∃ v, w1.cell? ⟨w.heap.size, k * 5 + 3, none⟩ = some v := ⟨_, (row_cell HH1.out _).trans (Array.getElem?_eq_getElem (by omega))⟩
      obtain ⟨v4, hv4⟩ : ∃ v, w1.cell? ⟨w.heap.size, k * 5 + 4, none⟩ = some v := ⟨_, (row_cell HH1.out _).trans (Array.getElem?_eq_getElem (by omega))⟩
      have hf0 := row_frozen HH1.out (k * 5)
      have hf1 := row_frozen HH1.out (k * 5 + 1)
      have hf2 := row_frozen HH1.out (k * 5 + 2)
      have hf3 := row_frozen HH1.out (k * 5 + 3)
      have hf4 := row_frozen HH1.out (k * 5 + 4)
      have qb : Hid _ := hb.trans (hb1.mono hb.size)
      have hz1 := hb1.size
      clear d0 d1 d2 d3 d4
      go_wp2_with fail
      have G : ∀ W' : World, W'.heap.size = w1.heap.size → Agree (w.heap.size + 1) w1.heap.size w1 W' → Hid (OuPre (w.heap.size + 1) W'.heap.size W' l (fun j => (put5 cs (k * 5) (.int .i64 h.k) (.int .i64 h.n) (.string h.t) (.slice b1 h.keys.length h.keys.length) (.slice b3 sub.len sub.len))[j]?) 0 (k + 1)) := by
        intro W' hw ha
        obtain ⟨hp1, hp2⟩ := HP.out
        have P1 := OuPre.cells (rd' := fun j => (put5 cs (k * 5) (.int .i64 h.k) (.int .i64 h.n) (.string h.t) (.slice b1 h.keys.length h.keys.length) (.slice b3 sub.len sub.len))[j]?) (OuPre.keep ha HL1.out) (fun j _ hj => put5_else (by omega))
        obtain ⟨g0, g1, g2, g3, g4⟩ := put5_at (cs := cs) (k := k * 5) (v0 := .int .i64 h.k) (v1 := .int .i64 h.n) (v2 := .string h.t) (v3 := .slice b1 h.keys.length h.keys.length) (v4 := .slice b3 sub.len sub.len) (by omega)
        have wA1 : KeRow (w.heap.size + 1) w1.heap.size W' b1 h.keys := KeRow.wide (KeRow.keep A1.out (fun g h1 h2 => ha g (by omega) h2)) (by omega) (Nat.le_refl _)
        have wA3 : OuRow (w.heap.size + 1) w1.heap.size W' b3 sub := OuRow.wide (OuRow.keep A3.out (fun g h1 h2 => ha g (by omega) h2)) (by omega) (Nat.le_refl _)
        unfold Hid
        rw [hw]
        rw [hp1] at P1 ⊢
        rw [← hp2] at P1 g0 g1 g2 g3 g4 ⊢
        refine OuPre.more pre P1 ?_ ?_
        · rw [show 0 + 5 * pre.length = pre.length * 5 by omega]
          exact ⟨g0, g1, g2, b1, _, g3, Nat.le_refl _, wA1⟩
        · rw [show 0 + 5 * pre.length + 4 = pre.length * 5 + 4 by omega]
          exact ⟨b3, _, g4, wA3⟩
      refine ⟨⟨k + 1, _, pre ++ [(h, sub)], rest, HK2, by go_num, ((((qb.out.setCell (Nat.le_refl _) _).setCell (Nat.le_refl _) _).setCell (Nat.le_refl _) _).setCell (Nat.le_refl _) _).setCell (Nat.le_refl _) _, ⟨by rw [appO_snoc]; exact HP.out.1, by simp [HP.out.2]⟩, HZ2, E4, HF2, row_set (row_set (row_set (row_set (row_set HH1.out _ _) _ _) _ _) _ _) _ _, by simp [hcs], ?_⟩, by simp [intOf]; omega⟩
      refine G _ (by simp) ?_
      intro g h1 h2
      repeat rw [heap_set _ _ _ _ _ (by omega)]
end Go.Proofs.YtdchpeifpiglmaaGreatDoor.G
namespace Go.Proofs.YtdchpeifpiglmaaGreatDoor.G
open Go.ChangeShapes Go.WideShapes Go.ChangeAt Go.RowKit
set_option linter.unusedVariables false

theorem conv1 (n : Int) (W : World) (b : Nat) (hc : W.cell? ⟨b, 0, none⟩ = some (.int .u8 n)) :
    (convert 121 9 (.slice (some ⟨b, 0, none⟩) 1 1)).run Tryz.prog W = .ok (.string ⟨#[UInt8.ofNat n.toNat]⟩) W := by
  rw [run_convert_bytes_string W 121 9 5 _ 1 1 Tryz.underlying121 Tryz.underlying5 Tryz.underlying9]
  rw [run_bytesToString W ⟨b, 0, none⟩ 1 1 [n] (run_loadCells_list W ⟨b, 0, none⟩ [.int .u8 n] (fun j v hv => by
    cases j with
    | zero => simp at hv; subst hv; simpa [Addr.add] using hc
    | succ j => simp at hv))]
  rfl
theorem ret_str {a b : ByteArray} (h : a = b) : Ending.returned (.string a) = .returned (.string b) := by rw [h]
theorem quo10 (n : Int) (h0 : 0 ≤ n) (h1 : n ≤ 9223372036854775807) : IntKind.i64.wrap (n.tdiv 10) = n / 10 := by
  rw [Int.tdiv_eq_ediv_of_nonneg h0, wrap_small _ (by omega) (by omega)]
theorem rem10 (n : Int) (h0 : 0 ≤ n) : IntKind.u8.wrap (IntKind.i64.wrap (48 + n.tmod 10)) = 48 + n % 10 := by
  rw [Int.tmod_eq_emod_of_nonneg h0, wrap_small _ (by omega) (by omega), IntKind.wrap_u8]; omega
/-- A mark's text. -/
def mkT (k : Nat) : ByteArray := ⟨(109 :: Lib.decDigits k).toArray⟩
theorem digits_len20 (k : Nat) (h : (k : Int) ≤ 4611686018427387904) : (Lib.decDigits k).length ≤ 20 := by
  rw [Lib.decDigits_length]; exact Lib.nDigits_le20 k (by omega)
theorem rem10' (n : Nat) : IntKind.u8.wrap (IntKind.i64.wrap (48 + (n : Int).tmod 10)) = 48 + (n : Int) % 10 := rem10 n (by omega)

set_option maxHeartbeats 1000000 in
theorem mark_text (K : Nat) (w : World) (h0 : 0 < K) (h1 : (K : Int) ≤ 4611686018427387904) :
    Calls Tryz.prog 57 #[.int .i64 K] w fun e w' => e = .returned (.string (mkT K)) ∧ Below w.heap.size w w' := by
  have hK := digits_len20 K h1
  go_enter Tryz.func57, Tryz.ntmps57
  go_wp2_with fail
  go_loopw [0, 3] (fun k o wr => ∃ (m : Nat) (l : List UInt8), m ≤ K ∧ k = .int .i64 m ∧ o = .string ⟨l.toArray⟩ ∧ l.length ≤ 20 ∧ Below w.heap.size w wr ∧ Hid ((m = 0 ∧ l = Lib.decDigits K) ∨ (0 < m ∧ Lib.decDigits m ++ l = Lib.decDigits K))) (fun k _ _ => (intOf k).toNat)
  case atStart => exact ⟨K, [], Nat.le_refl _, rfl, rfl, by simp, Below.refl _ _, .inr ⟨h0, by simp⟩⟩
  case round =>
    rename_i wr
    obtain ⟨m, l, hm, rfl, rfl, hl, hb, HD⟩ := hrel
    by_cases hp : 0 < m
    · have HE : Lib.decDigits m ++ l = Lib.decDigits K := by
        rcases HD.out with ⟨h, _⟩ | ⟨_, h⟩
        · omega
        · exact h
      have HF : Hid ((m / 10 = 0 ∧ (UInt8.ofNat (48 + m % 10) :: l) = Lib.decDigits K) ∨ (0 < m / 10 ∧ Lib.decDigits (m / 10) ++ (UInt8.ofNat (48 + m % 10) :: l) = Lib.decDigits K)) := by
        unfold Hid
        rw [Lib.decDigits.eq_def m] at HE
        split at HE
        · rename_i hs
          left
          refine ⟨by omega, ?_⟩
          rw [← HE, show m % 10 = m by omega]; rfl
        · right
          refine ⟨by omega, ?_⟩
          rw [← HE]; simp
      have hl2 : (UInt8.ofNat (48 + m % 10) :: l).length ≤ 20 := by
        rcases HF.out with ⟨_, h⟩ | ⟨_, h⟩
        · rw [h]; exact hK
        · have := congrArg List.length h
          rw [List.length_append] at this
          omega
      have hcv := conv1 (48 + (m : Int) % 10)
      have HS : Hid ((⟨#[UInt8.ofNat (48 + (m : Int) % 10).toNat]⟩ : ByteArray) ++ ⟨l.toArray⟩ = ⟨(UInt8.ofNat (48 + m % 10) :: l).toArray⟩) := by
        unfold Hid
        rw [show (48 + (m : Int) % 10).toNat = 48 + m % 10 by omega]
        apply ByteArray.ext
        simp
      have hs1 : (⟨#[UInt8.ofNat (48 + (m : Int) % 10).toNat]⟩ : ByteArray).size = 1 := rfl
      have hs2 : (⟨l.toArray⟩ : ByteArray).size = l.length := by simp [ByteArray.size]
      have hno : ¬ (9223372036854775807 < (⟨#[UInt8.ofNat (48 + (m : Int) % 10).toNat]⟩ : ByteArray).size + (⟨l.toArray⟩ : ByteArray).size) := by omega
      clear HE HD hs1 hs2 hK
      generalize (⟨#[UInt8.ofNat (48 + (m : Int) % 10).toNat]⟩ : ByteArray) = D at *
      generalize (⟨l.toArray⟩ : ByteArray) = O at *
      go_wp2_with fail
      exact ⟨⟨m / 10, _, by omega, by go_num, by rw [HS.out], hl2, hb.alloc hb.size _, HF⟩, by simp [intOf]; omega⟩
    · have HE : Hid ((⟨#[109]⟩ : ByteArray) ++ ⟨l.toArray⟩ = mkT K) := by
        unfold Hid mkT
        rcases HD.out with ⟨_, h⟩ | ⟨h, _⟩
        · rw [h]; apply ByteArray.ext; simp
        · omega
      have hs2 : (⟨l.toArray⟩ : ByteArray).size = l.length := by simp [ByteArray.size]
      have hs1 : (⟨#[109]⟩ : ByteArray).size = 1 := rfl
      have hno : ¬ (9223372036854775807 < (⟨#[109]⟩ : ByteArray).size + (⟨l.toArray⟩ : ByteArray).size) := by omega
      clear hs1 hs2 HD
      generalize (⟨l.toArray⟩ : ByteArray) = O at *
      go_wp2_with fail
      go_ret
      exact ⟨ret_str HE.out, hb⟩
theorem mark_text_int (K : Int) (w : World) (h0 : 0 < K) (h1 : K ≤ 4611686018427387904) :
    Calls Tryz.prog 57 #[.int .i64 K] w fun e w' => e = .returned (.string (mkT K.toNat)) ∧ Below w.heap.size w w' := by
  obtain ⟨n, rfl⟩ : ∃ n : Nat, K = n := ⟨K.toNat, by omega⟩
  exact mark_text n w (by omega) (by omega)
end Go.Proofs.YtdchpeifpiglmaaGreatDoor.G
