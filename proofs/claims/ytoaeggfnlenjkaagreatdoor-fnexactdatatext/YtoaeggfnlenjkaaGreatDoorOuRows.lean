/- Answers' values as data, how they lie in memory, and how an argument is opened. -/
import Derived.Test.YtoaeggfnlenjkaaGreatDoorGBase
namespace Go.Proofs.YtoaeggfnlenjkaaGreatDoor.G
open Go.ChangeShapes Go.WideShapes Go.ChangeAt Go.RowKit
set_option linter.unusedVariables false

/-- A value but for its items. -/
structure Oh where
  k : Int
  n : Int
  t : ByteArray
  keys : List ByteArray
/-- A list of values: the first one, its items, and the rest. -/
inductive Ous where
  | nil
  | cons (h : Oh) (sub rest : Ous)
namespace Ous
def len : Ous → Nat
  | .nil => 0
  | .cons _ _ rest => rest.len + 1
def size : Ous → Nat
  | .nil => 0
  | .cons _ sub rest => 1 + sub.size + rest.size
theorem len_le_size : ∀ l : Ous, l.len ≤ l.size
  | .nil => Nat.le_refl _
  | .cons h sub rest => by have := len_le_size rest; simp [len, size]; omega
theorem nil_of {l : Ous} (h : l.len = 0) : l = .nil := by cases l with | nil => rfl | cons h s r => simp [len] at h
end Ous
def KeAt (rd : Nat → Option Value) (o : Nat) (x : ByteArray) : Prop := rd o = some (.string x)
abbrev KeRow (lo hi : Nat) (w : World) (a : Option Addr) (l : List ByteArray) : Prop := Row KeAt 1 lo hi w a l
theorem KeRow.keep {lo hi : Nat} {w w' : World} {a : Option Addr} {l : List ByteArray} (h : KeRow lo hi w a l) (hk : Agree lo hi w w') : KeRow lo hi w' a l := Row.of h hk fun _ _ _ hx => hx
theorem KeRow.wide {lo hi lo' hi' : Nat} {w : World} {a : Option Addr} {l : List ByteArray} (h : KeRow lo hi w a l) (e1 : lo' ≤ lo) (e2 : hi ≤ hi') : KeRow lo' hi' w a l := Row.out h e1 e2 fun _ _ _ hx => hx
theorem KeRow.up {w w' : World} {a : Option Addr} {l : List ByteArray} (h : KeRow 0 w.heap.size w a l) (hb : Below w.heap.size w w') : KeRow 0 w'.heap.size w' a l := KeRow.wide (KeRow.keep h (agree hb (Nat.le_refl _))) (Nat.le_refl _) hb.size
theorem KeRow.cells {lo hi : Nat} {w : World} {a : Option Addr} {l : List ByteArray} (h : KeRow lo hi w a l) (k : Nat) (hk : k < l.length) :
    ∃ b o, a = some ⟨b, o, none⟩ ∧ lo ≤ b ∧ b < hi ∧ w.cell? ⟨b, o + k, none⟩ = some (.string l[k]) := by
  obtain ⟨b, o, e1, e2, e3, h0⟩ := Row.at_ h k hk
  rw [Nat.mul_one] at h0
  exact ⟨b, o, e1, e2, e3, h0⟩
theorem KeRow.take {lo hi : Nat} {w : World} {a : Option Addr} {x : List ByteArray} (h : KeRow lo hi w a x) (n : Nat) : KeRow lo hi w a (x.take n) := by
  rcases h with rfl | ⟨b, o, e, h1, h2, h3⟩
  · exact .inl (by simp)
  · exact .inr ⟨b, o, e, h1, h2, fun i y hy => h3 i y (by rw [List.getElem?_take] at hy; split at hy; exact hy; cases hy)⟩
/-- One value's cells but the last. -/
def OhAt (lo hi : Nat) (w : World) (rd : Nat → Option Value) (o : Nat) (h : Oh) : Prop :=
  rd o = some (.int .i64 h.k) ∧ rd (o + 1) = some (.int .i64 h.n) ∧ rd (o + 2) = some (.string h.t) ∧ ∃ a c, rd (o + 3) = some (.slice a h.keys.length c) ∧ h.keys.length ≤ c ∧ KeRow lo hi w a h.keys
/-- The first k of a list. -/
def OuPre (lo hi : Nat) (w : World) : Ous → (Nat → Option Value) → Nat → Nat → Prop
  | .nil, _, _, _ => True
  | .cons h sub rest, rd, o, k => k = 0 ∨ (OhAt lo hi w rd o h ∧
      (∃ a c, rd (o + 4) = some (.slice a sub.len c) ∧ (sub = .nil ∨ ∃ b o', a = some ⟨b, o', none⟩ ∧ lo ≤ b ∧ b < hi ∧ OuPre lo hi w sub (rdOf w b) o' sub.len)) ∧
      OuPre lo hi w rest rd (o + 5) (k - 1))
def OuRow (lo hi : Nat) (w : World) (a : Option Addr) (l : Ous) : Prop :=
  l = .nil ∨ ∃ b o, a = some ⟨b, o, none⟩ ∧ lo ≤ b ∧ b < hi ∧ OuPre lo hi w l (rdOf w b) o l.len
theorem OhAt.keep {lo hi : Nat} {w w' : World} {rd : Nat → Option Value} {o : Nat} {h : Oh} (hh : OhAt lo hi w rd o h) (hk : Agree lo hi w w') : OhAt lo hi w' rd o h := by
  obtain ⟨h0, h1, h2, a, c, h3, hc, h4⟩ := hh
  exact ⟨h0, h1, h2, a, c, h3, hc, h4.keep hk⟩
theorem OhAt.wide {lo hi lo' hi' : Nat} {w : World} {rd : Nat → Option Value} {o : Nat} {h : Oh} (hh : OhAt lo hi w rd o h) (e1 : lo' ≤ lo) (e2 : hi ≤ hi') : OhAt lo' hi' w rd o h := by
  obtain ⟨h0, h1, h2, a, c, h3, hc, h4⟩ := hh
  exact ⟨h0, h1, h2, a, c, h3, hc, h4.wide e1 e2⟩
theorem OuPre.keep {lo hi : Nat} {w w' : World} (hk : Agree lo hi w w') : ∀ {l : Ous} {rd : Nat → Option Value} {o k : Nat}, OuPre lo hi w l rd o k → OuPre lo hi w' l rd o k
  | .nil, _, _, _, _ => trivial
  | .cons h sub rest, rd, o, k, hp => by
    rcases hp with hp | ⟨p1, ⟨a, c, p2, p3⟩, p4⟩
    · exact .inl hp
    · refine .inr ⟨p1.keep hk, ⟨a, c, p2, ?_⟩, OuPre.keep hk p4⟩
      rcases p3 with p3 | ⟨b, o', e, e1, e2, p3⟩
      · exact .inl p3
      · exact .inr ⟨b, o', e, e1, e2, by rw [hk.rd e1 e2]; exact OuPre.keep hk p3⟩
theorem OuPre.wide {lo hi lo' hi' : Nat} {w : World} (e1 : lo' ≤ lo) (e2 : hi ≤ hi') : ∀ {l : Ous} {rd : Nat → Option Value} {o k : Nat}, OuPre lo hi w l rd o k → OuPre lo' hi' w l rd o k
  | .nil, _, _, _, _ => trivial
  | .cons h sub rest, rd, o, k, hp => by
    rcases hp with hp | ⟨p1, ⟨a, c, p2, p3⟩, p4⟩
    · exact .inl hp
    · refine .inr ⟨p1.wide e1 e2, ⟨a, c, p2, ?_⟩, OuPre.wide e1 e2 p4⟩
      rcases p3 with p3 | ⟨b, o', e, f1, f2, p3⟩
      · exact .inl p3
      · exact .inr ⟨b, o', e, by omega, by omega, OuPre.wide e1 e2 p3⟩
theorem OuRow.keep {lo hi : Nat} {w w' : World} {a : Option Addr} {l : Ous} (h : OuRow lo hi w a l) (hk : Agree lo hi w w') : OuRow lo hi w' a l := by
  rcases h with h | ⟨b, o, rfl, h1, h2, h3⟩
  · exact .inl h
  · exact .inr ⟨b, o, rfl, h1, h2, by rw [hk.rd h1 h2]; exact h3.keep hk⟩
theorem OuRow.wide {lo hi lo' hi' : Nat} {w : World} {a : Option Addr} {l : Ous} (h : OuRow lo hi w a l) (e1 : lo' ≤ lo) (e2 : hi ≤ hi') : OuRow lo' hi' w a l := by
  rcases h with h | ⟨b, o, rfl, h1, h2, h3⟩
  · exact .inl h
  · exact .inr ⟨b, o, rfl, by omega, by omega, h3.wide e1 e2⟩
theorem OuRow.up {w w' : World} {a : Option Addr} {l : Ous} (h : OuRow 0 w.heap.size w a l) (hb : Below w.heap.size w w') : OuRow 0 w'.heap.size w' a l :=
  (h.keep (agree hb (Nat.le_refl _))).wide (Nat.le_refl _) hb.size
/-- A list in memory from its k-th value on. -/
def OuFrom (lo hi : Nat) (w : World) (a : Option Addr) (k : Nat) (l : Ous) : Prop :=
  l = .nil ∨ ∃ b o, a = some ⟨b, o, none⟩ ∧ lo ≤ b ∧ b < hi ∧ OuPre lo hi w l (rdOf w b) (o + k * 5) l.len
theorem OuRow.from_ {lo hi : Nat} {w : World} {a : Option Addr} {l : Ous} (h : OuRow lo hi w a l) : OuFrom lo hi w a 0 l := by
  rcases h with h | ⟨b, o, rfl, h1, h2, h3⟩
  · exact .inl h
  · exact .inr ⟨b, o, rfl, h1, h2, by simpa using h3⟩
theorem OuFrom.keep {lo hi : Nat} {w w' : World} {a : Option Addr} {k : Nat} {l : Ous} (h : OuFrom lo hi w a k l) (hk : Agree lo hi w w') : OuFrom lo hi w' a k l := by
  rcases h with h | ⟨b, o, rfl, h1, h2, h3⟩
  · exact .inl h
  · exact .inr ⟨b, o, rfl, h1, h2, by rw [hk.rd h1 h2]; exact h3.keep hk⟩
theorem OuFrom.wide {lo hi lo' hi' : Nat} {w : World} {a : Option Addr} {k : Nat} {l : Ous} (h : OuFrom lo hi w a k l) (e1 : lo' ≤ lo) (e2 : hi ≤ hi') : OuFrom lo' hi' w a k l := by
  rcases h with h | ⟨b, o, rfl, h1, h2, h3⟩
  · exact .inl h
  · exact .inr ⟨b, o, rfl, by omega, by omega, h3.wide e1 e2⟩
theorem OuFrom.up {w w' : World} {a : Option Addr} {k : Nat} {l : Ous} (h : OuFrom 0 w.heap.size w a k l) (hb : Below w.heap.size w w') : OuFrom 0 w'.heap.size w' a k l :=
  (h.keep (agree hb (Nat.le_refl _))).wide (Nat.le_refl _) hb.size
/-- The k-th value's cells, its lists, and the rest. -/
theorem OuFrom.step {lo hi : Nat} {w : World} {a : Option Addr} {k : Nat} {h : Oh} {sub rest : Ous} (H : OuFrom lo hi w a k (.cons h sub rest)) :
    ∃ b o a1 c1 a2 c2, a = some ⟨b, o, none⟩ ∧ lo ≤ b ∧ b < hi ∧ w.cell? ⟨b, o + k * 5, none⟩ = some (.int .i64 h.k) ∧ w.cell? ⟨b, o + k * 5 + 1, none⟩ = some (.int .i64 h.n) ∧ w.cell? ⟨b, o + k * 5 + 2, none⟩ = some (.string h.t) ∧
      w.cell? ⟨b, o + k * 5 + 3, none⟩ = some (.slice a1 h.keys.length c1) ∧ w.cell? ⟨b, o + k * 5 + 4, none⟩ = some (.slice a2 sub.len c2) ∧ h.keys.length ≤ c1 ∧
      KeRow lo hi w a1 h.keys ∧ OuRow lo hi w a2 sub ∧ OuFrom lo hi w a (k + 1) rest := by
  rcases H with H | ⟨b, o, rfl, h1, h2, h3⟩
  · cases H
  · rcases h3 with h3 | ⟨⟨p0, p1, p2, a1, c1, p3, pc, q3⟩, ⟨a2, c2, p4, q4⟩, p6⟩
    · simp [Ous.len] at h3
    refine ⟨b, o, a1, c1, a2, c2, rfl, h1, h2, p0, p1, p2, p3, p4, pc, q3, q4, ?_⟩
    refine .inr ⟨b, o, rfl, h1, h2, ?_⟩
    rw [show o + (k + 1) * 5 = o + k * 5 + 5 by omega]
    have e : (Ous.cons h sub rest).len - 1 = rest.len := by simp [Ous.len]
    rw [e] at p6
    exact p6
/-- Bounds. -/
def OhBd (m : Nat) (h : Oh) : Prop := h.t.size ≤ m ∧ h.keys.length ≤ m ∧ ∀ x ∈ h.keys, x.size ≤ m
def OusBd (m : Nat) : Ous → Prop
  | .nil => True
  | .cons h sub rest => OhBd m h ∧ sub.len ≤ m ∧ OusBd m sub ∧ OusBd m rest
theorem five {α : Type} {l : List α} (h : l.length = 5) : ∃ a b c d e, l = [a, b, c, d, e] := by
  match l, h with
  | [a, b, c, d, e], _ => exact ⟨a, b, c, d, e, rfl⟩
def appO : List (Oh × Ous) → Ous → Ous
  | [], r => r
  | x :: l, r => .cons x.1 x.2 (appO l r)
theorem appO_len : ∀ (l : List (Oh × Ous)) (r : Ous), (appO l r).len = l.length + r.len
  | [], r => by simp [appO]
  | x :: l, r => by simp [appO, Ous.len, appO_len l r]; omega
section
variable {H : Type} {enc : TypeId × Value → H} {W : World}
theorem sl_open2 {t e : TypeId} {z : Nat} {fuel : Nat} {cs : List Value} {x : DataW H × List MemPlace} (ht : Tryz.prog.underlying t = some (.slice e)) (hz : Tryz.prog.cellsOf e = z) (hz0 : 0 < z) (h : DataW.trod enc Tryz.prog W 0 (fun _ => true) true fuel t cs = some x) :
    ∃ a len cap, cs = [.slice a len cap] ∧ len ≤ cap ∧ len ≤ maxLen ∧ (len = 0 ∨ ∃ n b o, fuel = n + 1 ∧ a = some ⟨b, o, none⟩ ∧ b < W.heap.size ∧
      ∀ i, i < len → ∃ cs' y, cs'.length = z ∧ (∀ j, j < z → rdOf W b (o + i * z + j) = cs'[j]?) ∧ DataW.trod enc Tryz.prog W 0 (fun _ => true) true n e cs' = some y) := by
  have h' := h
  rcases DataW.trod_slice ht h with ⟨rfl, _⟩ | ⟨a, len, cap, elems, rest, n, rfl, rfl, _, hb, hl, hm, hlen, hel, _, _⟩
  · exact ⟨none, 0, 0, rfl, Nat.le_refl _, Nat.zero_le _, .inl rfl⟩
  · obtain ⟨a', len', cap', e', h1, h2⟩ := sl_open ht hz hz0 h'
    simp only [List.cons.injEq, Value.slice.injEq, and_true] at e'
    obtain ⟨rfl, rfl, rfl⟩ := e'
    exact ⟨_, _, _, rfl, hl, h1, h2⟩
theorem keys_open {fuel : Nat} {cs : List Value} {x : DataW H × List MemPlace} (h : DataW.trod enc Tryz.prog W 0 (fun _ => true) true fuel 23 cs = some x) :
    ∃ a c, ∃ l : List ByteArray, cs = [.slice a l.length c] ∧ l.length ≤ c ∧ l.length ≤ maxLen ∧ (∀ x ∈ l, x.size ≤ maxLen) ∧ KeRow 0 W.heap.size W a l := by
  have cst : Tryz.prog.cellsOf 9 = 1 := by kernel_rfl
  obtain ⟨a, len, cap, rfl, hcap, hm, hr⟩ := sl_open2 Tryz.underlying23 (z := 1) cst (by omega) h
  rcases hr with rfl | ⟨n, b, o, rfl, rfl, hb, hx⟩
  · exact ⟨a, cap, [], rfl, Nat.zero_le _, Nat.zero_le _, by simp, .inl rfl⟩
  · obtain ⟨l, hl, hp⟩ := list_of (p := fun i x => KeAt (rdOf W b) (o + i * 1) x ∧ x.size ≤ maxLen) (fun i hi => by
      obtain ⟨cs', y, hcl, hc, hd⟩ := hx i hi
      obtain ⟨s, e0, _, hs⟩ := DataW.trod_string Tryz.underlying9 hd
      subst e0
      exact ⟨s, hc 0 (by omega), hs⟩)
    subst hl
    refine ⟨_, cap, l, rfl, hcap, hm, fun x hx => ?_, .inr ⟨b, o, rfl, Nat.zero_le _, hb, fun i x hx => (hp i x hx).1⟩⟩
    obtain ⟨i, hi, rfl⟩ := List.getElem_of_mem hx
    exact (hp i _ (List.getElem?_eq_getElem hi)).2
theorem ous_of {lo hi : Nat} {w : World} {rd : Nat → Option Value} {m : Nat} : ∀ {l : List (Oh × Ous)} {o : Nat}, (∀ i x, l[i]? = some x → OhAt lo hi w rd (o + i * 5) x.1 ∧ (∃ a c, rd (o + i * 5 + 4) = some (.slice a x.2.len c) ∧ OuRow lo hi w a x.2) ∧ OhBd m x.1 ∧ x.2.len ≤ m ∧ OusBd m x.2) →
    OuPre lo hi w (appO l .nil) rd o l.length ∧ OusBd m (appO l .nil)
  | [], _, _ => ⟨trivial, trivial⟩
  | x :: l, o, h => by
    obtain ⟨h1, h2, h3, h4, h5⟩ := h 0 x rfl
    have := ous_of (l := l) (o := o + 5) (fun i y hy => by
      have := h (i + 1) y (by simpa using hy)
      rw [show o + (i + 1) * 5 = o + 5 + i * 5 by omega] at this
      exact this)
    simp only [Nat.zero_mul, Nat.add_zero] at h1 h2
    exact ⟨.inr ⟨h1, h2, this.1⟩, h3, h4, h5, this.2⟩
theorem ous_open : ∀ {fuel : Nat} {cs : List Value} {x : DataW H × List MemPlace}, DataW.trod enc Tryz.prog W 0 (fun _ => true) true fuel 39 cs = some x →
    ∃ a c, ∃ l : Ous, cs = [.slice a l.len c] ∧ l.len ≤ maxLen ∧ OusBd maxLen l ∧ OuRow 0 W.heap.size W a l := by
  intro fuel
  induction fuel using Nat.strongRecOn with
  | _ fuel ih =>
  intro cs x h
  have ci : Tryz.prog.cellsOf 3 = 1 := by kernel_rfl
  have cst : Tryz.prog.cellsOf 9 = 1 := by kernel_rfl
  have cs1 : Tryz.prog.cellsOf 23 = 1 := by kernel_rfl
  have cs3 : Tryz.prog.cellsOf 39 = 1 := by kernel_rfl
  obtain ⟨a, len, cap, rfl, _, hm, hr⟩ := sl_open2 Tryz.underlying39 (z := 5) (by kernel_rfl) (by omega) h
  rcases hr with rfl | ⟨n, b, o, rfl, rfl, hb, hx⟩
  · exact ⟨a, cap, .nil, rfl, Nat.zero_le _, trivial, .inl rfl⟩
  · obtain ⟨l, hl, hp⟩ := list_of (p := fun i (x : Oh × Ous) => OhAt 0 W.heap.size W (rdOf W b) (o + i * 5) x.1 ∧ (∃ a c, rdOf W b (o + i * 5 + 4) = some (.slice a x.2.len c) ∧ OuRow 0 W.heap.size W a x.2) ∧ OhBd maxLen x.1 ∧ x.2.len ≤ maxLen ∧ OusBd maxLen x.2) (fun i hi => by
      obtain ⟨cs', y, hcl, hc, hd⟩ := hx i hi
      obtain ⟨xs, n', rfl, rfl, _, hxl, hf⟩ := DataW.trod_struct Tryz.underlying41 hd
      obtain ⟨v0, v1, v2, v3, v4, rfl⟩ := five hcl
      obtain ⟨y0, y1, y2, y3, y4, rfl⟩ := five hxl
      obtain ⟨k, e0, _, _⟩ := DataW.trod_int Tryz.underlying3 (hf 0 _ rfl)
      obtain ⟨n1, e1, _, _⟩ := DataW.trod_int Tryz.underlying3 (hf 1 _ rfl)
      obtain ⟨t, e2, _, ht⟩ := DataW.trod_string Tryz.underlying9 (hf 2 _ rfl)
      obtain ⟨a3, c3, keys, e3, q3, b3, d3, r3⟩ := keys_open (hf 3 _ rfl)
      obtain ⟨a5, c5, sub, e5, b5, d5, r5⟩ := ih n' (by omega) (hf 4 _ rfl)
      simp [ci, cst, cs1, cs3] at e0 e1 e2 e3 e5
      subst e0 e1 e2 e3 e5
      exact ⟨(⟨k, n1, t, keys⟩, sub), ⟨hc 0 (by omega), hc 1 (by omega), hc 2 (by omega), a3, c3, hc 3 (by omega), q3, r3⟩, ⟨a5, c5, hc 4 (by omega), r5⟩, ⟨ht, b3, d3⟩, b5, d5⟩)
    obtain ⟨q1, q2⟩ := ous_of hp
    have hal : (appO l .nil).len = len := by rw [appO_len, hl]; rfl
    refine ⟨_, cap, appO l .nil, by rw [hal], by omega, q2, .inr ⟨b, o, rfl, Nat.zero_le _, hb, ?_⟩⟩
    rw [hal, ← hl]; exact q1
/-- One value opened. -/
theorem out_open {fuel : Nat} {cs : List Value} {x : DataW H × List MemPlace} (h : DataW.trod enc Tryz.prog W 0 (fun _ => true) true fuel 41 cs = some x) :
    ∃ (h : Oh) (sub : Ous) (a1 a2 : Option Addr) (c1 c2 : Nat), cs = [.int .i64 h.k, .int .i64 h.n, .string h.t, .slice a1 h.keys.length c1, .slice a2 sub.len c2] ∧ h.keys.length ≤ c1 ∧ OhBd maxLen h ∧ sub.len ≤ maxLen ∧ OusBd maxLen sub ∧ KeRow 0 W.heap.size W a1 h.keys ∧ OuRow 0 W.heap.size W a2 sub := by
  have ci : Tryz.prog.cellsOf 3 = 1 := by kernel_rfl
  have cst : Tryz.prog.cellsOf 9 = 1 := by kernel_rfl
  have cs1 : Tryz.prog.cellsOf 23 = 1 := by kernel_rfl
  have cs3 : Tryz.prog.cellsOf 39 = 1 := by kernel_rfl
  have co : Tryz.prog.cellsOf 41 = 5 := by kernel_rfl
  obtain ⟨xs, n', rfl, rfl, hcl, hxl, hf⟩ := DataW.trod_struct Tryz.underlying41 h
  rw [co] at hcl
  obtain ⟨v0, v1, v2, v3, v4, rfl⟩ := five hcl
  obtain ⟨y0, y1, y2, y3, y4, rfl⟩ := five hxl
  obtain ⟨k, e0, _, _⟩ := DataW.trod_int Tryz.underlying3 (hf 0 _ rfl)
  obtain ⟨n1, e1, _, _⟩ := DataW.trod_int Tryz.underlying3 (hf 1 _ rfl)
  obtain ⟨t, e2, _, ht⟩ := DataW.trod_string Tryz.underlying9 (hf 2 _ rfl)
  obtain ⟨a3, c3, keys, e3, q3, b3, d3, r3⟩ := keys_open (hf 3 _ rfl)
  obtain ⟨a5, c5, sub, e5, b5, d5, r5⟩ := ous_open (hf 4 _ rfl)
  simp [ci, cst, cs1, cs3] at e0 e1 e2 e3 e5
  subst e0 e1 e2 e3 e5
  exact ⟨⟨k, n1, t, keys⟩, sub, a3, a5, c3, c5, rfl, q3, ⟨ht, b3, d3⟩, b5, d5, r3, r5⟩
end
end Go.Proofs.YtoaeggfnlenjkaaGreatDoor.G
