/- Rows of a document that a call owns: each list in a block of its own, between two block numbers, those of one selection ahead of those of the next. -/
import Derived.Test.YtajjaddlalbnmaaDocToTwo
import Derived.Test.YtajjaddlalbnmaaGOwn
namespace Go.Proofs.Ytajjaddlalbnmaa
open Go.ChangeShapes Go.WideShapes Go.ChangeAt Go.RowKit
set_option linter.unusedVariables false

def OwnR {α : Type} (at_ : (Nat → Option Value) → Nat → α → Prop) (z : Nat) (ty : TypeId) (lo hi : Nat) (w : World) (a : Option Addr) (l : List α) : Prop :=
  l = [] ∨ ∃ b cs, a = some ⟨b, 0, none⟩ ∧ lo ≤ b ∧ b < hi ∧ w.heap[b]? = some (.cells cs ty (0, 0)) ∧ l.length * z ≤ cs.size ∧ ∀ i x, l[i]? = some x → at_ (fun j => cs[j]?) (i * z) x
abbrev ArOwn := OwnR ArAt 4 81
abbrev DiOwn := OwnR DiAt 4 86
theorem OwnR.keep {α : Type} {at_ : (Nat → Option Value) → Nat → α → Prop} {z : Nat} {ty : TypeId} {lo hi : Nat} {w w' : World} {a : Option Addr} {l : List α} (h : OwnR at_ z ty lo hi w a l) (hk : Agree lo hi w w') : OwnR at_ z ty lo hi w' a l := by
  rcases h with h | ⟨b, cs, rfl, h1, h2, h3, h4, h5⟩
  · exact .inl h
  · exact .inr ⟨b, cs, rfl, h1, h2, (hk b h1 h2).trans h3, h4, h5⟩
theorem OwnR.wide {α : Type} {at_ : (Nat → Option Value) → Nat → α → Prop} {z : Nat} {ty : TypeId} {lo hi lo' hi' : Nat} {w : World} {a : Option Addr} {l : List α} (h : OwnR at_ z ty lo hi w a l) (e1 : lo' ≤ lo) (e2 : hi ≤ hi') : OwnR at_ z ty lo' hi' w a l := by
  rcases h with h | ⟨b, cs, rfl, h1, h2, h3, h4, h5⟩
  · exact .inl h
  · exact .inr ⟨b, cs, rfl, by omega, by omega, h3, h4, h5⟩
theorem OwnR.row {α : Type} {at_ : (Nat → Option Value) → Nat → α → Prop} {z : Nat} {ty : TypeId} {lo hi : Nat} {w : World} {a : Option Addr} {l : List α} (h : OwnR at_ z ty lo hi w a l) : Row at_ z lo hi w a l := by
  rcases h with h | ⟨b, cs, rfl, h1, h2, h3, h4, h5⟩
  · exact .inl h
  · exact .inr ⟨b, 0, rfl, h1, h2, fun i x hx => by rw [row_rd h3, Nat.zero_add]; exact h5 i x hx⟩

/-- Selections in a block's cells from a place on; their lists lie from lo up and below hi, in order. -/
def SelSeq (w : World) : Sels → Array Value → Nat → Nat → Nat → Prop
  | .nil, _, _, lo, hi => lo ≤ hi
  | .cons h sub rest, cs, o, lo, hi => ∃ m1 m2 m3, lo ≤ m1 ∧ m1 ≤ m2 ∧ m2 ≤ m3 ∧ cs[o]? = some (.int .i64 h.k) ∧ cs[o + 1]? = some (.string h.al) ∧ cs[o + 2]? = some (.string h.nm) ∧
      (∃ a c, cs[o + 3]? = some (.slice a h.args.length c) ∧ ArOwn lo m1 w a h.args) ∧
      (∃ a c, cs[o + 4]? = some (.slice a h.dirs.length c) ∧ DiOwn m1 m2 w a h.dirs) ∧
      (∃ a c, cs[o + 5]? = some (.slice a sub.len c) ∧ (sub = .nil ∨ ∃ b ds, a = some ⟨b, 0, none⟩ ∧ m2 ≤ b ∧ b < m3 ∧ w.heap[b]? = some (.cells ds 63 (0, 0)) ∧ sub.len * 6 ≤ ds.size ∧ SelSeq w sub ds 0 (b + 1) m3)) ∧
      SelSeq w rest cs (o + 6) m3 hi
def SelOwn (lo hi : Nat) (w : World) (a : Option Addr) (l : Sels) : Prop :=
  l = .nil ∨ ∃ b ds, a = some ⟨b, 0, none⟩ ∧ lo ≤ b ∧ b < hi ∧ w.heap[b]? = some (.cells ds 63 (0, 0)) ∧ l.len * 6 ≤ ds.size ∧ SelSeq w l ds 0 (b + 1) hi
/-- One selection's cells and lists. -/
def SelOne (w : World) (h : Hd) (sub : Sels) (cs : Array Value) (o lo hi : Nat) : Prop :=
  ∃ m1 m2, lo ≤ m1 ∧ m1 ≤ m2 ∧ m2 ≤ hi ∧ cs[o]? = some (.int .i64 h.k) ∧ cs[o + 1]? = some (.string h.al) ∧ cs[o + 2]? = some (.string h.nm) ∧
      (∃ a c, cs[o + 3]? = some (.slice a h.args.length c) ∧ ArOwn lo m1 w a h.args) ∧
      (∃ a c, cs[o + 4]? = some (.slice a h.dirs.length c) ∧ DiOwn m1 m2 w a h.dirs) ∧
      (∃ a c, cs[o + 5]? = some (.slice a sub.len c) ∧ SelOwn m2 hi w a sub)
theorem SelSeq.uncons {w : World} {h : Hd} {sub rest : Sels} {cs : Array Value} {o lo hi : Nat} (H : SelSeq w (.cons h sub rest) cs o lo hi) : ∃ m, SelOne w h sub cs o lo m ∧ SelSeq w rest cs (o + 6) m hi := by
  obtain ⟨m1, m2, m3, e1, e2, e3, c0, c1, c2, p3, p4, p5, pr⟩ := H
  exact ⟨m3, ⟨m1, m2, e1, e2, e3, c0, c1, c2, p3, p4, p5⟩, pr⟩
theorem SelSeq.cons {w : World} {h : Hd} {sub rest : Sels} {cs : Array Value} {o lo m hi : Nat} (H : SelOne w h sub cs o lo m) (R : SelSeq w rest cs (o + 6) m hi) : SelSeq w (.cons h sub rest) cs o lo hi := by
  obtain ⟨m1, m2, e1, e2, e3, c0, c1, c2, p3, p4, p5⟩ := H
  exact ⟨m1, m2, m, e1, e2, e3, c0, c1, c2, p3, p4, p5, R⟩
theorem SelSeq.le {w : World} : ∀ {l : Sels} {cs : Array Value} {o lo hi : Nat}, SelSeq w l cs o lo hi → lo ≤ hi
  | .nil, _, _, _, _, h => h
  | .cons h sub rest, cs, o, lo, hi, H => by
    obtain ⟨m1, m2, m3, e1, e2, e3, c0, c1, c2, p3, p4, p5, pr⟩ := H
    have := SelSeq.le pr
    omega
theorem SelSeq.keep {w w' : World} : ∀ {l : Sels} {cs : Array Value} {o lo hi : Nat}, SelSeq w l cs o lo hi → Agree lo hi w w' → SelSeq w' l cs o lo hi
  | .nil, _, _, _, _, h, _ => h
  | .cons h sub rest, cs, o, lo, hi, H, hk => by
    obtain ⟨m1, m2, m3, e1, e2, e3, c0, c1, c2, ⟨a3, d3, p3, q3⟩, ⟨a4, d4, p4, q4⟩, ⟨a5, d5, p5, q5⟩, pr⟩ := H
    have hm := SelSeq.le pr
    refine ⟨m1, m2, m3, e1, e2, e3, c0, c1, c2, ⟨a3, d3, p3, q3.keep fun g h1 h2 => hk g (by omega) (by omega)⟩, ⟨a4, d4, p4, q4.keep fun g h1 h2 => hk g (by omega) (by omega)⟩, ⟨a5, d5, p5, ?_⟩, SelSeq.keep pr fun g h1 h2 => hk g (by omega) (by omega)⟩
    rcases q5 with q5 | ⟨b, ds, rfl, f1, f2, f3, f4, f5⟩
    · exact .inl q5
    · exact .inr ⟨b, ds, rfl, f1, f2, (hk b (by omega) (by omega)).trans f3, f4, SelSeq.keep f5 fun g h1 h2 => hk g (by omega) (by omega)⟩
theorem SelSeq.widen {w : World} : ∀ {l : Sels} {cs : Array Value} {o lo hi hi' : Nat}, SelSeq w l cs o lo hi → hi ≤ hi' → SelSeq w l cs o lo hi'
  | .nil, _, _, _, _, _, h, e => Nat.le_trans h e
  | .cons h sub rest, cs, o, lo, hi, hi', H, e => by
    obtain ⟨m, H1, H2⟩ := H.uncons
    exact SelSeq.cons H1 (SelSeq.widen H2 e)
theorem SelOwn.keep {lo hi : Nat} {w w' : World} {a : Option Addr} {l : Sels} (h : SelOwn lo hi w a l) (hk : Agree lo hi w w') : SelOwn lo hi w' a l := by
  rcases h with h | ⟨b, ds, rfl, f1, f2, f3, f4, f5⟩
  · exact .inl h
  · exact .inr ⟨b, ds, rfl, f1, f2, (hk b (by omega) (by omega)).trans f3, f4, SelSeq.keep f5 fun g h1 h2 => hk g (by omega) (by omega)⟩
theorem SelOwn.wide {lo hi lo' hi' : Nat} {w : World} {a : Option Addr} {l : Sels} (h : SelOwn lo hi w a l) (e1 : lo' ≤ lo) (e2 : hi ≤ hi') : SelOwn lo' hi' w a l := by
  rcases h with h | ⟨b, ds, rfl, f1, f2, f3, f4, f5⟩
  · exact .inl h
  · exact .inr ⟨b, ds, rfl, by omega, by omega, f3, f4, SelSeq.widen f5 e2⟩
theorem SelOne.keep {w w' : World} {h : Hd} {sub : Sels} {cs : Array Value} {o lo hi : Nat} (H : SelOne w h sub cs o lo hi) (hk : Agree lo hi w w') : SelOne w' h sub cs o lo hi := by
  obtain ⟨m1, m2, e1, e2, e3, c0, c1, c2, ⟨a3, d3, p3, q3⟩, ⟨a4, d4, p4, q4⟩, ⟨a5, d5, p5, q5⟩⟩ := H
  exact ⟨m1, m2, e1, e2, e3, c0, c1, c2, ⟨a3, d3, p3, q3.keep fun g h1 h2 => hk g (by omega) (by omega)⟩, ⟨a4, d4, p4, q4.keep fun g h1 h2 => hk g (by omega) (by omega)⟩, ⟨a5, d5, p5, q5.keep fun g h1 h2 => hk g (by omega) (by omega)⟩⟩
theorem SelOne.widen {w : World} {h : Hd} {sub : Sels} {cs : Array Value} {o lo hi hi' lo' : Nat} (H : SelOne w h sub cs o lo hi) (e : hi ≤ hi') (e' : lo' ≤ lo) : SelOne w h sub cs o lo' hi' := by
  obtain ⟨m1, m2, e1, e2, e3, c0, c1, c2, ⟨a3, d3, p3, q3⟩, ⟨a4, d4, p4, q4⟩, ⟨a5, d5, p5, q5⟩⟩ := H
  exact ⟨m1, m2, by omega, e2, by omega, c0, c1, c2, ⟨a3, d3, p3, q3.wide e' (Nat.le_refl _)⟩, ⟨a4, d4, p4, q4⟩, ⟨a5, d5, p5, q5.wide (Nat.le_refl _) e⟩⟩
/-- Only the cells of a set count. -/
theorem SelSeq.cells {w : World} {cs cs' : Array Value} : ∀ {l : Sels} {o lo hi : Nat}, SelSeq w l cs o lo hi → (∀ j, o ≤ j → j < o + 6 * l.len → cs'[j]? = cs[j]?) → SelSeq w l cs' o lo hi
  | .nil, _, _, _, h, _ => h
  | .cons h sub rest, o, lo, hi, H, hc => by
    obtain ⟨m1, m2, m3, e1, e2, e3, c0, c1, c2, ⟨a3, d3, p3, q3⟩, ⟨a4, d4, p4, q4⟩, ⟨a5, d5, p5, q5⟩, pr⟩ := H
    simp only [Sels.len] at hc
    exact ⟨m1, m2, m3, e1, e2, e3, (hc _ (by omega) (by omega)).trans c0, (hc _ (by omega) (by omega)).trans c1, (hc _ (by omega) (by omega)).trans c2, ⟨a3, d3, (hc _ (by omega) (by omega)).trans p3, q3⟩, ⟨a4, d4, (hc _ (by omega) (by omega)).trans p4, q4⟩, ⟨a5, d5, (hc _ (by omega) (by omega)).trans p5, q5⟩, SelSeq.cells pr fun j h1 h2 => hc j (by omega) (by omega)⟩
/-- One more selection behind a set. -/
theorem SelSeq.snoc {w : World} {cs : Array Value} {h : Hd} {sub : Sels} : ∀ (pre : List (Hd × Sels)) {o lo m hi : Nat}, SelSeq w (app pre .nil) cs o lo m → SelOne w h sub cs (o + 6 * pre.length) m hi → SelSeq w (app (pre ++ [(h, sub)]) .nil) cs o lo hi
  | [], o, lo, m, hi, H, R => by
    have H : lo ≤ m := H
    have R' : SelOne w h sub cs o lo hi := SelOne.widen (by simpa using R) (Nat.le_refl _) H
    exact SelSeq.cons (rest := .nil) R' (Nat.le_refl hi)
  | x :: pre, o, lo, m, hi, H, R => by
    obtain ⟨m', H1, H2⟩ := SelSeq.uncons (rest := app pre .nil) H
    refine SelSeq.cons (rest := app (pre ++ [(h, sub)]) .nil) H1 (SelSeq.snoc pre H2 ?_)
    rw [show o + 6 + 6 * pre.length = o + 6 * (x :: pre).length by simp only [List.length_cons]; omega]
    exact R

/-- Definitions likewise. -/
def DeSeq (w : World) : List De → Array Value → Nat → Nat → Nat → Prop
  | [], _, _, lo, hi => lo ≤ hi
  | x :: r, cs, o, lo, hi => ∃ m, lo ≤ m ∧ (cs[o]? = some (.int .i64 x.k) ∧ cs[o + 1]? = some (.string x.nm) ∧ cs[o + 2]? = some (.string x.on) ∧ ∃ a c, cs[o + 3]? = some (.slice a x.sels.len c) ∧ SelOwn lo m w a x.sels) ∧ DeSeq w r cs (o + 4) m hi
def DeOne (w : World) (x : De) (cs : Array Value) (o lo hi : Nat) : Prop := lo ≤ hi ∧ (cs[o]? = some (.int .i64 x.k) ∧ cs[o + 1]? = some (.string x.nm) ∧ cs[o + 2]? = some (.string x.on) ∧ ∃ a c, cs[o + 3]? = some (.slice a x.sels.len c) ∧ SelOwn lo hi w a x.sels)
def DeOwn (lo hi : Nat) (w : World) (a : Option Addr) (l : List De) : Prop :=
  l = [] ∨ ∃ b ds, a = some ⟨b, 0, none⟩ ∧ lo ≤ b ∧ b < hi ∧ w.heap[b]? = some (.cells ds 30 (0, 0)) ∧ l.length * 4 ≤ ds.size ∧ DeSeq w l ds 0 (b + 1) hi
theorem DeSeq.le {w : World} : ∀ {l : List De} {cs : Array Value} {o lo hi : Nat}, DeSeq w l cs o lo hi → lo ≤ hi
  | [], _, _, _, _, h => h
  | x :: r, cs, o, lo, hi, H => by
    obtain ⟨m, e1, p, pr⟩ := H
    have := DeSeq.le pr
    omega
theorem DeOne.keep {w w' : World} {x : De} {cs : Array Value} {o lo hi : Nat} (H : DeOne w x cs o lo hi) (hk : Agree lo hi w w') : DeOne w' x cs o lo hi := by
  obtain ⟨e1, c0, c1, c2, a, c, c3, q⟩ := H
  exact ⟨e1, c0, c1, c2, a, c, c3, q.keep hk⟩
theorem DeSeq.keep {w w' : World} : ∀ {l : List De} {cs : Array Value} {o lo hi : Nat}, DeSeq w l cs o lo hi → Agree lo hi w w' → DeSeq w' l cs o lo hi
  | [], _, _, _, _, h, _ => h
  | x :: r, cs, o, lo, hi, H, hk => by
    obtain ⟨m, e1, p, pr⟩ := H
    have hm := DeSeq.le pr
    obtain ⟨_, p'⟩ := DeOne.keep (w' := w') ⟨e1, p⟩ fun g h1 h2 => hk g (by omega) (by omega)
    exact ⟨m, e1, p', DeSeq.keep pr fun g h1 h2 => hk g (by omega) (by omega)⟩
theorem DeSeq.widen {w : World} : ∀ {l : List De} {cs : Array Value} {o lo hi hi' : Nat}, DeSeq w l cs o lo hi → hi ≤ hi' → DeSeq w l cs o lo hi'
  | [], _, _, _, _, _, h, e => Nat.le_trans h e
  | x :: r, cs, o, lo, hi, hi', H, e => by
    obtain ⟨m, e1, p, pr⟩ := H
    exact ⟨m, e1, p, DeSeq.widen pr e⟩
theorem DeOwn.keep {lo hi : Nat} {w w' : World} {a : Option Addr} {l : List De} (h : DeOwn lo hi w a l) (hk : Agree lo hi w w') : DeOwn lo hi w' a l := by
  rcases h with h | ⟨b, ds, rfl, f1, f2, f3, f4, f5⟩
  · exact .inl h
  · exact .inr ⟨b, ds, rfl, f1, f2, (hk b (by omega) (by omega)).trans f3, f4, DeSeq.keep f5 fun g h1 h2 => hk g (by omega) (by omega)⟩
theorem DeOwn.wide {lo hi lo' hi' : Nat} {w : World} {a : Option Addr} {l : List De} (h : DeOwn lo hi w a l) (e1 : lo' ≤ lo) (e2 : hi ≤ hi') : DeOwn lo' hi' w a l := by
  rcases h with h | ⟨b, ds, rfl, f1, f2, f3, f4, f5⟩
  · exact .inl h
  · exact .inr ⟨b, ds, rfl, by omega, by omega, f3, f4, DeSeq.widen f5 e2⟩
theorem DeSeq.cells {w : World} {cs cs' : Array Value} : ∀ {l : List De} {o lo hi : Nat}, DeSeq w l cs o lo hi → (∀ j, o ≤ j → j < o + 4 * l.length → cs'[j]? = cs[j]?) → DeSeq w l cs' o lo hi
  | [], _, _, _, h, _ => h
  | x :: r, o, lo, hi, H, hc => by
    obtain ⟨m, e1, ⟨c0, c1, c2, a, c, c3, q⟩, pr⟩ := H
    simp only [List.length_cons] at hc
    exact ⟨m, e1, ⟨(hc _ (by omega) (by omega)).trans c0, (hc _ (by omega) (by omega)).trans c1, (hc _ (by omega) (by omega)).trans c2, a, c, (hc _ (by omega) (by omega)).trans c3, q⟩, DeSeq.cells pr fun j h1 h2 => hc j (by omega) (by omega)⟩
theorem DeSeq.at_ {w : World} {cs : Array Value} : ∀ {l : List De} {o p m : Nat}, DeSeq w l cs o p m → ∀ i x, l[i]? = some x → ∃ p' m', p ≤ p' ∧ m' ≤ m ∧ DeOne w x cs (o + i * 4) p' m'
  | [], _, _, _, _, i, x, hx => by simp at hx
  | y :: r, o, p, m, H, 0, x, hx => by
    obtain ⟨m', e1, q, pr⟩ := H
    simp only [List.getElem?_cons_zero, Option.some.injEq] at hx
    subst hx
    exact ⟨p, m', Nat.le_refl _, DeSeq.le pr, e1, by simpa using q⟩
  | y :: r, o, p, m, H, i + 1, x, hx => by
    obtain ⟨m', e1, q, pr⟩ := H
    obtain ⟨p2, m2, f1, f2, f3⟩ := DeSeq.at_ pr i x (by simpa using hx)
    exact ⟨p2, m2, by omega, f2, by rw [show o + (i + 1) * 4 = o + 4 + i * 4 by omega]; exact f3⟩
theorem DeSeq.snoc {w : World} {cs : Array Value} {x : De} : ∀ {l : List De} {o lo m hi : Nat}, DeSeq w l cs o lo m → DeOne w x cs (o + 4 * l.length) m hi → DeSeq w (l ++ [x]) cs o lo hi
  | [], o, lo, m, hi, H, R => by
    have H : lo ≤ m := H
    obtain ⟨e1, c0, c1, c2, a, c, c3, q⟩ := R
    simp only [List.length_nil, Nat.mul_zero, Nat.add_zero] at c0 c1 c2 c3
    exact ⟨hi, by omega, ⟨c0, c1, c2, a, c, c3, q.wide H (Nat.le_refl _)⟩, Nat.le_refl hi⟩
  | y :: r, o, lo, m, hi, H, R => by
    obtain ⟨m', e1, p, pr⟩ := H
    refine ⟨m', e1, p, DeSeq.snoc pr ?_⟩
    rw [show o + 4 + 4 * r.length = o + 4 * (y :: r).length by simp only [List.length_cons]; omega]
    exact R
/-- Nothing has turned but blocks from lo up and below hi, and new ones were made. -/
structure KeptR (lo hi : Nat) (w w' : World) : Prop where
  os : w'.os = w.os
  tape : w'.tape = w.tape
  output : w'.output = w.output
  size : w.heap.size ≤ w'.heap.size
  block : ∀ k, k < w.heap.size → (k < lo ∨ hi ≤ k) → w'.heap[k]? = w.heap[k]?
theorem KeptR.refl (lo hi : Nat) (w : World) : KeptR lo hi w w := ⟨rfl, rfl, rfl, Nat.le_refl _, fun _ _ _ => rfl⟩
theorem KeptR.trans {lo hi : Nat} {a b c : World} (h : KeptR lo hi a b) (k : KeptR lo hi b c) : KeptR lo hi a c :=
  ⟨k.os.trans h.os, k.tape.trans h.tape, k.output.trans h.output, Nat.le_trans h.size k.size, fun g hg hn => (k.block g (Nat.lt_of_lt_of_le hg h.size) hn).trans (h.block g hg hn)⟩
theorem KeptR.mono {lo hi lo' hi' : Nat} {a b : World} (h : KeptR lo hi a b) (e1 : lo' ≤ lo) (e2 : hi ≤ hi') : KeptR lo' hi' a b :=
  ⟨h.os, h.tape, h.output, h.size, fun g hg hn => h.block g hg (by omega)⟩
theorem KeptR.of {lo hi : Nat} {a b : World} (h : Below a.heap.size a b) : KeptR lo hi a b := ⟨h.os, h.tape, h.output, h.size, fun g hg _ => h.block g hg⟩
theorem KeptR.set {lo hi : Nat} {a b : World} (h : KeptR lo hi a b) {p : Addr} (h1 : lo ≤ p.block) (h2 : p.block < hi) (v : Value) : KeptR lo hi a (b.setCell p v) := by
  have hb : Below (p.block) b (b.setCell p v) := (Below.refl _ _).setCell (Nat.le_refl _) v
  exact h.trans ⟨hb.os, hb.tape, hb.output, hb.size, fun g _ hn => Below.heap_setCell _ _ _ _ (by omega)⟩
theorem KeptR.below {lo hi : Nat} {a b : World} (h : KeptR lo hi a b) {B : Nat} (hB : B ≤ a.heap.size) (hs : B ≤ lo) : Below B a b :=
  ⟨h.os, h.tape, h.output, h.size, fun g hg => h.block g (by omega) (.inl (by omega))⟩
theorem put4_ne {cs : Array Value} {k : Nat} {v0 v1 v2 v3 : Value} {j : Nat} (h : j < k ∨ k + 4 ≤ j) : (put4 cs k v0 v1 v2 v3)[j]? = cs[j]? := by
  unfold put4
  rw [Array.getElem?_setIfInBounds_ne (by omega), Array.getElem?_setIfInBounds_ne (by omega), Array.getElem?_setIfInBounds_ne (by omega), Array.getElem?_setIfInBounds_ne (by omega)]
theorem own_row {w : World} {b : Nat} {cs : Array Value} {lo hi : Nat} {ty : TypeId} (h : w.heap[b]? = some (.cells cs ty (0, 0))) : b < w.heap.size := (Array.getElem?_eq_some_iff.1 h).1

/-- The marks of the law. -/
def fAr (k : Nat) (x : Ar) : Ar := ⟨G.mkT k, ⟨((k + 1 : Nat) : Int), ((k + 2 : Nat) : Int), G.mkT (k + 3)⟩⟩
def fDi (k : Nat) (x : Di) : Di := ⟨G.m3 k, ⟨((k + 1 : Nat) : Int), ((k + 2 : Nat) : Int), G.mkT (k + 3)⟩⟩
def c4 {α : Type} (x : α) : Nat := 4
def mkAr (k : Nat) (l : List Ar) : List Ar := G.mks fAr c4 k l
def mkDi (k : Nat) (l : List Di) : List Di := G.mks fDi c4 k l
theorem cnt4 {α : Type} : ∀ l : List α, G.cnt c4 l = 4 * l.length
  | [] => rfl
  | x :: r => by simp only [G.cnt, c4, List.length_cons, cnt4 r]; omega
theorem mkAr_len (k : Nat) (l : List Ar) : (mkAr k l).length = l.length := G.mks_length _ _ _ _
theorem mkDi_len (k : Nat) (l : List Di) : (mkDi k l).length = l.length := G.mks_length _ _ _ _
theorem mkAr_get (k : Nat) (l : List Ar) (i : Nat) (h : i < l.length) : (mkAr k l)[i]? = some (fAr (k + 4 * i) l[i]) := by
  rw [mkAr, G.mks_get _ _ _ _ _ h, cnt4, List.length_take, show min i l.length = i by omega]
theorem mkDi_get (k : Nat) (l : List Di) (i : Nat) (h : i < l.length) : (mkDi k l)[i]? = some (fDi (k + 4 * i) l[i]) := by
  rw [mkDi, G.mks_get _ _ _ _ _ h, cnt4, List.length_take, show min i l.length = i by omega]
def mkHd (k : Nat) (h : Hd) : Hd := ⟨(k : Int), G.mkT (k + 1), G.mkT (k + 2), mkAr (k + 3) h.args, mkDi (k + 3 + 4 * h.args.length) h.dirs⟩
def cHd (h : Hd) : Nat := 3 + 4 * h.args.length + 4 * h.dirs.length
def cS : Sels → Nat
  | .nil => 0
  | .cons h sub rest => cHd h + cS sub + cS rest
def mkS : Nat → Sels → Sels
  | _, .nil => .nil
  | k, .cons h sub rest => .cons (mkHd k h) (mkS (k + cHd h) sub) (mkS (k + cHd h + cS sub) rest)
theorem mkS_len : ∀ (k : Nat) (l : Sels), (mkS k l).len = l.len
  | _, .nil => rfl
  | k, .cons h sub rest => by simp only [mkS, Sels.len, mkS_len]
theorem mkS_nil {k : Nat} {l : Sels} (h : l = .nil) : mkS k l = .nil := by subst h; rfl
def cP : List (Hd × Sels) → Nat
  | [] => 0
  | x :: p => cHd x.1 + cS x.2 + cP p
def mkP : Nat → List (Hd × Sels) → List (Hd × Sels)
  | _, [] => []
  | k, x :: p => (mkHd k x.1, mkS (k + cHd x.1) x.2) :: mkP (k + cHd x.1 + cS x.2) p
theorem mkP_len : ∀ (k : Nat) (p : List (Hd × Sels)), (mkP k p).length = p.length
  | _, [] => rfl
  | k, x :: p => by simp [mkP, mkP_len]
theorem mkP_snoc : ∀ (k : Nat) (p : List (Hd × Sels)) (h : Hd) (sub : Sels), mkP k (p ++ [(h, sub)]) = mkP k p ++ [(mkHd (k + cP p) h, mkS (k + cP p + cHd h) sub)]
  | k, [], h, sub => by simp [mkP, cP]
  | k, x :: p, h, sub => by
    simp only [List.cons_append, mkP, cP, mkP_snoc, List.cons.injEq, true_and]
    rw [show k + cHd x.1 + cS x.2 + cP p = k + (cHd x.1 + cS x.2 + cP p) by omega]
theorem cP_snoc : ∀ (p : List (Hd × Sels)) (h : Hd) (sub : Sels), cP (p ++ [(h, sub)]) = cP p + cHd h + cS sub
  | [], h, sub => by simp [cP]
  | x :: p, h, sub => by simp only [List.cons_append, cP, cP_snoc]; omega
theorem cS_app : ∀ (p : List (Hd × Sels)) (r : Sels), cS (app p r) = cP p + cS r
  | [], r => by simp [app, cP]
  | x :: p, r => by simp only [app, cS, cP, cS_app]; omega
theorem mkS_app : ∀ (k : Nat) (p : List (Hd × Sels)) (r : Sels), mkS k (app p r) = app (mkP k p) (mkS (k + cP p) r)
  | k, [], r => by simp [app, mkP, cP]
  | k, x :: p, r => by
    simp only [app, mkS, mkP, cP, mkS_app]
    rw [show k + cHd x.1 + cS x.2 + cP p = k + (cHd x.1 + cS x.2 + cP p) by omega]
theorem len_cS : ∀ l : Sels, l.len ≤ cS l
  | .nil => Nat.le_refl _
  | .cons h sub rest => by have := len_cS rest; simp only [Sels.len, cS, cHd]; omega
def fDe (k : Nat) (x : De) : De := ⟨(k : Int), G.mkT (k + 1), G.mkT (k + 2), mkS (k + 3) x.sels⟩
def cDe (x : De) : Nat := 3 + cS x.sels
end Go.Proofs.Ytajjaddlalbnmaa
