/- The law's marks written into answers' values that the call owns. -/
import Derived.Test.YtdchpeifpiglmaaGreatDoorGMarks
namespace Go.Proofs.YtdchpeifpiglmaaGreatDoor.G
open Go.ChangeShapes Go.WideShapes Go.ChangeAt Go.RowKit
set_option linter.unusedVariables false

/-- Nothing has turned but some blocks, and new ones were made. -/
structure Kept (bs : List Nat) (w w' : World) : Prop where
  os : w'.os = w.os
  tape : w'.tape = w.tape
  output : w'.output = w.output
  size : w.heap.size ≤ w'.heap.size
  block : ∀ k, k < w.heap.size → ¬ k ∈ bs → w'.heap[k]? = w.heap[k]?
theorem Kept.refl (bs : List Nat) (w : World) : Kept bs w w := ⟨rfl, rfl, rfl, Nat.le_refl _, fun _ _ _ => rfl⟩
theorem Kept.trans {bs : List Nat} {a b c : World} (h : Kept bs a b) (k : Kept bs b c) : Kept bs a c :=
  ⟨k.os.trans h.os, k.tape.trans h.tape, k.output.trans h.output, Nat.le_trans h.size k.size, fun g hg hn => (k.block g (Nat.lt_of_lt_of_le hg h.size) hn).trans (h.block g hg hn)⟩
theorem Kept.mono {bs cs : List Nat} {a b : World} (h : Kept bs a b) (hs : ∀ x ∈ bs, x ∈ cs) : Kept cs a b :=
  ⟨h.os, h.tape, h.output, h.size, fun g hg hn => h.block g hg (fun hx => hn (hs g hx))⟩
theorem Kept.of {bs : List Nat} {a b : World} (h : Below a.heap.size a b) : Kept bs a b := ⟨h.os, h.tape, h.output, h.size, fun g hg _ => h.block g hg⟩
theorem Kept.set {bs : List Nat} {a b : World} (h : Kept bs a b) {p : Addr} (hp : p.block ∈ bs) (v : Value) : Kept bs a (b.setCell p v) := by
  have hb : Below (p.block) b (b.setCell p v) := (Below.refl _ _).setCell (Nat.le_refl _) v
  exact h.trans ⟨hb.os, hb.tape, hb.output, hb.size, fun g _ hn => Below.heap_setCell _ _ _ _ (fun e => hn (e ▸ hp))⟩
theorem Kept.below {bs : List Nat} {a b : World} (h : Kept bs a b) {B : Nat} (hB : B ≤ a.heap.size) (hs : ∀ x ∈ bs, B ≤ x) : Below B a b :=
  ⟨h.os, h.tape, h.output, h.size, fun g hg => h.block g (by omega) (fun hx => by have := hs g hx; omega)⟩

def mks {α : Type} (f : Nat → α → α) (c : α → Nat) : Nat → List α → List α
  | _, [] => []
  | k, x :: r => f k x :: mks f c (k + c x) r
def cnt {α : Type} (c : α → Nat) : List α → Nat
  | [] => 0
  | x :: r => c x + cnt c r
theorem mks_length {α : Type} (f : Nat → α → α) (c : α → Nat) : ∀ (k : Nat) (l : List α), (mks f c k l).length = l.length
  | _, [] => rfl
  | k, x :: r => by simp [mks, mks_length f c (k + c x) r]
theorem mks_get {α : Type} (f : Nat → α → α) (c : α → Nat) : ∀ (k : Nat) (l : List α) (i : Nat) (h : i < l.length), (mks f c k l)[i]? = some (f (k + cnt c (l.take i)) l[i])
  | k, [], i, h => by simp at h
  | k, x :: r, 0, h => by simp [mks, cnt]
  | k, x :: r, i + 1, h => by
    have := mks_get f c (k + c x) r i (by simpa using h)
    simp only [mks, List.getElem?_cons_succ, this, List.take_succ_cons, cnt, List.getElem_cons_succ]
    congr 2; omega
theorem cnt_append {α : Type} (c : α → Nat) (a b : List α) : cnt c (a ++ b) = cnt c a + cnt c b := by
  induction a with
  | nil => simp [cnt]
  | cons x a ih => simp only [List.cons_append, cnt, ih]; omega
theorem cnt_take {α : Type} (c : α → Nat) {l : List α} {i : Nat} (h : i < l.length) : cnt c (l.take (i + 1)) = cnt c (l.take i) + c l[i] := by
  rw [List.take_succ_eq_append_getElem h, cnt_append]; simp [cnt]
theorem cnt_le {α : Type} (c : α → Nat) (l : List α) (i : Nat) : cnt c (l.take i) ≤ cnt c l := by
  have : cnt c l = cnt c (l.take i) + cnt c (l.drop i) := by rw [← cnt_append, List.take_append_drop]
  omega
/-- The first i of one list, the rest of another. -/
def mix {α : Type} (m l : List α) (i : Nat) : List α := m.take i ++ l.drop i
theorem mix_len {α : Type} {m l : List α} {i : Nat} (h : m.length = l.length) (hi : i ≤ l.length) : (mix m l i).length = l.length := by simp [mix]; omega
theorem mix_zero {α : Type} (m l : List α) : mix m l 0 = l := by simp [mix]
theorem mix_all {α : Type} {m l : List α} (h : m.length = l.length) : mix m l l.length = m := by
  unfold mix; rw [List.drop_length, ← h, List.take_length]; simp
theorem mix_at {α : Type} {m l : List α} {i : Nat} (h : m.length = l.length) (hi : i < l.length) : (mix m l i)[i]? = some l[i] := by
  unfold mix
  rw [List.getElem?_append_right (by simp; omega)]
  simp only [List.length_take, List.getElem?_drop]
  rw [show i + (i - min i m.length) = i by omega, List.getElem?_eq_getElem hi]
theorem mix_next {α : Type} {m l : List α} {i : Nat} (h : m.length = l.length) (hi : i < l.length) (j : Nat) (hj : j ≠ i) : (mix m l (i + 1))[j]? = (mix m l i)[j]? := by
  unfold mix
  by_cases hlt : j < i
  · rw [List.getElem?_append_left (by simp; omega), List.getElem?_append_left (by simp; omega), List.getElem?_take, List.getElem?_take]
    simp [show j < i + 1 by omega, hlt]
  · rw [List.getElem?_append_right (by simp; omega), List.getElem?_append_right (by simp; omega)]
    simp only [List.length_take, List.getElem?_drop]
    congr 1; omega
theorem mix_new {α : Type} {m l : List α} {i : Nat} (h : m.length = l.length) (hi : i < l.length) : (mix m l (i + 1))[i]? = m[i]? := by
  unfold mix
  rw [List.getElem?_append_left (by simp; omega), List.getElem?_take]; simp
def m3 (k : Nat) : Bool := decide (k % 3 = 0)
theorem m3_eq (k : Nat) : ((k : Int).tmod 3 == 0) = m3 k := by
  unfold m3
  rw [Bool.eq_iff_iff]
  simp only [beq_iff_eq, decide_eq_true_eq]
  rw [Int.tmod_eq_emod_of_nonneg (by omega)]
  omega
end Go.Proofs.YtdchpeifpiglmaaGreatDoor.G
namespace Go.Proofs.YtdchpeifpiglmaaGreatDoor.G
open Go.ChangeShapes Go.WideShapes Go.ChangeAt Go.RowKit
set_option linter.unusedVariables false

def OwnR {α : Type} (at_ : (Nat → Option Value) → Nat → α → Prop) (z : Nat) (ty : TypeId) (lo hi : Nat) (w : World) (a : Option Addr) (l : List α) : Prop :=
  l = [] ∨ ∃ b cs, a = some ⟨b, 0, none⟩ ∧ lo ≤ b ∧ b < hi ∧ w.heap[b]? = some (.cells cs ty (0, 0)) ∧ l.length * z ≤ cs.size ∧ ∀ i x, l[i]? = some x → at_ (fun j => cs[j]?) (i * z) x
abbrev KeOwn := OwnR KeAt 1 9
theorem OwnR.keep {α : Type} {at_ : (Nat → Option Value) → Nat → α → Prop} {z : Nat} {ty : TypeId} {lo hi : Nat} {w w' : World} {a : Option Addr} {l : List α} (h : OwnR at_ z ty lo hi w a l) (hk : Agree lo hi w w') : OwnR at_ z ty lo hi w' a l := by
  rcases h with h | ⟨b, cs, rfl, h1, h2, h3, h4, h5⟩
  · exact .inl h
  · exact .inr ⟨b, cs, rfl, h1, h2, (hk b h1 h2).trans h3, h4, h5⟩
theorem OwnR.wide {α : Type} {at_ : (Nat → Option Value) → Nat → α → Prop} {z : Nat} {ty : TypeId} {lo hi lo' hi' : Nat} {w : World} {a : Option Addr} {l : List α} (h : OwnR at_ z ty lo hi w a l) (e1 : lo' ≤ lo) (e2 : hi ≤ hi') : OwnR at_ z ty lo' hi' w a l := by
  rcases h with h | ⟨b, cs, rfl, h1, h2, h3, h4, h5⟩
  · exact .inl h
  · exact .inr ⟨b, cs, rfl, by omega, by omega, h3, h4, h5⟩
theorem OwnR.row {α : Type} {at_ : (Nat → Option Value) → Nat → α → Prop} {z : Nat} {ty : TypeId} {lo hi : Nat} {w : World} {a : Option Addr} {l : List α} (h : OwnR at_ z ty lo hi w a l) : Row at_ z lo hi w a l := by
  rcases h with h | ⟨b, cs, rfl, h1, h2, h3, h4, h5⟩
  · exact .inl h
  · exact .inr ⟨b, 0, rfl, h1, h2, fun i x hx => by rw [row_rd h3, Nat.zero_add]; exact h5 i x hx⟩
theorem ke_row {lo hi : Nat} {w : World} {a : Option Addr} {l : List ByteArray} (h : KeOwn lo hi w a l) : KeRow lo hi w a l := OwnR.row h

/-- Values in a block's cells from a place on; their lists lie from lo up and below hi, in order. -/
def OuSeq (w : World) : Ous → Array Value → Nat → Nat → Nat → Prop
  | .nil, _, _, lo, hi => lo ≤ hi
  | .cons h sub rest, cs, o, lo, hi => ∃ m1 m3, lo ≤ m1 ∧ m1 ≤ m3 ∧ cs[o]? = some (.int .i64 h.k) ∧ cs[o + 1]? = some (.int .i64 h.n) ∧ cs[o + 2]? = some (.string h.t) ∧
      (∃ a c, cs[o + 3]? = some (.slice a h.keys.length c) ∧ h.keys.length ≤ c ∧ KeOwn lo m1 w a h.keys) ∧
      (∃ a c, cs[o + 4]? = some (.slice a sub.len c) ∧ (sub = .nil ∨ ∃ b ds, a = some ⟨b, 0, none⟩ ∧ m1 ≤ b ∧ b < m3 ∧ w.heap[b]? = some (.cells ds 44 (0, 0)) ∧ sub.len * 5 ≤ ds.size ∧ OuSeq w sub ds 0 (b + 1) m3)) ∧
      OuSeq w rest cs (o + 5) m3 hi
def OuOwn (lo hi : Nat) (w : World) (a : Option Addr) (l : Ous) : Prop :=
  l = .nil ∨ ∃ b ds, a = some ⟨b, 0, none⟩ ∧ lo ≤ b ∧ b < hi ∧ w.heap[b]? = some (.cells ds 44 (0, 0)) ∧ l.len * 5 ≤ ds.size ∧ OuSeq w l ds 0 (b + 1) hi
/-- One value's cells and lists. -/
def OuOne (w : World) (h : Oh) (sub : Ous) (cs : Array Value) (o lo hi : Nat) : Prop :=
  ∃ m1, lo ≤ m1 ∧ m1 ≤ hi ∧ cs[o]? = some (.int .i64 h.k) ∧ cs[o + 1]? = some (.int .i64 h.n) ∧ cs[o + 2]? = some (.string h.t) ∧
      (∃ a c, cs[o + 3]? = some (.slice a h.keys.length c) ∧ h.keys.length ≤ c ∧ KeOwn lo m1 w a h.keys) ∧
      (∃ a c, cs[o + 4]? = some (.slice a sub.len c) ∧ OuOwn m1 hi w a sub)
theorem OuSeq.uncons {w : World} {h : Oh} {sub rest : Ous} {cs : Array Value} {o lo hi : Nat} (H : OuSeq w (.cons h sub rest) cs o lo hi) : ∃ m, OuOne w h sub cs o lo m ∧ OuSeq w rest cs (o + 5) m hi := by
  obtain ⟨m1, m3, e1, e2, c0, c1, c2, p3, p4, pr⟩ := H
  exact ⟨m3, ⟨m1, e1, e2, c0, c1, c2, p3, p4⟩, pr⟩
theorem OuSeq.cons {w : World} {h : Oh} {sub rest : Ous} {cs : Array Value} {o lo m hi : Nat} (H : OuOne w h sub cs o lo m) (R : OuSeq w rest cs (o + 5) m hi) : OuSeq w (.cons h sub rest) cs o lo hi := by
  obtain ⟨m1, e1, e2, c0, c1, c2, p3, p4⟩ := H
  exact ⟨m1, m, e1, e2, c0, c1, c2, p3, p4, R⟩
theorem OuSeq.le {w : World} : ∀ {l : Ous} {cs : Array Value} {o lo hi : Nat}, OuSeq w l cs o lo hi → lo ≤ hi
  | .nil, _, _, _, _, h => h
  | .cons h sub rest, cs, o, lo, hi, H => by
    obtain ⟨m1, m3, e1, e2, c0, c1, c2, p3, p4, pr⟩ := H
    have := OuSeq.le pr
    omega
theorem OuSeq.keep {w w' : World} : ∀ {l : Ous} {cs : Array Value} {o lo hi : Nat}, OuSeq w l cs o lo hi → Agree lo hi w w' → OuSeq w' l cs o lo hi
  | .nil, _, _, _, _, h, _ => h
  | .cons h sub rest, cs, o, lo, hi, H, hk => by
    obtain ⟨m1, m3, e1, e2, c0, c1, c2, ⟨a3, d3, p3, pc, q3⟩, ⟨a5, d5, p5, q5⟩, pr⟩ := H
    have hm := OuSeq.le pr
    refine ⟨m1, m3, e1, e2, c0, c1, c2, ⟨a3, d3, p3, pc, q3.keep fun g h1 h2 => hk g (by omega) (by omega)⟩, ⟨a5, d5, p5, ?_⟩, OuSeq.keep pr fun g h1 h2 => hk g (by omega) (by omega)⟩
    rcases q5 with q5 | ⟨b, ds, rfl, f1, f2, f3, f4, f5⟩
    · exact .inl q5
    · exact .inr ⟨b, ds, rfl, f1, f2, (hk b (by omega) (by omega)).trans f3, f4, OuSeq.keep f5 fun g h1 h2 => hk g (by omega) (by omega)⟩
theorem OuSeq.widen {w : World} : ∀ {l : Ous} {cs : Array Value} {o lo hi hi' : Nat}, OuSeq w l cs o lo hi → hi ≤ hi' → OuSeq w l cs o lo hi'
  | .nil, _, _, _, _, _, h, e => Nat.le_trans h e
  | .cons h sub rest, cs, o, lo, hi, hi', H, e => by
    obtain ⟨m, H1, H2⟩ := H.uncons
    exact OuSeq.cons H1 (OuSeq.widen H2 e)
theorem OuOwn.keep {lo hi : Nat} {w w' : World} {a : Option Addr} {l : Ous} (h : OuOwn lo hi w a l) (hk : Agree lo hi w w') : OuOwn lo hi w' a l := by
  rcases h with h | ⟨b, ds, rfl, f1, f2, f3, f4, f5⟩
  · exact .inl h
  · exact .inr ⟨b, ds, rfl, f1, f2, (hk b (by omega) (by omega)).trans f3, f4, OuSeq.keep f5 fun g h1 h2 => hk g (by omega) (by omega)⟩
theorem OuOwn.wide {lo hi lo' hi' : Nat} {w : World} {a : Option Addr} {l : Ous} (h : OuOwn lo hi w a l) (e1 : lo' ≤ lo) (e2 : hi ≤ hi') : OuOwn lo' hi' w a l := by
  rcases h with h | ⟨b, ds, rfl, f1, f2, f3, f4, f5⟩
  · exact .inl h
  · exact .inr ⟨b, ds, rfl, by omega, by omega, f3, f4, OuSeq.widen f5 e2⟩
theorem OuOne.keep {w w' : World} {h : Oh} {sub : Ous} {cs : Array Value} {o lo hi : Nat} (H : OuOne w h sub cs o lo hi) (hk : Agree lo hi w w') : OuOne w' h sub cs o lo hi := by
  obtain ⟨m1, e1, e2, c0, c1, c2, ⟨a3, d3, p3, pc, q3⟩, ⟨a5, d5, p5, q5⟩⟩ := H
  exact ⟨m1, e1, e2, c0, c1, c2, ⟨a3, d3, p3, pc, q3.keep fun g h1 h2 => hk g (by omega) (by omega)⟩, ⟨a5, d5, p5, q5.keep fun g h1 h2 => hk g (by omega) (by omega)⟩⟩
theorem OuOne.widen {w : World} {h : Oh} {sub : Ous} {cs : Array Value} {o lo hi hi' lo' : Nat} (H : OuOne w h sub cs o lo hi) (e : hi ≤ hi') (e' : lo' ≤ lo) : OuOne w h sub cs o lo' hi' := by
  obtain ⟨m1, e1, e2, c0, c1, c2, ⟨a3, d3, p3, pc, q3⟩, ⟨a5, d5, p5, q5⟩⟩ := H
  exact ⟨m1, by omega, by omega, c0, c1, c2, ⟨a3, d3, p3, pc, q3.wide e' (Nat.le_refl _)⟩, ⟨a5, d5, p5, q5.wide (Nat.le_refl _) e⟩⟩
/-- Only the cells of a list count. -/
theorem OuSeq.cells {w : World} {cs cs' : Array Value} : ∀ {l : Ous} {o lo hi : Nat}, OuSeq w l cs o lo hi → (∀ j, o ≤ j → j < o + 5 * l.len → cs'[j]? = cs[j]?) → OuSeq w l cs' o lo hi
  | .nil, _, _, _, h, _ => h
  | .cons h sub rest, o, lo, hi, H, hc => by
    obtain ⟨m1, m3, e1, e2, c0, c1, c2, ⟨a3, d3, p3, pc, q3⟩, ⟨a5, d5, p5, q5⟩, pr⟩ := H
    simp only [Ous.len] at hc
    exact ⟨m1, m3, e1, e2, (hc _ (by omega) (by omega)).trans c0, (hc _ (by omega) (by omega)).trans c1, (hc _ (by omega) (by omega)).trans c2, ⟨a3, d3, (hc _ (by omega) (by omega)).trans p3, pc, q3⟩, ⟨a5, d5, (hc _ (by omega) (by omega)).trans p5, q5⟩, OuSeq.cells pr fun j h1 h2 => hc j (by omega) (by omega)⟩
theorem OuOwn.toRow {lo hi : Nat} {w : World} : ∀ {l : Ous} {cs : Array Value} {rd : Nat → Option Value} {o p m : Nat}, OuSeq w l cs o p m → (∀ j, rd j = cs[j]?) → lo ≤ p → m ≤ hi → OuPre lo hi w l rd o l.len
  | .nil, _, _, _, _, _, _, _, _, _ => trivial
  | .cons h sub rest, cs, rd, o, p, m, H, hrd, h1, h2 => by
    obtain ⟨m1, m3, e1, e2, c0, c1, c2, ⟨a3, d3, p3, pc, q3⟩, ⟨a5, d5, p5, q5⟩, pr⟩ := H
    have hm := OuSeq.le pr
    refine .inr ⟨⟨(hrd _).trans c0, (hrd _).trans c1, (hrd _).trans c2, a3, d3, (hrd _).trans p3, pc, ke_row (q3.wide h1 (by omega))⟩, ⟨a5, d5, (hrd _).trans p5, ?_⟩, ?_⟩
    · rcases q5 with q5 | ⟨b, ds, rfl, f1, f2, f3, f4, f5⟩
      · exact .inl q5
      · exact .inr ⟨b, 0, rfl, by omega, by omega, OuOwn.toRow f5 (fun j => row_cell f3 j) (by omega) (by omega)⟩
    · simp only [Ous.len, Nat.add_sub_cancel]
      exact OuOwn.toRow pr hrd (by omega) h2
theorem OuOwn.row {lo hi : Nat} {w : World} {a : Option Addr} {l : Ous} (h : OuOwn lo hi w a l) : OuRow lo hi w a l := by
  rcases h with h | ⟨b, ds, rfl, f1, f2, f3, f4, f5⟩
  · exact .inl h
  · exact .inr ⟨b, 0, rfl, f1, f2, OuOwn.toRow f5 (fun j => row_cell f3 j) (by omega) (Nat.le_refl _)⟩
/-- One more value behind a list. -/
theorem OuSeq.snoc {w : World} {cs : Array Value} {h : Oh} {sub : Ous} : ∀ (pre : List (Oh × Ous)) {o lo m hi : Nat}, OuSeq w (appO pre .nil) cs o lo m → OuOne w h sub cs (o + 5 * pre.length) m hi → OuSeq w (appO (pre ++ [(h, sub)]) .nil) cs o lo hi
  | [], o, lo, m, hi, H, R => by
    have H : lo ≤ m := H
    have R' : OuOne w h sub cs o lo hi := OuOne.widen (by simpa using R) (Nat.le_refl _) H
    exact OuSeq.cons (rest := .nil) R' (Nat.le_refl hi)
  | x :: pre, o, lo, m, hi, H, R => by
    obtain ⟨m', H1, H2⟩ := OuSeq.uncons (rest := appO pre .nil) H
    refine OuSeq.cons (rest := appO (pre ++ [(h, sub)]) .nil) H1 (OuSeq.snoc pre H2 ?_)
    rw [show o + 5 + 5 * pre.length = o + 5 * (x :: pre).length by simp only [List.length_cons]; omega]
    exact R
/-- Nothing has turned but blocks from lo up and below hi, and new ones were made. -/
structure KeptR (lo hi : Nat) (w w' : World) : Prop where
  os : w'.os = w.os
  tape : w'.tape = w.tape
  output : w'.output = w.output
  size : w.heap.size ≤ w'.heap.size
  block : ∀ k, k < w.heap.size → (k < lo ∨ hi ≤ k) → w'.heap[k]? = w.heap[k]?
theorem KeptR.refl (lo hi : Nat) (w : World) : KeptR lo hi w w := ⟨rfl, rfl, rfl, Nat.le_refl _, fun _ _ _ => rfl⟩
theorem KeptR.trans {lo hi : Nat} {a b c : World} (h : KeptR lo hi a b) (k : KeptR lo hi b c) : KeptR lo hi a c :=
  ⟨k.os.trans h.os, k.tape.trans h.tape, k.output.trans h.output, Nat.le_trans h.size k.size, fun g hg hn => (k.block g (Nat.lt_of_lt_of_le hg h.size) hn).trans (h.block g hg hn)⟩
theorem KeptR.mono {lo hi lo' hi' : Nat} {a b : World} (h : KeptR lo hi a b) (e1 : lo' ≤ lo) (e2 : hi ≤ hi') : KeptR lo' hi' a b :=
  ⟨h.os, h.tape, h.output, h.size, fun g hg hn => h.block g hg (by omega)⟩
theorem KeptR.of {lo hi : Nat} {a b : World} (h : Below a.heap.size a b) : KeptR lo hi a b := ⟨h.os, h.tape, h.output, h.size, fun g hg _ => h.block g hg⟩
theorem KeptR.set {lo hi : Nat} {a b : World} (h : KeptR lo hi a b) {p : Addr} (h1 : lo ≤ p.block) (h2 : p.block < hi) (v : Value) : KeptR lo hi a (b.setCell p v) := by
  have hb : Below (p.block) b (b.setCell p v) := (Below.refl _ _).setCell (Nat.le_refl _) v
  exact h.trans ⟨hb.os, hb.tape, hb.output, hb.size, fun g _ hn => Below.heap_setCell _ _ _ _ (by omega)⟩
theorem KeptR.below {lo hi : Nat} {a b : World} (h : KeptR lo hi a b) {B : Nat} (hB : B ≤ a.heap.size) (hs : B ≤ lo) : Below B a b :=
  ⟨h.os, h.tape, h.output, h.size, fun g hg => h.block g (by omega) (.inl (by omega))⟩

/-- The marks of the law. -/
def fKe (k : Nat) (_ : ByteArray) : ByteArray := mkT k
def c1K (_ : ByteArray) : Nat := 1
def mkKe (k : Nat) (l : List ByteArray) : List ByteArray := mks fKe c1K k l
theorem cnt1 : ∀ l : List ByteArray, cnt c1K l = l.length
  | [] => rfl
  | x :: r => by simp only [cnt, c1K, List.length_cons, cnt1 r]; omega
theorem mkKe_len (k : Nat) (l : List ByteArray) : (mkKe k l).length = l.length := mks_length _ _ _ _
theorem mkKe_get (k : Nat) (l : List ByteArray) (i : Nat) (h : i < l.length) : (mkKe k l)[i]? = some (mkT (k + i)) := by
  rw [mkKe, mks_get _ _ _ _ _ h, cnt1, List.length_take, show min i l.length = i by omega]; rfl
def mkOh (k : Nat) (h : Oh) : Oh := ⟨(k : Int), ((k + 1 : Nat) : Int), mkT (k + 2), mkKe (k + 3) h.keys⟩
def cOh (h : Oh) : Nat := 3 + h.keys.length
def cO : Ous → Nat
  | .nil => 0
  | .cons h sub rest => cOh h + cO sub + cO rest
def mkO : Nat → Ous → Ous
  | _, .nil => .nil
  | k, .cons h sub rest => .cons (mkOh k h) (mkO (k + cOh h) sub) (mkO (k + cOh h + cO sub) rest)
theorem mkO_len : ∀ (k : Nat) (l : Ous), (mkO k l).len = l.len
  | _, .nil => rfl
  | k, .cons h sub rest => by simp only [mkO, Ous.len, mkO_len]
def cPo : List (Oh × Ous) → Nat
  | [] => 0
  | x :: p => cOh x.1 + cO x.2 + cPo p
def mkPo : Nat → List (Oh × Ous) → List (Oh × Ous)
  | _, [] => []
  | k, x :: p => (mkOh k x.1, mkO (k + cOh x.1) x.2) :: mkPo (k + cOh x.1 + cO x.2) p
theorem mkPo_len : ∀ (k : Nat) (p : List (Oh × Ous)), (mkPo k p).length = p.length
  | _, [] => rfl
  | k, x :: p => by simp [mkPo, mkPo_len]
theorem mkPo_snoc : ∀ (k : Nat) (p : List (Oh × Ous)) (h : Oh) (sub : Ous), mkPo k (p ++ [(h, sub)]) = mkPo k p ++ [(mkOh (k + cPo p) h, mkO (k + cPo p + cOh h) sub)]
  | k, [], h, sub => by simp [mkPo, cPo]
  | k, x :: p, h, sub => by
    simp only [List.cons_append, mkPo, cPo, mkPo_snoc, List.cons.injEq, true_and]
    rw [show k + cOh x.1 + cO x.2 + cPo p = k + (cOh x.1 + cO x.2 + cPo p) by omega]
theorem cPo_snoc : ∀ (p : List (Oh × Ous)) (h : Oh) (sub : Ous), cPo (p ++ [(h, sub)]) = cPo p + cOh h + cO sub
  | [], h, sub => by simp [cPo]
  | x :: p, h, sub => by simp only [List.cons_append, cPo, cPo_snoc]; omega
theorem cO_app : ∀ (p : List (Oh × Ous)) (r : Ous), cO (appO p r) = cPo p + cO r
  | [], r => by simp [appO, cPo]
  | x :: p, r => by simp only [appO, cO, cPo, cO_app]; omega
theorem mkO_app : ∀ (k : Nat) (p : List (Oh × Ous)) (r : Ous), mkO k (appO p r) = appO (mkPo k p) (mkO (k + cPo p) r)
  | k, [], r => by simp [appO, mkPo, cPo]
  | k, x :: p, r => by
    simp only [appO, mkO, mkPo, cPo, mkO_app]
    rw [show k + cOh x.1 + cO x.2 + cPo p = k + (cOh x.1 + cO x.2 + cPo p) by omega]
theorem len_cO : ∀ l : Ous, l.len ≤ cO l
  | .nil => Nat.le_refl _
  | .cons h sub rest => by have := len_cO rest; simp only [Ous.len, cO, cOh]; omega
theorem val_mk {z : Int} {k : Nat} (h : z = k) : Value.string (mkT z.toNat) = .string (mkT k) := by subst h; simp
theorem val_mkn {a b : Nat} (h : a = b) : Value.string (mkT a) = .string (mkT b) := by rw [h]
theorem val_int {z : Int} {k : Nat} (h : z = k) : Value.int .i64 z = .int .i64 (k : Int) := by rw [h]
end Go.Proofs.YtdchpeifpiglmaaGreatDoor.G
namespace Go.Proofs.YtdchpeifpiglmaaGreatDoor.G
open Go.ChangeShapes Go.WideShapes Go.ChangeAt Go.RowKit
set_option linter.unusedVariables false

set_option maxHeartbeats 4000000 in
set_option maxRecDepth 40000 in
theorem mark_keys (a : Option Addr) (c : Nat) (l : List ByteArray) (lo hi K : Nat) (kk : Int) (w : World) (hkk : kk = (K : Int)) (ho : KeOwn lo hi w a l) (hhi : hi ≤ w.heap.size) (hk : 0 < K) (hb : ((K + l.length : Nat) : Int) ≤ 4611686018427387904) :
    Calls Tryz.prog 39 #[.slice a l.length c, .int .i64 kk] w fun e w' => ∃ r : Int, e = .returned (.int .i64 r) ∧ r = ((K + l.length : Nat) : Int) ∧ KeOwn lo hi w' a (mkKe K l) ∧ KeptR lo hi w w' := by
  have HO : Hid (KeOwn lo hi w a (mix (mkKe K l) l 0)) := by rw [mix_zero]; exact ho
  clear ho
  go_enter Tryz.func39, Tryz.ntmps39
  go_wp2_with fail
  go_loopw [1, 5] (fun s i w' => ∃ (n q : Nat), n ≤ l.length ∧ i = .int .i64 n ∧ s = .int .i64 (q : Int) ∧ Hid (q = K + n) ∧ 0 < q ∧ Hid (KeOwn lo hi w' a (mix (mkKe K l) l n)) ∧ Hid (KeptR lo hi w w')) (fun _ i _ => l.length - (intOf i).toNat)
  case atStart => exact ⟨0, K, by omega, rfl, by rw [hkk], rfl, hk, HO, KeptR.refl _ _ _⟩
  case round =>
    obtain ⟨n, q, hn1, rfl, rfl, HQ, hq0, HW, HK⟩ := hrel
    have hq1 : (q : Int) ≤ 4611686018427387904 := by have := HQ.out; omega
    by_cases hlt : n < l.length
    case neg =>
      have e : n = l.length := by omega
      have HN : Hid (KeOwn lo hi wr a (mkKe K l)) := by
        have h2 := HW.out
        rw [e, mix_all (mkKe_len _ _)] at h2
        exact h2
      have HE : Hid ((q : Int) = ((K + l.length : Nat) : Int)) := by have := HQ.out; unfold Hid; omega
      clear HW HO e
      go_wp2_with fail
      go_ret
      exact ⟨_, rfl, HE.out, HN.out, HK.out⟩
    have HX : Hid ((mkKe K l)[n]? = some (mkT q)) := by rw [HQ.out]; exact mkKe_get _ _ _ hlt
    have HQ9 : Hid (q + 1 = K + (n + 1)) := by have := HQ.out; unfold Hid; omega
    rcases HW.out with h0 | ⟨b, cs, rfl, f1, f2, hh, hcs, hel⟩
    · have h9 := congrArg List.length h0
      rw [mix_len (mkKe_len _ _) hn1] at h9
      simp only [List.length_nil] at h9
      omega
    rw [mix_len (mkKe_len _ _) hn1, Nat.mul_one] at hcs
    have hbl : b < wr.heap.size := (Array.getElem?_eq_some_iff.1 hh).1
    have HL : Hid _ := hel
    obtain ⟨w0, rfl⟩ : ∃ x, x = wr := ⟨_, rfl⟩
    have hl9 : (l.length : Int) ≤ 4611686018427387904 := by omega
    have hq2 : (q : Int) < 4611686018427387904 := by have := HQ.out; omega
    clear hel HW HO hb HQ
    go_wp2_with fail
    refine (mark_text_int _ _ (by omega) (by omega)).mono ?_
    rintro e w1 ⟨rfl, hb1⟩
    have H1 : Hid (w1.heap[b]? = some (.cells cs 9 (0, 0))) := (hb1.block _ hbl).trans hh
    have HK1 : Hid (KeptR lo hi w w1) := HK.out.trans (KeptR.of hb1)
    obtain ⟨u0, hv0⟩ : ∃ v, w1.cell? ⟨b, n, none⟩ = some v := ⟨_, (row_cell H1.out _).trans (Array.getElem?_eq_getElem (by omega))⟩
    have hf0 := row_frozen H1.out n
    clear hb1 hh
    go_wp2_with fail
    refine ⟨⟨n + 1, q + 1, by omega, by go_num, val_int (by omega), HQ9, by omega, ?_, ?_⟩, by simp [intOf]; omega⟩
    · unfold Hid
      refine .inr ⟨b, _, rfl, f1, f2, row_set H1.out _ _, by rw [mix_len (mkKe_len _ _) (by omega)]; simp; exact hcs, fun i y hy => ?_⟩
      by_cases hin : i = n
      · subst hin
        rw [mix_new (mkKe_len _ _) hlt, HX.out] at hy
        simp only [Option.some.injEq] at hy
        subst hy
        show (cs.setIfInBounds _ _)[i * 1]? = _
        rw [Nat.mul_one]
        have : i < cs.size := by omega
        simp [this]
      · rw [mix_next (mkKe_len _ _) hlt i hin] at hy
        show (cs.setIfInBounds _ _)[i * 1]? = _
        rw [Array.getElem?_setIfInBounds_ne (by omega)]
        exact HL.out i y hy
    · exact HK1.out.set (p := ⟨b, n, none⟩) f1 f2 _

def put3 (cs : Array Value) (k : Nat) (v0 v1 v2 : Value) : Array Value := ((cs.setIfInBounds k v0).setIfInBounds (k + 1) v1).setIfInBounds (k + 2) v2
theorem put3_at {cs : Array Value} {k : Nat} {v0 v1 v2 : Value} (h : k + 2 < cs.size) : (put3 cs k v0 v1 v2)[k]? = some v0 ∧ (put3 cs k v0 v1 v2)[k + 1]? = some v1 ∧ (put3 cs k v0 v1 v2)[k + 2]? = some v2 := by
  unfold put3
  refine ⟨?_, ?_, ?_⟩ <;> simp [Array.getElem?_setIfInBounds] <;> omega
theorem put3_ne {cs : Array Value} {k : Nat} {v0 v1 v2 : Value} {j : Nat} (h : j < k ∨ k + 3 ≤ j) : (put3 cs k v0 v1 v2)[j]? = cs[j]? := by
  unfold put3
  rw [Array.getElem?_setIfInBounds_ne (by omega), Array.getElem?_setIfInBounds_ne (by omega), Array.getElem?_setIfInBounds_ne (by omega)]
theorem OuSeq.mark_step {w0 w5 : World} {b m m1 m3 hi n q K : Nat} {cs : Array Value} {pre : List (Oh × Ous)} {h : Oh} {sub rest : Ous} {a3 a5 : Option Addr} {d3 d5 : Nat} {v0 v1 v2 : Value}
    (hlen : pre.length = n) (hcs : n * 5 + 5 ≤ cs.size) (HP : OuSeq w0 (appO (mkPo K pre) .nil) cs 0 (b + 1) m) (HR : OuSeq w0 rest cs (n * 5 + 5) m3 hi) (e1 : m ≤ m1) (e2 : m1 ≤ m3)
    (p3 : cs[n * 5 + 3]? = some (.slice a3 h.keys.length d3)) (pc : h.keys.length ≤ d3) (p5 : cs[n * 5 + 4]? = some (.slice a5 sub.len d5))
    (o3 : KeOwn m m1 w5 a3 (mkKe (q + 3) h.keys)) (o5 : OuOwn m1 m3 w5 a5 (mkO (q + cOh h) sub))
    (S : ∀ g, b < g → g < hi → (g < m ∨ m3 ≤ g) → w5.heap[g]? = w0.heap[g]?) (ev0 : v0 = .int .i64 (q : Int)) (ev1 : v1 = .int .i64 ((q + 1 : Nat) : Int)) (ev2 : v2 = .string (mkT (q + 2))) (hq : q = K + cPo pre) :
    OuSeq w5 (appO (mkPo K (pre ++ [(h, sub)])) .nil) (put3 cs (n * 5) v0 v1 v2) 0 (b + 1) m3 ∧ OuSeq w5 rest (put3 cs (n * 5) v0 v1 v2) ((n + 1) * 5) m3 hi := by
  have hm := HP.le
  have hr := HR.le
  subst hlen
  obtain ⟨g0, g1, g2⟩ := put3_at (cs := cs) (k := pre.length * 5) (v0 := v0) (v1 := v1) (v2 := v2) (by omega)
  have gx : ∀ j, j < pre.length * 5 ∨ pre.length * 5 + 3 ≤ j → (put3 cs (pre.length * 5) v0 v1 v2)[j]? = cs[j]? := fun j hj => put3_ne hj
  generalize put3 cs (pre.length * 5) v0 v1 v2 = cs' at *
  constructor
  · rw [mkPo_snoc, ← hq]
    refine OuSeq.snoc _ (OuSeq.cells (cs := cs) (OuSeq.keep HP fun g h1 h2 => S g (by omega) (by omega) (.inl h2)) fun j _ hj => gx j ?_) ?_
    · rw [appO_len, mkPo_len] at hj
      simp only [Ous.len] at hj
      omega
    · rw [mkPo_len, show 0 + 5 * pre.length = pre.length * 5 by omega]
      refine ⟨m1, e1, e2, g0.trans (by rw [ev0]; rfl), g1.trans (by rw [ev1]; rfl), g2.trans (by rw [ev2]; rfl), ⟨a3, d3, ?_, ?_, o3⟩, ⟨a5, d5, ?_, o5⟩⟩
      · rw [gx _ (by omega), p3]; simp only [mkOh, mkKe_len]
      · simp only [mkOh, mkKe_len]; exact pc
      · rw [gx _ (by omega), p5, mkO_len]
  · rw [show (pre.length + 1) * 5 = pre.length * 5 + 5 by omega]
    exact OuSeq.cells (cs := cs) (OuSeq.keep HR fun g h1 h2 => S g (by omega) h2 (.inr h1)) fun j h1 _ => gx j (by omega)

def MarkOus (l : Ous) : Prop := ∀ (a : Option Addr) (c lo hi K : Nat) (kk : Int) (w : World), kk = (K : Int) → OuOwn lo hi w a l → hi ≤ w.heap.size → 0 < K → ((K + cO l : Nat) : Int) ≤ 4611686018427387904 →
    Calls Tryz.prog 59 #[.slice a l.len c, .int .i64 kk] w fun e w' => ∃ r : Int, e = .returned (.int .i64 r) ∧ r = ((K + cO l : Nat) : Int) ∧ OuOwn lo hi w' a (mkO K l) ∧ KeptR lo hi w w'

set_option maxHeartbeats 4000000 in
set_option maxRecDepth 40000 in
theorem mark_ous (l : Ous) : MarkOus l := by
  induction hN : l.size using Nat.strongRecOn generalizing l with
  | _ N ih =>
  subst hN
  intro a c lo hi K kk w hkk ho hhi hk hb
  have IH : Hid (∀ sub : Ous, sub.size < l.size → MarkOus sub) := fun sub hsub => ih sub.size hsub sub rfl
  clear ih
  subst hkk
  rcases ho with rfl | ⟨b, ds, rfl, f1, f2, f3, f4, f5⟩
  · simp only [Ous.len]
    go_enter Tryz.func59, Tryz.ntmps59
    go_wp2_with fail
    go_loopw [1, 5] (fun s i w' => s = .int .i64 (K : Int) ∧ i = .int .i64 0 ∧ w' = w) (fun _ _ _ => 0)
    case atStart => exact ⟨rfl, rfl, rfl⟩
    case round =>
      obtain ⟨rfl, rfl, rfl⟩ := hrel
      go_wp2_with fail
      go_ret
      exact ⟨_, rfl, by simp [cO], .inl rfl, KeptR.refl _ _ _⟩
  have hl9 : (l.len : Int) ≤ 4611686018427387904 := by have := len_cO l; omega
  have HB : Hid _ := hb
  have F3 : Hid _ := f3
  have F4 : Hid _ := f4
  have F5 : Hid _ := f5
  clear f3 f4 f5 hb
  go_enter Tryz.func59, Tryz.ntmps59
  go_wp2_with fail
  go_loopw [1, 5] (fun s i w' => ∃ (n q m : Nat) (cs : Array Value) (pre : List (Oh × Ous)) (rest : Ous), Hid (l.len = n + rest.len) ∧ i = .int .i64 n ∧ s = .int .i64 (q : Int) ∧ Hid (l = appO pre rest ∧ pre.length = n) ∧ Hid (rest.size ≤ l.size) ∧ Hid (q = K + cPo pre) ∧ 0 < q ∧ Hid (w'.heap[b]? = some (.cells cs 44 (0, 0))) ∧ Hid (l.len * 5 ≤ cs.size) ∧ Hid (OuSeq w' (appO (mkPo K pre) .nil) cs 0 (b + 1) m) ∧ Hid (OuSeq w' rest cs (n * 5) m hi) ∧ Hid (KeptR lo hi w w')) (fun _ i _ => l.len - (intOf i).toNat)
  case atStart => exact ⟨0, K, b + 1, ds, [], l, by simp [Hid], rfl, rfl, ⟨rfl, rfl⟩, Nat.le_refl _, by simp [Hid, cPo], hk, F3, F4, Nat.le_refl _, by rw [Nat.zero_mul]; exact F5, KeptR.refl _ _ _⟩
  case round =>
    obtain ⟨n, q, m, cs, pre, rest, HN, rfl, rfl, HP, HZ, HQ, hq0, H0, HC, HS, HR, HK⟩ := hrel
    cases rest with
    | nil =>
      have hk' : ¬ n < l.len := by rw [HN.out]; simp only [Ous.len]; omega
      have HE : Hid ((q : Int) = ((K + cO l : Nat) : Int) ∧ OuOwn lo hi wr (some ⟨b, 0, none⟩) (mkO K l)) := by
        obtain ⟨hp1, hp2⟩ := HP.out
        have hq := HQ.out
        refine ⟨by rw [hp1, cO_app]; simp only [cO]; omega, .inr ⟨b, cs, rfl, f1, f2, H0.out, by rw [mkO_len]; exact HC.out, ?_⟩⟩
        rw [hp1, mkO_app]
        exact OuSeq.widen HS.out HR.out
      clear HS HR HP HQ
      go_wp2_with fail
      go_ret
      exact ⟨_, rfl, HE.out.1, HE.out.2, HK.out⟩
    | cons h sub rest =>
      have hlt : n < l.len := by rw [HN.out]; simp only [Ous.len]; omega
      have HN2 : Hid (l.len = n + 1 + rest.len) := by rw [Hid, HN.out]; simp only [Ous.len]; omega
      obtain ⟨m3, ⟨m1, e1, e2, c0, c1, c2, ⟨a3, d3, p3, pc, q3⟩, ⟨a5, d5, p5, q5⟩⟩, hrest⟩ := OuSeq.uncons HR.out
      have hbm := OuSeq.le HS.out
      have hm3 := OuSeq.le hrest
      have hz0 : hi ≤ wr.heap.size := by have := HK.out.size; omega
      have hcs := HC.out
      have hcs2 : n * 5 + 5 ≤ cs.size := by omega
      have hq4 : (q : Int) + ((cOh h + cO sub : Nat) : Int) ≤ 4611686018427387904 := by
        have h1 := HB.out
        rw [HP.out.1, cO_app] at h1
        simp only [cO] at h1
        have h2 := HQ.out
        omega
      have hch : cOh h = 3 + h.keys.length := rfl
      have HZ2 : Hid (rest.size ≤ l.size) := by have := HZ.out; simp only [Ous.size] at this; unfold Hid; omega
      have IS : Hid (MarkOus sub) := IH.out sub (by have := HZ.out; simp only [Ous.size] at this; omega)
      have P3 : Hid _ := p3
      have P5 : Hid _ := p5
      have Q3 : Hid (KeOwn m m1 wr a3 h.keys) := q3
      have Q5 : Hid (OuOwn m1 m3 wr a5 sub) := q5
      have HRE : Hid _ := hrest
      obtain ⟨w0, rfl⟩ : ∃ x, x = wr := ⟨_, rfl⟩
      obtain ⟨u0, hv0⟩ : ∃ v, w0.cell? ⟨b, n * 5, none⟩ = some v := ⟨_, (row_cell H0.out _).trans (Array.getElem?_eq_getElem (by omega))⟩
      obtain ⟨u1, hv1⟩ : ∃ v, w0.cell? ⟨b, n * 5 + 1, none⟩ = some v := ⟨_, (row_cell H0.out _).trans (Array.getElem?_eq_getElem (by omega))⟩
      have hf0 := row_frozen H0.out (n * 5)
      have hf1 := row_frozen H0.out (n * 5 + 1)
      clear c0 c1 c2 p3 p5 q3 q5 hrest HR hcs
      go_wp2_with fail
      refine (mark_text_int _ _ (by omega) (by omega)).mono ?_
      rintro e w2 ⟨rfl, hb2⟩
      have z2 : w0.heap.size ≤ w2.heap.size := by have := hb2.size; simpa using this
      have H2 : Hid (w2.heap[b]? = _) := (hb2.block _ (by simp; omega)).trans (row_set (row_set H0.out (n * 5) _) (n * 5 + 1) _)
      have S2 : Hid (∀ g, b < g → g < w0.heap.size → w2.heap[g]? = w0.heap[g]?) := fun g h1 h2 => (hb2.block g (by simp; omega)).trans ((heap_set _ _ _ _ _ (by omega)).trans (heap_set _ _ _ _ _ (by omega)))
      have K2 : Hid (KeptR lo hi w w2) := ((HK.out.set (p := ⟨b, n * 5, none⟩) f1 f2 _).set (p := ⟨b, n * 5 + 1, none⟩) f1 f2 _).trans (KeptR.of hb2)
      obtain ⟨u2, hv2⟩ : ∃ v, w2.cell? ⟨b, n * 5 + 2, none⟩ = some v := ⟨_, (row_cell H2.out _).trans (Array.getElem?_eq_getElem (by simp; omega))⟩
      have hf2 := row_frozen H2.out (n * 5 + 2)
      have hv3 : w2.cell? ⟨b, n * 5 + 3, none⟩ = some (.slice a3 h.keys.length d3) := (row_cell H2.out _).trans (by rw [Array.getElem?_setIfInBounds_ne (by omega), Array.getElem?_setIfInBounds_ne (by omega)]; exact P3.out)
      clear hb2 hv0 hv1 hf0 hf1
      go_wp2_with fail
      refine Calls.mono (mark_keys a3 d3 h.keys m m1 (q + 3) _ _ (by omega) (OwnR.keep Q3.out ?own) (by simp; omega) (by omega) (by omega)) ?_
      case own =>
        intro g h1 h2
        rw [heap_set _ _ _ _ _ (by omega)]
        exact S2.out g (by omega) (by omega)
      rintro e w3 ⟨r3, rfl, hr3, own3, kept3⟩
      have z3 : w2.heap.size ≤ w3.heap.size := by have := kept3.size; simpa using this
      have O3 : Hid (KeOwn m m1 w3 a3 (mkKe (q + 3) h.keys)) := own3
      have H3 : Hid (w3.heap[b]? = _) := (kept3.block b (by simp; omega) (.inl (by omega))).trans (row_set H2.out (n * 5 + 2) _)
      have S3 : Hid (∀ g, b < g → g < w0.heap.size → (g < m ∨ m1 ≤ g) → w3.heap[g]? = w0.heap[g]?) := fun g h1 h2 h3 => ((kept3.block g (by simp; omega) h3).trans (heap_set _ _ _ _ _ (by omega))).trans (S2.out g h1 h2)
      have K3 : Hid (KeptR lo hi w w3) := (K2.out.set (p := ⟨b, n * 5 + 2, none⟩) f1 f2 _).trans (kept3.mono (by omega) (by omega))
      have hv5 : w3.cell? ⟨b, n * 5 + 4, none⟩ = some (.slice a5 sub.len d5) := (row_cell H3.out _).trans (by rw [Array.getElem?_setIfInBounds_ne (by omega), Array.getElem?_setIfInBounds_ne (by omega), Array.getElem?_setIfInBounds_ne (by omega)]; exact P5.out)
      clear own3 kept3 hv2 hf2 hv3
      go_wp2_with fail
      refine Calls.mono (IS.out a5 d5 m1 m3 (q + cOh h) _ _ (by omega) (OuOwn.keep Q5.out ?own) (by omega) (by omega) (by omega)) ?_
      case own =>
        intro g h1 h2
        exact S3.out g (by omega) (by omega) (.inr h1)
      rintro e w5 ⟨r5, rfl, hr5, own5, kept5⟩
      have z5 := kept5.size
      have O5 : Hid (OuOwn m1 m3 w5 a5 (mkO (q + cOh h) sub)) := own5
      have O3'' : Hid (KeOwn m m1 w5 a3 (mkKe (q + 3) h.keys)) := OwnR.keep O3.out fun g h1 h2 => kept5.block g (by omega) (.inl (by omega))
      have H5 : Hid (w5.heap[b]? = _) := (kept5.block b (by omega) (.inl (by omega))).trans H3.out
      have S5 : Hid (∀ g, b < g → g < hi → (g < m ∨ m3 ≤ g) → w5.heap[g]? = w0.heap[g]?) := fun g h1 h2 h3 => (kept5.block g (by omega) (by omega)).trans (S3.out g h1 (by omega) (by omega))
      have K5 : Hid (KeptR lo hi w w5) := K3.out.trans (kept5.mono (by omega) (by omega))
      have HQ2 : Hid (q + cOh h + cO sub = K + cPo (pre ++ [(h, sub)])) := by have := HQ.out; rw [Hid, cPo_snoc]; omega
      clear own5 kept5 hv5 O3 H3
      go_wp2_with fail
      have HG := OuSeq.mark_step (K := K) (q := q) (h := h) (sub := sub) HP.out.2 hcs2 HS.out HRE.out e1 e2 P3.out pc P5.out O3''.out O5.out S5.out rfl rfl rfl HQ.out
      refine ⟨⟨n + 1, q + cOh h + cO sub, m3, _, pre ++ [(h, sub)], rest, HN2, by go_num, ?_, ⟨by rw [appO_snoc]; exact HP.out.1, by simp [HP.out.2]⟩, HZ2, HQ2, by omega, H5, ?_, HG.1, HG.2, K5⟩, by simp [intOf]; omega⟩
      · exact val_int (by omega)
      · unfold Hid; simp only [Array.size_setIfInBounds]; exact HC.out
/-- A value's lists, owned, one behind the other. -/
def PartsO (lo hi : Nat) (w : World) (b1 b2 : Option Addr) (h : Oh) (sub : Ous) : Prop := ∃ m1, lo ≤ m1 ∧ m1 ≤ hi ∧ KeOwn lo m1 w b1 h.keys ∧ OuOwn m1 hi w b2 sub
theorem PartsO.keep {lo hi : Nat} {w w' : World} {b1 b2 : Option Addr} {h : Oh} {sub : Ous} (H : PartsO lo hi w b1 b2 h sub) (hk : Agree lo hi w w') : PartsO lo hi w' b1 b2 h sub := by
  obtain ⟨m1, e1, e2, p1, p2⟩ := H
  exact ⟨m1, e1, e2, p1.keep fun g h1 h2 => hk g (by omega) (by omega), p2.keep fun g h1 h2 => hk g (by omega) (by omega)⟩
theorem PartsO.wide {lo hi lo' hi' : Nat} {w : World} {b1 b2 : Option Addr} {h : Oh} {sub : Ous} (H : PartsO lo hi w b1 b2 h sub) (e1 : lo' ≤ lo) (e2 : hi ≤ hi') : PartsO lo' hi' w b1 b2 h sub := by
  obtain ⟨m1, f1, f2, p1, p2⟩ := H
  exact ⟨m1, by omega, by omega, p1.wide e1 (Nat.le_refl _), p2.wide (Nat.le_refl _) e2⟩
theorem PartsO.rows {lo hi : Nat} {w : World} {b1 b2 : Option Addr} {h : Oh} {sub : Ous} (H : PartsO lo hi w b1 b2 h sub) : KeRow lo hi w b1 h.keys ∧ OuRow lo hi w b2 sub := by
  obtain ⟨m1, f1, f2, p1, p2⟩ := H
  exact ⟨ke_row (p1.wide (Nat.le_refl _) f2), (p2.wide f1 (Nat.le_refl _)).row⟩
/-- What marks leave of a value: its lists' marks. -/
def mkTop (K : Nat) (h : Oh) : Oh := ⟨h.k, h.n, h.t, mkKe K h.keys⟩
set_option maxHeartbeats 1000000 in
theorem mark_out (h : Oh) (sub : Ous) (a1 a2 : Option Addr) (c1 c2 lo hi K : Nat) (w : World) (ho : PartsO lo hi w a1 a2 h sub) (hhi : hi ≤ w.heap.size) (hk : 0 < K) (hb : ((K + h.keys.length + cO sub : Nat) : Int) ≤ 4611686018427387904) :
    Calls Tryz.prog 38 #[.agg #[.int .i64 h.k, .int .i64 h.n, .string h.t, .slice a1 h.keys.length c1, .slice a2 sub.len c2], .int .i64 (K : Int)] w fun e w' => ∃ r : Int, e = .returned (.int .i64 r) ∧ r = ((K + h.keys.length + cO sub : Nat) : Int) ∧ PartsO lo hi w' a1 a2 (mkTop K h) (mkO (K + h.keys.length) sub) ∧ KeptR lo hi w w' := by
  obtain ⟨m1, f1, f2, p1, p2⟩ := ho
  have P1 : Hid _ := p1
  have P2 : Hid _ := p2
  clear p1 p2
  obtain ⟨V, hV⟩ : ∃ V, V = w.alloc (.cells #[.int .i64 h.k, .int .i64 h.n, .string h.t, .slice a1 h.keys.length c1, .slice a2 sub.len c2] 44) := ⟨_, rfl⟩
  have B0 : Below w.heap.size w V := by rw [hV]; exact (Below.refl _ _).alloc (Nat.le_refl _) _
  have c0 : V.heap[w.heap.size]? = some (.cells #[.int .i64 h.k, .int .i64 h.n, .string h.t, .slice a1 h.keys.length c1, .slice a2 sub.len c2] 44 (0, 0)) := by rw [hV]; exact heap_alloc_new _ _
  have zV := (Array.getElem?_eq_some_iff.1 c0).1
  have x0 := fun o => row_cell c0 o
  have HB0 : Hid _ := B0
  have HC0 : Hid _ := c0
  clear B0 c0
  go_enter Tryz.func38, Tryz.ntmps38
  go_upto_region 1 with fail
  rw [← hV]
  clear hV
  go_wp2_with fail
  refine Calls.mono (mark_keys a1 c1 h.keys lo m1 K _ _ rfl (OwnR.keep P1.out (agree HB0.out (by omega))) (by omega) hk (by omega)) ?_
  rintro e w1 ⟨r1, rfl, hr1, own1, kept1⟩
  have O1 : Hid (KeOwn lo m1 w1 a1 (mkKe K h.keys)) := own1
  have K1 : Hid (KeptR lo m1 V w1) := kept1
  have z1 := kept1.size
  have x1 := fun o => row_cell ((kept1.block w.heap.size zV (.inr (by omega))).trans HC0.out) o
  clear own1 kept1 x0
  go_wp2_with fail
  refine Calls.mono (mark_ous sub a2 c2 m1 hi (K + h.keys.length) _ _ (by omega) (OuOwn.keep P2.out ?own) (by omega) (by omega) (by omega)) ?_
  case own =>
    intro g h1 h2
    exact (K1.out.block g (by omega) (.inr h1)).trans (HB0.out.block g (by omega))
  rintro e w2 ⟨r2, rfl, hr2, own2, kept2⟩
  have HF : Hid (PartsO lo hi w2 a1 a2 (mkTop K h) (mkO (K + h.keys.length) sub)) := ⟨m1, f1, f2, OwnR.keep O1.out (fun g h1 h2 => kept2.block g (by omega) (.inl h2)), own2⟩
  have HK : Hid (KeptR lo hi w w2) := (KeptR.of HB0.out).trans ((K1.out.mono (Nat.le_refl _) f2).trans (kept2.mono f1 (Nat.le_refl _)))
  clear own2 kept2 x1
  go_wp2_with fail
  go_ret
  exact ⟨_, rfl, by omega, HF.out, HK.out⟩
end Go.Proofs.YtdchpeifpiglmaaGreatDoor.G
