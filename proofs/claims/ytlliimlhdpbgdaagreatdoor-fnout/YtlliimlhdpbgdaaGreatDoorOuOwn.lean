/- Answers' values that a call owns: each list in a block of its own, between two block numbers, those of one value ahead of those of the next. -/
import Derived.Test.YtlliimlhdpbgdaaGreatDoorGBase
import Derived.Lib.ItoaNum
import Derived.Lib.ItoaLen
import Derived.Test.YtlliimlhdpbgdaaGreatDoorOuTo
namespace Go.Proofs.YtlliimlhdpbgdaaGreatDoor.G
open Go.ChangeShapes Go.WideShapes Go.ChangeAt Go.RowKit
set_option linter.unusedVariables false

theorem conv1 (n : Int) (W : World) (b : Nat) (hc : W.cell? ⟨b, 0, none⟩ = some (.int .u8 n)) :
    (convert 22 9 (.slice (some ⟨b, 0, none⟩) 1 1)).run Tryz.prog W = .ok (.string ⟨#[UInt8.ofNat n.toNat]⟩) W := by
  rw [run_convert_bytes_string W 22 9 5 _ 1 1 Tryz.underlying22 Tryz.underlying5 Tryz.underlying9]
  rw [run_bytesToString W ⟨b, 0, none⟩ 1 1 [n] (run_loadCells_list W ⟨b, 0, none⟩ [.int .u8 n] (fun j v hv => by
    cases j with
    | zero => simp at hv; subst hv; simpa [Addr.add] using hc
    | succ j => simp at hv))]
  rfl
theorem ret_str {a b : ByteArray} (h : a = b) : Ending.returned (.string a) = .returned (.string b) := by rw [h]
theorem quo10 (n : Int) (h0 : 0 ≤ n) (h1 : n ≤ 9223372036854775807) : IntKind.i64.wrap (n.tdiv 10) = n / 10 := by
  rw [Int.tdiv_eq_ediv_of_nonneg h0, wrap_small _ (by omega) (by omega)]
theorem rem10 (n : Int) (h0 : 0 ≤ n) : IntKind.u8.wrap (IntKind.i64.wrap (48 + n.tmod 10)) = 48 + n % 10 := by
  rw [Int.tmod_eq_emod_of_nonneg h0, wrap_small _ (by omega) (by omega), IntKind.wrap_u8]; omega
/-- A mark's text. -/
def mkT (k : Nat) : ByteArray := ⟨(109 :: Lib.decDigits k).toArray⟩
theorem digits_len20 (k : Nat) (h : (k : Int) ≤ 4611686018427387904) : (Lib.decDigits k).length ≤ 20 := by
  rw [Lib.decDigits_length]; exact Lib.nDigits_le20 k (by omega)
theorem rem10' (n : Nat) : IntKind.u8.wrap (IntKind.i64.wrap (48 + (n : Int).tmod 10)) = 48 + (n : Int) % 10 := rem10 n (by omega)

end Go.Proofs.YtlliimlhdpbgdaaGreatDoor.G
namespace Go.Proofs.YtlliimlhdpbgdaaGreatDoor.G
open Go.ChangeShapes Go.WideShapes Go.ChangeAt Go.RowKit
set_option linter.unusedVariables false

/-- Nothing has turned but some blocks, and new ones were made. -/
structure Kept (bs : List Nat) (w w' : World) : Prop where
  os : w'.os = w.os
  tape : w'.tape = w.tape
  output : w'.output = w.output
  size : w.heap.size ≤ w'.heap.size
  block : ∀ k, k < w.heap.size → ¬ k ∈ bs → w'.heap[k]? = w.heap[k]?
theorem Kept.refl (bs : List Nat) (w : World) : Kept bs w w := ⟨rfl, rfl, rfl, Nat.le_refl _, fun _ _ _ => rfl⟩
theorem Kept.trans {bs : List Nat} {a b c : World} (h : Kept bs a b) (k : Kept bs b c) : Kept bs a c :=
  ⟨k.os.trans h.os, k.tape.trans h.tape, k.output.trans h.output, Nat.le_trans h.size k.size, fun g hg hn => (k.block g (Nat.lt_of_lt_of_le hg h.size) hn).trans (h.block g hg hn)⟩
theorem Kept.mono {bs cs : List Nat} {a b : World} (h : Kept bs a b) (hs : ∀ x ∈ bs, x ∈ cs) : Kept cs a b :=
  ⟨h.os, h.tape, h.output, h.size, fun g hg hn => h.block g hg (fun hx => hn (hs g hx))⟩
theorem Kept.of {bs : List Nat} {a b : World} (h : Below a.heap.size a b) : Kept bs a b := ⟨h.os, h.tape, h.output, h.size, fun g hg _ => h.block g hg⟩
theorem Kept.set {bs : List Nat} {a b : World} (h : Kept bs a b) {p : Addr} (hp : p.block ∈ bs) (v : Value) : Kept bs a (b.setCell p v) := by
  have hb : Below (p.block) b (b.setCell p v) := (Below.refl _ _).setCell (Nat.le_refl _) v
  exact h.trans ⟨hb.os, hb.tape, hb.output, hb.size, fun g _ hn => Below.heap_setCell _ _ _ _ (fun e => hn (e ▸ hp))⟩
theorem Kept.below {bs : List Nat} {a b : World} (h : Kept bs a b) {B : Nat} (hB : B ≤ a.heap.size) (hs : ∀ x ∈ bs, B ≤ x) : Below B a b :=
  ⟨h.os, h.tape, h.output, h.size, fun g hg => h.block g (by omega) (fun hx => by have := hs g hx; omega)⟩

def mks {α : Type} (f : Nat → α → α) (c : α → Nat) : Nat → List α → List α
  | _, [] => []
  | k, x :: r => f k x :: mks f c (k + c x) r
def cnt {α : Type} (c : α → Nat) : List α → Nat
  | [] => 0
  | x :: r => c x + cnt c r
theorem mks_length {α : Type} (f : Nat → α → α) (c : α → Nat) : ∀ (k : Nat) (l : List α), (mks f c k l).length = l.length
  | _, [] => rfl
  | k, x :: r => by simp [mks, mks_length f c (k + c x) r]
theorem mks_get {α : Type} (f : Nat → α → α) (c : α → Nat) : ∀ (k : Nat) (l : List α) (i : Nat) (h : i < l.length), (mks f c k l)[i]? = some (f (k + cnt c (l.take i)) l[i])
  | k, [], i, h => by simp at h
  | k, x :: r, 0, h => by simp [mks, cnt]
  | k, x :: r, i + 1, h => by
    have := mks_get f c (k + c x) r i (by simpa using h)
    simp only [mks, List.getElem?_cons_succ, this, List.take_succ_cons, cnt, List.getElem_cons_succ]
    congr 2; omega
theorem cnt_append {α : Type} (c : α → Nat) (a b : List α) : cnt c (a ++ b) = cnt c a + cnt c b := by
  induction a with
  | nil => simp [cnt]
  | cons x a ih => simp only [List.cons_append, cnt, ih]; omega
theorem cnt_take {α : Type} (c : α → Nat) {l : List α} {i : Nat} (h : i < l.length) : cnt c (l.take (i + 1)) = cnt c (l.take i) + c l[i] := by
  rw [List.take_succ_eq_append_getElem h, cnt_append]; simp [cnt]
theorem cnt_le {α : Type} (c : α → Nat) (l : List α) (i : Nat) : cnt c (l.take i) ≤ cnt c l := by
  have : cnt c l = cnt c (l.take i) + cnt c (l.drop i) := by rw [← cnt_append, List.take_append_drop]
  omega
/-- The first i of one list, the rest of another. -/
def mix {α : Type} (m l : List α) (i : Nat) : List α := m.take i ++ l.drop i
theorem mix_len {α : Type} {m l : List α} {i : Nat} (h : m.length = l.length) (hi : i ≤ l.length) : (mix m l i).length = l.length := by simp [mix]; omega
theorem mix_zero {α : Type} (m l : List α) : mix m l 0 = l := by simp [mix]
theorem mix_all {α : Type} {m l : List α} (h : m.length = l.length) : mix m l l.length = m := by
  unfold mix; rw [List.drop_length, ← h, List.take_length]; simp
theorem mix_at {α : Type} {m l : List α} {i : Nat} (h : m.length = l.length) (hi : i < l.length) : (mix m l i)[i]? = some l[i] := by
  unfold mix
  rw [List.getElem?_append_right (by simp; omega)]
  simp only [List.length_take, List.getElem?_drop]
  rw [show i + (i - min i m.length) = i by omega, List.getElem?_eq_getElem hi]
theorem mix_next {α : Type} {m l : List α} {i : Nat} (h : m.length = l.length) (hi : i < l.length) (j : Nat) (hj : j ≠ i) : (mix m l (i + 1))[j]? = (mix m l i)[j]? := by
  unfold mix
  by_cases hlt : j < i
  · rw [List.getElem?_append_left (by simp; omega), List.getElem?_append_left (by simp; omega), List.getElem?_take, List.getElem?_take]
    simp [show j < i + 1 by omega, hlt]
  · rw [List.getElem?_append_right (by simp; omega), List.getElem?_append_right (by simp; omega)]
    simp only [List.length_take, List.getElem?_drop]
    congr 1; omega
theorem mix_new {α : Type} {m l : List α} {i : Nat} (h : m.length = l.length) (hi : i < l.length) : (mix m l (i + 1))[i]? = m[i]? := by
  unfold mix
  rw [List.getElem?_append_left (by simp; omega), List.getElem?_take]; simp
def m3 (k : Nat) : Bool := decide (k % 3 = 0)
theorem m3_eq (k : Nat) : ((k : Int).tmod 3 == 0) = m3 k := by
  unfold m3
  rw [Bool.eq_iff_iff]
  simp only [beq_iff_eq, decide_eq_true_eq]
  rw [Int.tmod_eq_emod_of_nonneg (by omega)]
  omega
end Go.Proofs.YtlliimlhdpbgdaaGreatDoor.G
namespace Go.Proofs.YtlliimlhdpbgdaaGreatDoor.G
open Go.ChangeShapes Go.WideShapes Go.ChangeAt Go.RowKit
set_option linter.unusedVariables false

def OwnR {α : Type} (at_ : (Nat → Option Value) → Nat → α → Prop) (z : Nat) (ty : TypeId) (lo hi : Nat) (w : World) (a : Option Addr) (l : List α) : Prop :=
  l = [] ∨ ∃ b cs, a = some ⟨b, 0, none⟩ ∧ lo ≤ b ∧ b < hi ∧ w.heap[b]? = some (.cells cs ty (0, 0)) ∧ l.length * z ≤ cs.size ∧ ∀ i x, l[i]? = some x → at_ (fun j => cs[j]?) (i * z) x
abbrev KeOwn := OwnR KeAt 1 9
theorem OwnR.keep {α : Type} {at_ : (Nat → Option Value) → Nat → α → Prop} {z : Nat} {ty : TypeId} {lo hi : Nat} {w w' : World} {a : Option Addr} {l : List α} (h : OwnR at_ z ty lo hi w a l) (hk : Agree lo hi w w') : OwnR at_ z ty lo hi w' a l := by
  rcases h with h | ⟨b, cs, rfl, h1, h2, h3, h4, h5⟩
  · exact .inl h
  · exact .inr ⟨b, cs, rfl, h1, h2, (hk b h1 h2).trans h3, h4, h5⟩
theorem OwnR.wide {α : Type} {at_ : (Nat → Option Value) → Nat → α → Prop} {z : Nat} {ty : TypeId} {lo hi lo' hi' : Nat} {w : World} {a : Option Addr} {l : List α} (h : OwnR at_ z ty lo hi w a l) (e1 : lo' ≤ lo) (e2 : hi ≤ hi') : OwnR at_ z ty lo' hi' w a l := by
  rcases h with h | ⟨b, cs, rfl, h1, h2, h3, h4, h5⟩
  · exact .inl h
  · exact .inr ⟨b, cs, rfl, by omega, by omega, h3, h4, h5⟩
theorem OwnR.row {α : Type} {at_ : (Nat → Option Value) → Nat → α → Prop} {z : Nat} {ty : TypeId} {lo hi : Nat} {w : World} {a : Option Addr} {l : List α} (h : OwnR at_ z ty lo hi w a l) : Row at_ z lo hi w a l := by
  rcases h with h | ⟨b, cs, rfl, h1, h2, h3, h4, h5⟩
  · exact .inl h
  · exact .inr ⟨b, 0, rfl, h1, h2, fun i x hx => by rw [row_rd h3, Nat.zero_add]; exact h5 i x hx⟩
theorem ke_row {lo hi : Nat} {w : World} {a : Option Addr} {l : List ByteArray} (h : KeOwn lo hi w a l) : KeRow lo hi w a l := OwnR.row h

/-- Values in a block's cells from a place on; their lists lie from lo up and below hi, in order. -/
def OuSeq (w : World) : Ous → Array Value → Nat → Nat → Nat → Prop
  | .nil, _, _, lo, hi => lo ≤ hi
  | .cons h sub rest, cs, o, lo, hi => ∃ m1 m3, lo ≤ m1 ∧ m1 ≤ m3 ∧ cs[o]? = some (.int .i64 h.k) ∧ cs[o + 1]? = some (.int .i64 h.n) ∧ cs[o + 2]? = some (.string h.t) ∧
      (∃ a c, cs[o + 3]? = some (.slice a h.keys.length c) ∧ h.keys.length ≤ c ∧ KeOwn lo m1 w a h.keys) ∧
      (∃ a c, cs[o + 4]? = some (.slice a sub.len c) ∧ (sub = .nil ∨ ∃ b ds, a = some ⟨b, 0, none⟩ ∧ m1 ≤ b ∧ b < m3 ∧ w.heap[b]? = some (.cells ds 26 (0, 0)) ∧ sub.len * 5 ≤ ds.size ∧ OuSeq w sub ds 0 (b + 1) m3)) ∧
      OuSeq w rest cs (o + 5) m3 hi
def OuOwn (lo hi : Nat) (w : World) (a : Option Addr) (l : Ous) : Prop :=
  l = .nil ∨ ∃ b ds, a = some ⟨b, 0, none⟩ ∧ lo ≤ b ∧ b < hi ∧ w.heap[b]? = some (.cells ds 26 (0, 0)) ∧ l.len * 5 ≤ ds.size ∧ OuSeq w l ds 0 (b + 1) hi
/-- One value's cells and lists. -/
def OuOne (w : World) (h : Oh) (sub : Ous) (cs : Array Value) (o lo hi : Nat) : Prop :=
  ∃ m1, lo ≤ m1 ∧ m1 ≤ hi ∧ cs[o]? = some (.int .i64 h.k) ∧ cs[o + 1]? = some (.int .i64 h.n) ∧ cs[o + 2]? = some (.string h.t) ∧
      (∃ a c, cs[o + 3]? = some (.slice a h.keys.length c) ∧ h.keys.length ≤ c ∧ KeOwn lo m1 w a h.keys) ∧
      (∃ a c, cs[o + 4]? = some (.slice a sub.len c) ∧ OuOwn m1 hi w a sub)
theorem OuSeq.uncons {w : World} {h : Oh} {sub rest : Ous} {cs : Array Value} {o lo hi : Nat} (H : OuSeq w (.cons h sub rest) cs o lo hi) : ∃ m, OuOne w h sub cs o lo m ∧ OuSeq w rest cs (o + 5) m hi := by
  obtain ⟨m1, m3, e1, e2, c0, c1, c2, p3, p4, pr⟩ := H
  exact ⟨m3, ⟨m1, e1, e2, c0, c1, c2, p3, p4⟩, pr⟩
theorem OuSeq.cons {w : World} {h : Oh} {sub rest : Ous} {cs : Array Value} {o lo m hi : Nat} (H : OuOne w h sub cs o lo m) (R : OuSeq w rest cs (o + 5) m hi) : OuSeq w (.cons h sub rest) cs o lo hi := by
  obtain ⟨m1, e1, e2, c0, c1, c2, p3, p4⟩ := H
  exact ⟨m1, m, e1, e2, c0, c1, c2, p3, p4, R⟩
theorem OuSeq.le {w : World} : ∀ {l : Ous} {cs : Array Value} {o lo hi : Nat}, OuSeq w l cs o lo hi → lo ≤ hi
  | .nil, _, _, _, _, h => h
  | .cons h sub rest, cs, o, lo, hi, H => by
    obtain ⟨m1, m3, e1, e2, c0, c1, c2, p3, p4, pr⟩ := H
    have := OuSeq.le pr
    omega
theorem OuSeq.keep {w w' : World} : ∀ {l : Ous} {cs : Array Value} {o lo hi : Nat}, OuSeq w l cs o lo hi → Agree lo hi w w' → OuSeq w' l cs o lo hi
  | .nil, _, _, _, _, h, _ => h
  | .cons h sub rest, cs, o, lo, hi, H, hk => by
    obtain ⟨m1, m3, e1, e2, c0, c1, c2, ⟨a3, d3, p3, pc, q3⟩, ⟨a5, d5, p5, q5⟩, pr⟩ := H
    have hm := OuSeq.le pr
    refine ⟨m1, m3, e1, e2, c0, c1, c2, ⟨a3, d3, p3, pc, q3.keep fun g h1 h2 => hk g (by omega) (by omega)⟩, ⟨a5, d5, p5, ?_⟩, OuSeq.keep pr fun g h1 h2 => hk g (by omega) (by omega)⟩
    rcases q5 with q5 | ⟨b, ds, rfl, f1, f2, f3, f4, f5⟩
    · exact .inl q5
    · exact .inr ⟨b, ds, rfl, f1, f2, (hk b (by omega) (by omega)).trans f3, f4, OuSeq.keep f5 fun g h1 h2 => hk g (by omega) (by omega)⟩
theorem OuSeq.widen {w : World} : ∀ {l : Ous} {cs : Array Value} {o lo hi hi' : Nat}, OuSeq w l cs o lo hi → hi ≤ hi' → OuSeq w l cs o lo hi'
  | .nil, _, _, _, _, _, h, e => Nat.le_trans h e
  | .cons h sub rest, cs, o, lo, hi, hi', H, e => by
    obtain ⟨m, H1, H2⟩ := H.uncons
    exact OuSeq.cons H1 (OuSeq.widen H2 e)
theorem OuOwn.keep {lo hi : Nat} {w w' : World} {a : Option Addr} {l : Ous} (h : OuOwn lo hi w a l) (hk : Agree lo hi w w') : OuOwn lo hi w' a l := by
  rcases h with h | ⟨b, ds, rfl, f1, f2, f3, f4, f5⟩
  · exact .inl h
  · exact .inr ⟨b, ds, rfl, f1, f2, (hk b (by omega) (by omega)).trans f3, f4, OuSeq.keep f5 fun g h1 h2 => hk g (by omega) (by omega)⟩
theorem OuOwn.wide {lo hi lo' hi' : Nat} {w : World} {a : Option Addr} {l : Ous} (h : OuOwn lo hi w a l) (e1 : lo' ≤ lo) (e2 : hi ≤ hi') : OuOwn lo' hi' w a l := by
  rcases h with h | ⟨b, ds, rfl, f1, f2, f3, f4, f5⟩
  · exact .inl h
  · exact .inr ⟨b, ds, rfl, by omega, by omega, f3, f4, OuSeq.widen f5 e2⟩
theorem OuOne.keep {w w' : World} {h : Oh} {sub : Ous} {cs : Array Value} {o lo hi : Nat} (H : OuOne w h sub cs o lo hi) (hk : Agree lo hi w w') : OuOne w' h sub cs o lo hi := by
  obtain ⟨m1, e1, e2, c0, c1, c2, ⟨a3, d3, p3, pc, q3⟩, ⟨a5, d5, p5, q5⟩⟩ := H
  exact ⟨m1, e1, e2, c0, c1, c2, ⟨a3, d3, p3, pc, q3.keep fun g h1 h2 => hk g (by omega) (by omega)⟩, ⟨a5, d5, p5, q5.keep fun g h1 h2 => hk g (by omega) (by omega)⟩⟩
theorem OuOne.widen {w : World} {h : Oh} {sub : Ous} {cs : Array Value} {o lo hi hi' lo' : Nat} (H : OuOne w h sub cs o lo hi) (e : hi ≤ hi') (e' : lo' ≤ lo) : OuOne w h sub cs o lo' hi' := by
  obtain ⟨m1, e1, e2, c0, c1, c2, ⟨a3, d3, p3, pc, q3⟩, ⟨a5, d5, p5, q5⟩⟩ := H
  exact ⟨m1, by omega, by omega, c0, c1, c2, ⟨a3, d3, p3, pc, q3.wide e' (Nat.le_refl _)⟩, ⟨a5, d5, p5, q5.wide (Nat.le_refl _) e⟩⟩
/-- Only the cells of a list count. -/
theorem OuSeq.cells {w : World} {cs cs' : Array Value} : ∀ {l : Ous} {o lo hi : Nat}, OuSeq w l cs o lo hi → (∀ j, o ≤ j → j < o + 5 * l.len → cs'[j]? = cs[j]?) → OuSeq w l cs' o lo hi
  | .nil, _, _, _, h, _ => h
  | .cons h sub rest, o, lo, hi, H, hc => by
    obtain ⟨m1, m3, e1, e2, c0, c1, c2, ⟨a3, d3, p3, pc, q3⟩, ⟨a5, d5, p5, q5⟩, pr⟩ := H
    simp only [Ous.len] at hc
    exact ⟨m1, m3, e1, e2, (hc _ (by omega) (by omega)).trans c0, (hc _ (by omega) (by omega)).trans c1, (hc _ (by omega) (by omega)).trans c2, ⟨a3, d3, (hc _ (by omega) (by omega)).trans p3, pc, q3⟩, ⟨a5, d5, (hc _ (by omega) (by omega)).trans p5, q5⟩, OuSeq.cells pr fun j h1 h2 => hc j (by omega) (by omega)⟩
theorem OuOwn.toRow {lo hi : Nat} {w : World} : ∀ {l : Ous} {cs : Array Value} {rd : Nat → Option Value} {o p m : Nat}, OuSeq w l cs o p m → (∀ j, rd j = cs[j]?) → lo ≤ p → m ≤ hi → OuPre lo hi w l rd o l.len
  | .nil, _, _, _, _, _, _, _, _, _ => trivial
  | .cons h sub rest, cs, rd, o, p, m, H, hrd, h1, h2 => by
    obtain ⟨m1, m3, e1, e2, c0, c1, c2, ⟨a3, d3, p3, pc, q3⟩, ⟨a5, d5, p5, q5⟩, pr⟩ := H
    have hm := OuSeq.le pr
    refine .inr ⟨⟨(hrd _).trans c0, (hrd _).trans c1, (hrd _).trans c2, a3, d3, (hrd _).trans p3, pc, ke_row (q3.wide h1 (by omega))⟩, ⟨a5, d5, (hrd _).trans p5, ?_⟩, ?_⟩
    · rcases q5 with q5 | ⟨b, ds, rfl, f1, f2, f3, f4, f5⟩
      · exact .inl q5
      · exact .inr ⟨b, 0, rfl, by omega, by omega, OuOwn.toRow f5 (fun j => row_cell f3 j) (by omega) (by omega)⟩
    · simp only [Ous.len, Nat.add_sub_cancel]
      exact OuOwn.toRow pr hrd (by omega) h2
theorem OuOwn.row {lo hi : Nat} {w : World} {a : Option Addr} {l : Ous} (h : OuOwn lo hi w a l) : OuRow lo hi w a l := by
  rcases h with h | ⟨b, ds, rfl, f1, f2, f3, f4, f5⟩
  · exact .inl h
  · exact .inr ⟨b, 0, rfl, f1, f2, OuOwn.toRow f5 (fun j => row_cell f3 j) (by omega) (Nat.le_refl _)⟩
/-- One more value behind a list. -/
theorem OuSeq.snoc {w : World} {cs : Array Value} {h : Oh} {sub : Ous} : ∀ (pre : List (Oh × Ous)) {o lo m hi : Nat}, OuSeq w (appO pre .nil) cs o lo m → OuOne w h sub cs (o + 5 * pre.length) m hi → OuSeq w (appO (pre ++ [(h, sub)]) .nil) cs o lo hi
  | [], o, lo, m, hi, H, R => by
    have H : lo ≤ m := H
    have R' : OuOne w h sub cs o lo hi := OuOne.widen (by simpa using R) (Nat.le_refl _) H
    exact OuSeq.cons (rest := .nil) R' (Nat.le_refl hi)
  | x :: pre, o, lo, m, hi, H, R => by
    obtain ⟨m', H1, H2⟩ := OuSeq.uncons (rest := appO pre .nil) H
    refine OuSeq.cons (rest := appO (pre ++ [(h, sub)]) .nil) H1 (OuSeq.snoc pre H2 ?_)
    rw [show o + 5 + 5 * pre.length = o + 5 * (x :: pre).length by simp only [List.length_cons]; omega]
    exact R
/-- Nothing has turned but blocks from lo up and below hi, and new ones were made. -/
structure KeptR (lo hi : Nat) (w w' : World) : Prop where
  os : w'.os = w.os
  tape : w'.tape = w.tape
  output : w'.output = w.output
  size : w.heap.size ≤ w'.heap.size
  block : ∀ k, k < w.heap.size → (k < lo ∨ hi ≤ k) → w'.heap[k]? = w.heap[k]?
theorem KeptR.refl (lo hi : Nat) (w : World) : KeptR lo hi w w := ⟨rfl, rfl, rfl, Nat.le_refl _, fun _ _ _ => rfl⟩
theorem KeptR.trans {lo hi : Nat} {a b c : World} (h : KeptR lo hi a b) (k : KeptR lo hi b c) : KeptR lo hi a c :=
  ⟨k.os.trans h.os, k.tape.trans h.tape, k.output.trans h.output, Nat.le_trans h.size k.size, fun g hg hn => (k.block g (Nat.lt_of_lt_of_le hg h.size) hn).trans (h.block g hg hn)⟩
theorem KeptR.mono {lo hi lo' hi' : Nat} {a b : World} (h : KeptR lo hi a b) (e1 : lo' ≤ lo) (e2 : hi ≤ hi') : KeptR lo' hi' a b :=
  ⟨h.os, h.tape, h.output, h.size, fun g hg hn => h.block g hg (by omega)⟩
theorem KeptR.of {lo hi : Nat} {a b : World} (h : Below a.heap.size a b) : KeptR lo hi a b := ⟨h.os, h.tape, h.output, h.size, fun g hg _ => h.block g hg⟩
theorem KeptR.set {lo hi : Nat} {a b : World} (h : KeptR lo hi a b) {p : Addr} (h1 : lo ≤ p.block) (h2 : p.block < hi) (v : Value) : KeptR lo hi a (b.setCell p v) := by
  have hb : Below (p.block) b (b.setCell p v) := (Below.refl _ _).setCell (Nat.le_refl _) v
  exact h.trans ⟨hb.os, hb.tape, hb.output, hb.size, fun g _ hn => Below.heap_setCell _ _ _ _ (by omega)⟩
theorem KeptR.below {lo hi : Nat} {a b : World} (h : KeptR lo hi a b) {B : Nat} (hB : B ≤ a.heap.size) (hs : B ≤ lo) : Below B a b :=
  ⟨h.os, h.tape, h.output, h.size, fun g hg => h.block g (by omega) (.inl (by omega))⟩

/-- The marks of the law. -/
def fKe (k : Nat) (_ : ByteArray) : ByteArray := mkT k
def c1K (_ : ByteArray) : Nat := 1
def mkKe (k : Nat) (l : List ByteArray) : List ByteArray := mks fKe c1K k l
theorem cnt1 : ∀ l : List ByteArray, cnt c1K l = l.length
  | [] => rfl
  | x :: r => by simp only [cnt, c1K, List.length_cons, cnt1 r]; omega
theorem mkKe_len (k : Nat) (l : List ByteArray) : (mkKe k l).length = l.length := mks_length _ _ _ _
theorem mkKe_get (k : Nat) (l : List ByteArray) (i : Nat) (h : i < l.length) : (mkKe k l)[i]? = some (mkT (k + i)) := by
  rw [mkKe, mks_get _ _ _ _ _ h, cnt1, List.length_take, show min i l.length = i by omega]; rfl
def mkOh (k : Nat) (h : Oh) : Oh := ⟨(k : Int), ((k + 1 : Nat) : Int), mkT (k + 2), mkKe (k + 3) h.keys⟩
def cOh (h : Oh) : Nat := 3 + h.keys.length
def cO : Ous → Nat
  | .nil => 0
  | .cons h sub rest => cOh h + cO sub + cO rest
def mkO : Nat → Ous → Ous
  | _, .nil => .nil
  | k, .cons h sub rest => .cons (mkOh k h) (mkO (k + cOh h) sub) (mkO (k + cOh h + cO sub) rest)
theorem mkO_len : ∀ (k : Nat) (l : Ous), (mkO k l).len = l.len
  | _, .nil => rfl
  | k, .cons h sub rest => by simp only [mkO, Ous.len, mkO_len]
def cPo : List (Oh × Ous) → Nat
  | [] => 0
  | x :: p => cOh x.1 + cO x.2 + cPo p
def mkPo : Nat → List (Oh × Ous) → List (Oh × Ous)
  | _, [] => []
  | k, x :: p => (mkOh k x.1, mkO (k + cOh x.1) x.2) :: mkPo (k + cOh x.1 + cO x.2) p
theorem mkPo_len : ∀ (k : Nat) (p : List (Oh × Ous)), (mkPo k p).length = p.length
  | _, [] => rfl
  | k, x :: p => by simp [mkPo, mkPo_len]
theorem mkPo_snoc : ∀ (k : Nat) (p : List (Oh × Ous)) (h : Oh) (sub : Ous), mkPo k (p ++ [(h, sub)]) = mkPo k p ++ [(mkOh (k + cPo p) h, mkO (k + cPo p + cOh h) sub)]
  | k, [], h, sub => by simp [mkPo, cPo]
  | k, x :: p, h, sub => by
    simp only [List.cons_append, mkPo, cPo, mkPo_snoc, List.cons.injEq, true_and]
    rw [show k + cOh x.1 + cO x.2 + cPo p = k + (cOh x.1 + cO x.2 + cPo p) by omega]
theorem cPo_snoc : ∀ (p : List (Oh × Ous)) (h : Oh) (sub : Ous), cPo (p ++ [(h, sub)]) = cPo p + cOh h + cO sub
  | [], h, sub => by simp [cPo]
  | x :: p, h, sub => by simp only [List.cons_append, cPo, cPo_snoc]; omega
theorem cO_app : ∀ (p : List (Oh × Ous)) (r : Ous), cO (appO p r) = cPo p + cO r
  | [], r => by simp [appO, cPo]
  | x :: p, r => by simp only [appO, cO, cPo, cO_app]; omega
theorem mkO_app : ∀ (k : Nat) (p : List (Oh × Ous)) (r : Ous), mkO k (appO p r) = appO (mkPo k p) (mkO (k + cPo p) r)
  | k, [], r => by simp [appO, mkPo, cPo]
  | k, x :: p, r => by
    simp only [appO, mkO, mkPo, cPo, mkO_app]
    rw [show k + cOh x.1 + cO x.2 + cPo p = k + (cOh x.1 + cO x.2 + cPo p) by omega]
theorem len_cO : ∀ l : Ous, l.len ≤ cO l
  | .nil => Nat.le_refl _
  | .cons h sub rest => by have := len_cO rest; simp only [Ous.len, cO, cOh]; omega
theorem val_mk {z : Int} {k : Nat} (h : z = k) : Value.string (mkT z.toNat) = .string (mkT k) := by subst h; simp
theorem val_mkn {a b : Nat} (h : a = b) : Value.string (mkT a) = .string (mkT b) := by rw [h]
theorem val_int {z : Int} {k : Nat} (h : z = k) : Value.int .i64 z = .int .i64 (k : Int) := by rw [h]
end Go.Proofs.YtlliimlhdpbgdaaGreatDoor.G
