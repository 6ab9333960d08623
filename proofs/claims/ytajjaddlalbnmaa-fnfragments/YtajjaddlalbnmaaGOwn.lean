/- Rows that a call owns: the blocks that they lie in, each once; marks written into them. -/
import Derived.Test.YtajjaddlalbnmaaGBase
import Derived.Lib.ItoaNum
import Derived.Lib.ItoaLen
namespace Go.Proofs.Ytajjaddlalbnmaa.G
open Go.ChangeShapes Go.WideShapes Go.ChangeAt Go.RowKit
set_option linter.unusedVariables false

theorem conv1 (n : Int) (W : World) (b : Nat) (hc : W.cell? ⟨b, 0, none⟩ = some (.int .u8 n)) :
    (convert 22 9 (.slice (some ⟨b, 0, none⟩) 1 1)).run Try.prog W = .ok (.string ⟨#[UInt8.ofNat n.toNat]⟩) W := by
  rw [run_convert_bytes_string W 22 9 5 _ 1 1 Try.underlying22 Try.underlying5 Try.underlying9]
  rw [run_bytesToString W ⟨b, 0, none⟩ 1 1 [n] (run_loadCells_list W ⟨b, 0, none⟩ [.int .u8 n] (fun j v hv => by
    cases j with
    | zero => simp at hv; subst hv; simpa [Addr.add] using hc
    | succ j => simp at hv))]
  rfl
theorem ret_str {a b : ByteArray} (h : a = b) : Ending.returned (.string a) = .returned (.string b) := by rw [h]
theorem quo10 (n : Int) (h0 : 0 ≤ n) (h1 : n ≤ 9223372036854775807) : IntKind.i64.wrap (n.tdiv 10) = n / 10 := by
  rw [Int.tdiv_eq_ediv_of_nonneg h0, wrap_small _ (by omega) (by omega)]
theorem rem10 (n : Int) (h0 : 0 ≤ n) : IntKind.u8.wrap (IntKind.i64.wrap (48 + n.tmod 10)) = 48 + n % 10 := by
  rw [Int.tmod_eq_emod_of_nonneg h0, wrap_small _ (by omega) (by omega), IntKind.wrap_u8]; omega
/-- A mark's text. -/
def mkT (k : Nat) : ByteArray := ⟨(109 :: Lib.decDigits k).toArray⟩
theorem digits_len20 (k : Nat) (h : (k : Int) ≤ 4611686018427387904) : (Lib.decDigits k).length ≤ 20 := by
  rw [Lib.decDigits_length]; exact Lib.nDigits_le20 k (by omega)
theorem rem10' (n : Nat) : IntKind.u8.wrap (IntKind.i64.wrap (48 + (n : Int).tmod 10)) = 48 + (n : Int) % 10 := rem10 n (by omega)

end Go.Proofs.Ytajjaddlalbnmaa.G
namespace Go.Proofs.Ytajjaddlalbnmaa.G
open Go.ChangeShapes Go.WideShapes Go.ChangeAt Go.RowKit
set_option linter.unusedVariables false

/-- Nothing has turned but some blocks, and new ones were made. -/
structure Kept (bs : List Nat) (w w' : World) : Prop where
  os : w'.os = w.os
  tape : w'.tape = w.tape
  output : w'.output = w.output
  size : w.heap.size ≤ w'.heap.size
  block : ∀ k, k < w.heap.size → ¬ k ∈ bs → w'.heap[k]? = w.heap[k]?
theorem Kept.refl (bs : List Nat) (w : World) : Kept bs w w := ⟨rfl, rfl, rfl, Nat.le_refl _, fun _ _ _ => rfl⟩
theorem Kept.trans {bs : List Nat} {a b c : World} (h : Kept bs a b) (k : Kept bs b c) : Kept bs a c :=
  ⟨k.os.trans h.os, k.tape.trans h.tape, k.output.trans h.output, Nat.le_trans h.size k.size, fun g hg hn => (k.block g (Nat.lt_of_lt_of_le hg h.size) hn).trans (h.block g hg hn)⟩
theorem Kept.mono {bs cs : List Nat} {a b : World} (h : Kept bs a b) (hs : ∀ x ∈ bs, x ∈ cs) : Kept cs a b :=
  ⟨h.os, h.tape, h.output, h.size, fun g hg hn => h.block g hg (fun hx => hn (hs g hx))⟩
theorem Kept.of {bs : List Nat} {a b : World} (h : Below a.heap.size a b) : Kept bs a b := ⟨h.os, h.tape, h.output, h.size, fun g hg _ => h.block g hg⟩
theorem Kept.set {bs : List Nat} {a b : World} (h : Kept bs a b) {p : Addr} (hp : p.block ∈ bs) (v : Value) : Kept bs a (b.setCell p v) := by
  have hb : Below (p.block) b (b.setCell p v) := (Below.refl _ _).setCell (Nat.le_refl _) v
  exact h.trans ⟨hb.os, hb.tape, hb.output, hb.size, fun g _ hn => Below.heap_setCell _ _ _ _ (fun e => hn (e ▸ hp))⟩
theorem Kept.below {bs : List Nat} {a b : World} (h : Kept bs a b) {B : Nat} (hB : B ≤ a.heap.size) (hs : ∀ x ∈ bs, B ≤ x) : Below B a b :=
  ⟨h.os, h.tape, h.output, h.size, fun g hg => h.block g (by omega) (fun hx => by have := hs g hx; omega)⟩

def mks {α : Type} (f : Nat → α → α) (c : α → Nat) : Nat → List α → List α
  | _, [] => []
  | k, x :: r => f k x :: mks f c (k + c x) r
def cnt {α : Type} (c : α → Nat) : List α → Nat
  | [] => 0
  | x :: r => c x + cnt c r
theorem mks_length {α : Type} (f : Nat → α → α) (c : α → Nat) : ∀ (k : Nat) (l : List α), (mks f c k l).length = l.length
  | _, [] => rfl
  | k, x :: r => by simp [mks, mks_length f c (k + c x) r]
theorem mks_get {α : Type} (f : Nat → α → α) (c : α → Nat) : ∀ (k : Nat) (l : List α) (i : Nat) (h : i < l.length), (mks f c k l)[i]? = some (f (k + cnt c (l.take i)) l[i])
  | k, [], i, h => by simp at h
  | k, x :: r, 0, h => by simp [mks, cnt]
  | k, x :: r, i + 1, h => by
    have := mks_get f c (k + c x) r i (by simpa using h)
    simp only [mks, List.getElem?_cons_succ, this, List.take_succ_cons, cnt, List.getElem_cons_succ]
    congr 2; omega
theorem cnt_append {α : Type} (c : α → Nat) (a b : List α) : cnt c (a ++ b) = cnt c a + cnt c b := by
  induction a with
  | nil => simp [cnt]
  | cons x a ih => simp only [List.cons_append, cnt, ih]; omega
theorem cnt_take {α : Type} (c : α → Nat) {l : List α} {i : Nat} (h : i < l.length) : cnt c (l.take (i + 1)) = cnt c (l.take i) + c l[i] := by
  rw [List.take_succ_eq_append_getElem h, cnt_append]; simp [cnt]
theorem cnt_le {α : Type} (c : α → Nat) (l : List α) (i : Nat) : cnt c (l.take i) ≤ cnt c l := by
  have : cnt c l = cnt c (l.take i) + cnt c (l.drop i) := by rw [← cnt_append, List.take_append_drop]
  omega
/-- The first i of one list, the rest of another. -/
def mix {α : Type} (m l : List α) (i : Nat) : List α := m.take i ++ l.drop i
theorem mix_len {α : Type} {m l : List α} {i : Nat} (h : m.length = l.length) (hi : i ≤ l.length) : (mix m l i).length = l.length := by simp [mix]; omega
theorem mix_zero {α : Type} (m l : List α) : mix m l 0 = l := by simp [mix]
theorem mix_all {α : Type} {m l : List α} (h : m.length = l.length) : mix m l l.length = m := by
  unfold mix; rw [List.drop_length, ← h, List.take_length]; simp
theorem mix_at {α : Type} {m l : List α} {i : Nat} (h : m.length = l.length) (hi : i < l.length) : (mix m l i)[i]? = some l[i] := by
  unfold mix
  rw [List.getElem?_append_right (by simp; omega)]
  simp only [List.length_take, List.getElem?_drop]
  rw [show i + (i - min i m.length) = i by omega, List.getElem?_eq_getElem hi]
theorem mix_next {α : Type} {m l : List α} {i : Nat} (h : m.length = l.length) (hi : i < l.length) (j : Nat) (hj : j ≠ i) : (mix m l (i + 1))[j]? = (mix m l i)[j]? := by
  unfold mix
  by_cases hlt : j < i
  · rw [List.getElem?_append_left (by simp; omega), List.getElem?_append_left (by simp; omega), List.getElem?_take, List.getElem?_take]
    simp [show j < i + 1 by omega, hlt]
  · rw [List.getElem?_append_right (by simp; omega), List.getElem?_append_right (by simp; omega)]
    simp only [List.length_take, List.getElem?_drop]
    congr 1; omega
theorem mix_new {α : Type} {m l : List α} {i : Nat} (h : m.length = l.length) (hi : i < l.length) : (mix m l (i + 1))[i]? = m[i]? := by
  unfold mix
  rw [List.getElem?_append_left (by simp; omega), List.getElem?_take]; simp
def m3 (k : Nat) : Bool := decide (k % 3 = 0)
theorem m3_eq (k : Nat) : ((k : Int).tmod 3 == 0) = m3 k := by
  unfold m3
  rw [Bool.eq_iff_iff]
  simp only [beq_iff_eq, decide_eq_true_eq]
  rw [Int.tmod_eq_emod_of_nonneg (by omega)]
  omega
end Go.Proofs.Ytajjaddlalbnmaa.G
