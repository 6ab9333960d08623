/- The program's reader: its state in memory, and the text that takes some bytes. -/
import Derived.Test.YtnfoinmccigdfaaGreatDoorLexLoop
import Derived.Test.YtnfoinmccigdfaaGreatDoorShelf
import Derived.Deep.QuietTactic
import Derived.BigQuiet
namespace Go.Proofs.YtnfoinmccigdfaaGreatDoor
open Go.ChangeShapes Go.WideShapes Go.ChangeAt Go.RowKit
set_option linter.unusedVariables false

/-- The reader's state: its text, and how far it has come. -/
def LexSt (w : World) (L : Nat) (s : ByteArray) (i : Nat) : Prop := w.heap[L]? = some (.cells #[.string s, .int .i64 i] 56 (0, 0))
theorem LexSt.c0 {w : World} {L : Nat} {s : ByteArray} {i : Nat} (h : LexSt w L s i) : w.cell? ⟨L, 0, none⟩ = some (.string s) := row_cell h 0
theorem LexSt.c1 {w : World} {L : Nat} {s : ByteArray} {i : Nat} (h : LexSt w L s i) : w.cell? ⟨L, 1, none⟩ = some (.int .i64 i) := row_cell h 1
theorem LexSt.f1 {w : World} {L : Nat} {s : ByteArray} {i : Nat} (h : LexSt w L s i) : w.frozen? ⟨L, 1, none⟩ = false := row_frozen h 1
theorem LexSt.set {w : World} {L : Nat} {s : ByteArray} {i : Nat} (h : LexSt w L s i) (j : Nat) : LexSt (w.setCell ⟨L, 1, none⟩ (.int .i64 j)) L s j := row_set h 1 _
theorem LexSt.lt {w : World} {L : Nat} {s : ByteArray} {i : Nat} (h : LexSt w L s i) : L < w.heap.size := (Array.getElem?_eq_some_iff.1 h).1
/-- Only the reader's own block, of what was there, has turned. -/
theorem grown_refl (w : World) (r : Option Nat) : w.grownBy w r := ⟨rfl, rfl, rfl, Nat.le_refl _, fun _ _ _ => rfl⟩
theorem grown_trans {a b c : World} {r : Option Nat} (h : a.grownBy b r) (k : b.grownBy c r) : a.grownBy c r :=
  ⟨k.os.trans h.os, k.tape.trans h.tape, k.output.trans h.output, Nat.le_trans h.size k.size, fun i hi hr => (k.block i (Nat.lt_of_lt_of_le hi h.size) hr).trans (h.block i hi hr)⟩
theorem grown_set {a b : World} {L : Nat} (h : a.grownBy b (some L)) (o : Nat) (v : Value) : a.grownBy (b.setCell ⟨L, o, none⟩ v) (some L) :=
  ⟨h.os, h.tape, h.output, by have := h.size; simpa [World.setCell] using this, fun i hi hr => by
    rw [Below.heap_setCell _ _ _ _ (fun e => hr (by rw [e]))]; exact h.block i hi hr⟩
theorem grown_drewN (w : World) (n : Nat) (r : Option Nat) : w.grownBy (w.drewN n) r := ⟨rfl, rfl, rfl, Nat.le_refl _, fun _ _ _ => rfl⟩
theorem grown_drew {a b : World} {r : Option Nat} (h : a.grownBy b r) : a.grownBy b.drew r := ⟨h.os, h.tape, h.output, h.size, h.block⟩
theorem grown_below {a b c : World} {r : Option Nat} (h : a.grownBy b r) (k : Below b.heap.size b c) : a.grownBy c r :=
  ⟨k.os.trans h.os, k.tape.trans h.tape, k.output.trans h.output, Nat.le_trans h.size k.size, fun i hi hr => (k.block i (Nat.lt_of_lt_of_le hi h.size)).trans (h.block i hi hr)⟩
theorem grown_alloc {a b : World} {r : Option Nat} (h : a.grownBy b r) (o : Obj) : a.grownBy (b.alloc o) r := grown_below h ((Below.refl _ _).alloc (Nat.le_refl _) _)
theorem LexSt.below {w w' : World} {L : Nat} {s : ByteArray} {i : Nat} (h : LexSt w L s i) (hb : Below w.heap.size w w') : LexSt w' L s i := (hb.block L h.lt).trans h

set_option maxHeartbeats 1000000 in
theorem take_any (s : ByteArray) (L i : Nat) (n : Int) (w : World) (hs : s.size ≤ 65536) (h : LexSt w L s i) (h0 : 0 ≤ n) (hn : (i : Int) + n ≤ s.size) :
    Calls Tryz.prog 81 #[.pointer (some ⟨L, 0, none⟩), .int .i64 n] w fun e w' => e = .returned (.string (s.extract i (i + n.toNat))) ∧ LexSt w' L s (i + n.toNat) ∧ w.grownBy w' (some L) := by
  obtain ⟨m, rfl⟩ := Int.eq_ofNat_of_zero_le h0
  rw [Int.toNat_natCast]
  have c0 := h.c0
  have c1 := h.c1
  have f1 := h.f1
  have HS : Hid (LexSt w L s i) := h
  clear h h0
  have b1 : (i : Int) ≤ i + m := by omega
  have b2 : (i : Int) + m ≤ s.size := hn
  clear hn
  go_enter Tryz.func81, Tryz.ntmps81
  go_wp2_with fail
  go_quiet (fail)
  go_wp2_with fail
  go_ret
  rw [show (i : Int) + m = ((i + m : Nat) : Int) by omega]
  exact ⟨rfl, LexSt.set (w := w.drewN nq) HS.out (i + m), grown_set (grown_drewN w nq _) _ _⟩
end Go.Proofs.YtnfoinmccigdfaaGreatDoor
