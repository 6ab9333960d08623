/- The law's draws: a row of bytes, a place in it. -/
import Derived.Test.YtjbogjoadcikhaaDoorToks
import Derived.Deep.QuietTactic
import Derived.BigQuiet
namespace Go.Proofs.YtjbogjoadcikhaaDoor
open Go.ChangeShapes Go.WideShapes Go.ChangeAt Go.RowKit
set_option linter.unusedVariables false

/-- A slice of bytes: any place where there is none; else a block below B holds them. -/
def ByteRow (B : Nat) (w : World) (a : Option Addr) (n : Nat) : Prop :=
  n = 0 ∨ ∃ b o, a = some ⟨b, o, none⟩ ∧ b < B ∧ B ≤ w.heap.size ∧ ∀ i, i < n → ∃ c : Nat, c < 256 ∧ w.cell? ⟨b, o + i, none⟩ = some (.int .u8 (c : Int))
theorem ByteRow.keep {B : Nat} {w w' : World} {a : Option Addr} {n : Nat} (h : ByteRow B w a n) (hs : w.heap.size ≤ w'.heap.size) (hb : ∀ k, k < B → w'.heap[k]? = w.heap[k]?) : ByteRow B w' a n := by
  rcases h with h | ⟨b, o, rfl, h1, h2, h3⟩
  · exact .inl h
  · refine .inr ⟨b, o, rfl, h1, Nat.le_trans h2 hs, fun i hi => ?_⟩
    obtain ⟨c, hc, e⟩ := h3 i hi
    exact ⟨c, hc, (World.cell?_of_block (w := w) (hb b h1)).trans e⟩
theorem ByteRow.at_ {B : Nat} {w : World} {a : Option Addr} {n : Nat} (h : ByteRow B w a n) (hn : 0 < n) : ∃ b o, a = some ⟨b, o, none⟩ ∧ b < B ∧ ∀ i, i < n → ∃ c : Nat, c < 256 ∧ w.cell? ⟨b, o + i, none⟩ = some (.int .u8 (c : Int)) := by
  rcases h with h | ⟨b, o, rfl, h1, h2, h3⟩
  · omega
  · exact ⟨b, o, rfl, h1, h3⟩
theorem mod_wrap (i m : Nat) (hm : 0 < m) (hi : i ≤ 100000) : IntKind.i64.wrap ((i : Int).tmod (m : Int)) = ((i % m : Nat) : Int) := by
  have h1 : i % m ≤ i := Nat.mod_le _ _
  rw [Int.tmod_eq_emod_of_nonneg (by omega), ← Int.natCast_emod]
  unfold IntKind.wrap
  simp [IntKind.bits, IntKind.signed]
  omega
end Go.Proofs.YtjbogjoadcikhaaDoor
