/- Transactions in memory; what the law counts, copies, compares and marks of them. -/
import Derived.Test.YtbpkjpoicelgcaaStNu
import Derived.Test.YtbpkjpoicelgcaaStPu
import Derived.Test.YtbpkjpoicelgcaaStTxSpec
namespace Go.Proofs.Ytbpkjpoicelgcaa.G
open Go.ChangeShapes Go.WideShapes Go.ChangeAt Go.RowKit
set_option linter.unusedVariables false

theorem listThree {α : Type} {l : List α} (h : l.length = 3) : ∃ v0 v1 v2, l = [v0, v1, v2] := by
  match l, h with
  | [v0, v1, v2], _ => exact ⟨v0, v1, v2, rfl⟩
/-- Writes that a call owns. -/
def PuOwn (lo hi : Nat) (w : World) (a : Option Addr) (x : List Ve) : Prop := x = [] ∨ ∃ g, a = some ⟨g, 0, none⟩ ∧ lo ≤ g ∧ g < hi ∧ PuBlk w g x
theorem PuOwn.keep {lo hi : Nat} {w w' : World} {a : Option Addr} {x : List Ve} (h : PuOwn lo hi w a x) (hk : Agree lo hi w w') : PuOwn lo hi w' a x := by
  rcases h with h | ⟨g, e, h1, h2, h3⟩
  · exact .inl h
  · exact .inr ⟨g, e, h1, h2, h3.move (hk g h1 h2)⟩
theorem PuOwn.wide {lo hi lo' hi' : Nat} {w : World} {a : Option Addr} {x : List Ve} (h : PuOwn lo hi w a x) (e1 : lo' ≤ lo) (e2 : hi ≤ hi') : PuOwn lo' hi' w a x := by
  rcases h with h | ⟨g, e, h1, h2, h3⟩
  · exact .inl h
  · exact .inr ⟨g, e, by omega, by omega, h3⟩
theorem PuOwn.row {lo hi : Nat} {w : World} {a : Option Addr} {x : List Ve} (h : PuOwn lo hi w a x) : VeRow lo hi w a x := by
  rcases h with h | ⟨g, e, h1, h2, h3⟩
  · exact .inl h
  · rw [e]; exact h3.row h1 h2
def TxOwn (lo hi : Nat) (w : World) (ra wa : Option Addr) (rs : List Int) (ws : List Ve) : Prop := NuOwn lo hi w ra rs ∧ PuOwn lo hi w wa ws
theorem TxOwn.keep {lo hi : Nat} {w w' : World} {ra wa : Option Addr} {rs : List Int} {ws : List Ve} (h : TxOwn lo hi w ra wa rs ws) (hk : Agree lo hi w w') : TxOwn lo hi w' ra wa rs ws := ⟨NuOwn.keep h.1 hk, PuOwn.keep h.2 hk⟩
theorem TxOwn.wide {lo hi lo' hi' : Nat} {w : World} {ra wa : Option Addr} {rs : List Int} {ws : List Ve} (h : TxOwn lo hi w ra wa rs ws) (e1 : lo' ≤ lo) (e2 : hi ≤ hi') : TxOwn lo' hi' w ra wa rs ws := ⟨NuOwn.wide h.1 e1 e2, PuOwn.wide h.2 e1 e2⟩
theorem TxOwn.row {lo hi : Nat} {w : World} {ra wa : Option Addr} {rs : List Int} {ws : List Ve} (h : TxOwn lo hi w ra wa rs ws) : TxRow lo hi w ra wa rs ws := ⟨NuOwn.row h.1, PuOwn.row h.2⟩
/-- Marks in a transaction. -/
def PuMkd (lo hi : Nat) (w : World) (a : Option Addr) (n : Nat) (K : Int) : Prop := n = 0 ∨ ∃ g, a = some ⟨g, 0, none⟩ ∧ lo ≤ g ∧ g < hi ∧ PuMk w g K n
theorem PuMkd.keep {lo hi : Nat} {w w' : World} {a : Option Addr} {n : Nat} {K : Int} (h : PuMkd lo hi w a n K) (hk : Agree lo hi w w') : PuMkd lo hi w' a n K := by
  rcases h with h | ⟨g, e, h1, h2, h3⟩
  · exact .inl h
  · exact .inr ⟨g, e, h1, h2, h3.move (hk g h1 h2)⟩
def TxMk (lo hi : Nat) (w : World) (ra wa : Option Addr) (n m : Nat) (K : Int) : Prop := NuMk lo hi w ra n K ∧ PuMkd lo hi w wa m (K + n)
theorem TxMk.keep {lo hi : Nat} {w w' : World} {ra wa : Option Addr} {n m : Nat} {K : Int} (h : TxMk lo hi w ra wa n m K) (hk : Agree lo hi w w') : TxMk lo hi w' ra wa n m K := ⟨NuMk.keep h.1 hk, PuMkd.keep h.2 hk⟩
end Go.Proofs.Ytbpkjpoicelgcaa.G
