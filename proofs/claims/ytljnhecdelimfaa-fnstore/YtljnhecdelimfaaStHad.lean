/- Stores that a call owns or that are empty: marks in them. -/
import Derived.Test.YtljnhecdelimfaaStMark
namespace Go.Proofs.Ytljnhecdelimfaa.G
open Go.ChangeShapes Go.WideShapes Go.ChangeAt Go.RowKit
set_option linter.unusedVariables false

def StHas (lo hi : Nat) (w : World) (a : Option Addr) (l : Chs) (bs : Nat → Nat) : Prop := l = [] ∨ StOwn lo hi w a l bs
def StMkd (lo hi : Nat) (w : World) (a : Option Addr) (l : Chs) (bs : Nat → Nat) (K : Int) : Prop := l = [] ∨ StMk lo hi w a l bs K l.length
theorem StHas.keep {lo hi : Nat} {w w' : World} {a : Option Addr} {l : Chs} {bs : Nat → Nat} (h : StHas lo hi w a l bs) (hk : Agree lo hi w w') : StHas lo hi w' a l bs := h.imp id (fun h => h.keep hk)
theorem StHas.row {lo hi : Nat} {w : World} {a : Option Addr} {l : Chs} {bs : Nat → Nat} (h : StHas lo hi w a l bs) : ChRow lo hi w a l := h.elim (fun h => .inl h) (fun h => h.row)
theorem StMkd.keep {lo hi : Nat} {w w' : World} {a : Option Addr} {l : Chs} {bs : Nat → Nat} {K : Int} (h : StMkd lo hi w a l bs K) (hk : Agree lo hi w w') : StMkd lo hi w' a l bs K := h.imp id (fun h => h.keep hk)
end Go.Proofs.Ytljnhecdelimfaa.G
