/- The specification's copy of a store. -/
import Derived.Test.YtlfcjhiojbcijaaStKids
import Derived.Test.YtlfcjhiojbcijaaStCopy
import Derived.Test.YtlfcjhiojbcijaaStGrow
import Derived.Test.YtlfcjhiojbcijaaStSpecTwo
namespace Go.Proofs.Ytlfcjhiojbcijaa.G
open Go.ChangeShapes Go.WideShapes Go.ChangeAt Go.RowKit
set_option linter.unusedVariables false

/-- A row of chains that a call owns, its chains in blocks of their own. -/
def OwnK (lo : Nat) (w : World) (v : Value) (l : Chs) : Prop := ∃ vs, w.ownsRow lo 78 1 v l.length vs ∧ Kids v.ownBlock lo w vs l
/-- What each operation of the copying tells. -/
def OwPv (B N0 M0 S : Nat) (W0 : World) (v : Value) (A : Option Addr) (n c k : Nat) (pk : Value) (a3 : Option Addr) (c3 : Nat) (lc : List Ve) : Nat → Value → World → Prop
  | 0, y, _ => y = .pointer (some ⟨B, 0, none⟩)
  | 1, y, _ => y = v
  | 2, y, _ => ∃ g, y = .slice g 0 0
  | 3, y, _ => y = .pointer (some ⟨S, 0, none⟩)
  | 4, y, _ => y = .slice A n c
  | 5, y, _ => y = .int .i64 k
  | 6, y, _ => y = pk
  | 7, y, _ => y = .slice a3 lc.length c3
  | 8, y, W => KidX v.ownBlock N0 W y lc
  | 9, y, W => ∃ h z, y = .slice (some ⟨h, 0, none⟩) 1 1 ∧ N0 ≤ h ∧ W.heap[h]? = some (.cells #[z] 78 (0, 0)) ∧ KidX v.ownBlock N0 W z lc
  | 10, _, _ => True
  | _, y, _ => y = .pointer (some ⟨B, 0, none⟩)
theorem OwPv.up {B N0 M0 S : Nat} {W0 : World} {v : Value} {A : Option Addr} {n c k : Nat} {pk : Value} {a3 : Option Addr} {c3 : Nat} {lc : List Ve} {W W' : World} (hs : W.heap.size ≤ W'.heap.size) (hk : ∀ k, N0 ≤ k → k < W.heap.size → W'.heap[k]? = W.heap[k]?) {i : Nat} {y : Value} (h : OwPv B N0 M0 S W0 v A n c k pk a3 c3 lc i y W) : OwPv B N0 M0 S W0 v A n c k pk a3 c3 lc i y W' := by
  unfold OwPv at h ⊢
  split at h
  case h_9 => exact h.keep hs (fun k a1 a2 a3 => ⟨hk k a1 a2, a3⟩)
  case h_10 =>
    obtain ⟨h', z, h1, h2, h3, h4⟩ := h
    exact ⟨h', z, h1, h2, (hk _ h2 (Array.getElem?_eq_some_iff.1 h3).1).trans h3, h4.keep hs (fun k a1 a2 a3 => ⟨hk k a1 a2, a3⟩)⟩
  all_goals exact h
end Go.Proofs.Ytlfcjhiojbcijaa.G
