/- A store that a call answered, in either form; the region that calls and keeps the answer in a variable. -/
import Derived.Test.YtgffplbcpofkmaaStKind
import Derived.Test.YtgffplbcpofkmaaStHad
import Derived.Test.YtgffplbcpofkmaaGRegionFive
import Derived.Test.YtgffplbcpofkmaaStWaSpec
namespace Go.Proofs.Ytgffplbcpofkmaa.G
open Go.ChangeShapes Go.WideShapes Go.ChangeAt Go.RowKit
set_option linter.unusedVariables false

/-- A store's chains, as the program or the specification answers them. -/
def AnsO (m : Chs) (x : Value) (W : World) : Prop := ∃ a c, x = .slice a m.length c ∧ ((∃ lo, OwnK lo W x m) ∨ ∃ lo bs, m = [] ∨ StOwn lo W.heap.size W a m bs)
theorem AnsO.kept {m : Chs} {x : Value} {W W' : World} (h : AnsO m x W) (hk : KeptT 34 W W') : AnsO m x W' := by
  obtain ⟨a, c, e, h⟩ := h
  refine ⟨a, c, e, ?_⟩
  rcases h with ⟨lo, h⟩ | ⟨lo, bs, h | h⟩
  · exact .inl ⟨lo, h.kept hk (by decide) (by decide)⟩
  · exact .inr ⟨lo, bs, .inl h⟩
  · exact .inr ⟨lo, bs, .inr (h.kept hk (by decide) (by decide))⟩
theorem AnsO.row {m : Chs} {a : Option Addr} {c n : Nat} {W : World} (h : AnsO m (.slice a n c) W) : n = m.length ∧ ChRow 0 W.heap.size W a m := by
  obtain ⟨a', c', e, h⟩ := h
  simp only [Value.slice.injEq] at e
  obtain ⟨rfl, rfl, rfl⟩ := e
  refine ⟨rfl, ?_⟩
  rcases h with ⟨lo, h⟩ | ⟨lo, bs, h | h⟩
  · obtain ⟨a2, c2, e2, r⟩ := h.chRow2
    simp only [Value.slice.injEq] at e2
    rw [e2.1]
    exact ChRow.wide r (Nat.zero_le _) (Nat.le_refl _)
  · exact .inl h
  · exact ChRow.wide h.row (Nat.zero_le _) (Nat.le_refl _)
/-- Where the region stands: x is the operation that stores the answer, y the one that makes the variable, s its slot. -/
def AnJ (x y s : Nat) (m : Chs) (nr : Int) (W0 : World) (L : Array Bool) (u : Nat → Value) (W : World) : Prop :=
  Below W0.heap.size W0 W ∧ (L.getD x false = true → ∃ B a c, u s = .pointer (some ⟨B, 0, none⟩) ∧ W0.heap.size ≤ B ∧ W.heap[B]? = some (.cells #[.slice a m.length c, .int .i64 nr] 34 (0, 0)) ∧ AnsO m (.slice a m.length c) W) ∧ (L.getD x false = true → L.getD y false = true)
theorem getD_up {L : Array Bool} {i y : Nat} (h : L.getD y false = true) : (L.setIfInBounds i true).getD y false = true := by
  by_cases e : i = y
  · subst e
    have hlt : i < L.size := by
      refine Nat.lt_of_not_le fun hle => ?_
      simp [Array.getD, Nat.not_lt.2 hle] at h
    simp [hlt]
  · rw [getD_set_ne false e]; exact h
theorem AnJ.step {x y s : Nat} {m : Chs} {nr : Int} {W0 : World} {L : Array Bool} {u : Nat → Value} {W W' : World} (h : AnJ x y s m nr W0 L u W) (hb : Below W.heap.size W W') {i d : Nat} {v : Value} (hi : i ≠ x) (hd : L.getD x false = true → d ≠ s) : AnJ x y s m nr W0 (L.setIfInBounds i true) (upd u d v) W' := by
  refine ⟨h.1.trans (hb.mono h.1.size), fun h1 => ?_, fun h1 => ?_⟩
  · rw [getD_set_ne false hi] at h1
    obtain ⟨B, a, c, e, h2, h3, h4⟩ := h.2.1 h1
    exact ⟨B, a, c, by rw [upd_ne _ _ (fun e => hd h1 e.symm)]; exact e, h2, (hb.block B (Array.getElem?_eq_some_iff.1 h3).1).trans h3, h4.kept (KeptT.of hb)⟩
  · rw [getD_set_ne false hi] at h1
    exact getD_up (h.2.2 h1)
theorem AnJ.start {x y s : Nat} {m : Chs} {nr : Int} {W0 : World} {n : Nat} {u : Nat → Value} : AnJ x y s m nr W0 (Array.replicate n false) u W0.drew := by
  have no : (Array.replicate n false).getD x false = true → False := fun h => by
    by_cases hx : x < n
    · simp [hx] at h
    · simp [hx] at h
  exact ⟨(Below.refl _ _).drew, fun h => (no h).elim, fun h => (no h).elim⟩
end Go.Proofs.Ytgffplbcpofkmaa.G
