/- A transaction that a call answered; the region that calls and keeps it in a variable. -/
import Derived.Test.YtlfcjhiojbcijaaStKind
import Derived.Test.YtlfcjhiojbcijaaGRegionFive
namespace Go.Proofs.Ytlfcjhiojbcijaa.G
open Go.ChangeShapes Go.WideShapes Go.ChangeAt Go.RowKit
set_option linter.unusedVariables false

/-- A transaction's rows, as the program or the specification answers them. -/
def AnsT (rs : List Int) (ws : List Ve) (x y : Value) (W : World) : Prop := ∃ ra rc wa wc, x = .slice ra rs.length rc ∧ y = .slice wa ws.length wc ∧ ∃ lo, TxOwn lo W.heap.size W ra wa rs ws
theorem AnsT.kept {rs : List Int} {ws : List Ve} {x y : Value} {W W' : World} (h : AnsT rs ws x y W) (hk : KeptT 33 W W') : AnsT rs ws x y W' := by
  obtain ⟨ra, rc, wa, wc, e1, e2, lo, h⟩ := h
  exact ⟨ra, rc, wa, wc, e1, e2, lo, h.kept hk (by decide) (by decide)⟩
theorem AnsT.row {rs : List Int} {ws : List Ve} {ra wa : Option Addr} {n m rc wc : Nat} {W : World} (h : AnsT rs ws (.slice ra n rc) (.slice wa m wc) W) : TxRow 0 W.heap.size W ra wa rs ws := by
  obtain ⟨ra', rc', wa', wc', e1, e2, lo, h⟩ := h
  simp only [Value.slice.injEq] at e1 e2
  rw [e1.1, e2.1]
  exact TxRow.wide h.row (Nat.zero_le _) (Nat.le_refl _)
/-- Where the region stands: x is the operation that stores the answer, y the one that makes the variable, s its slot. -/
def AtJ (x y s : Nat) (st : Int) (rs : List Int) (ws : List Ve) (W0 : World) (L : Array Bool) (u : Nat → Value) (W : World) : Prop :=
  Below W0.heap.size W0 W ∧ (L.getD x false = true → ∃ B ra rc wa wc, u s = .pointer (some ⟨B, 0, none⟩) ∧ W0.heap.size ≤ B ∧ W.heap[B]? = some (.cells #[.int .i64 st, .slice ra rs.length rc, .slice wa ws.length wc] 33 (0, 0)) ∧ AnsT rs ws (.slice ra rs.length rc) (.slice wa ws.length wc) W) ∧ (L.getD x false = true → L.getD y false = true)
theorem getD_upT {L : Array Bool} {i y : Nat} (h : L.getD y false = true) : (L.setIfInBounds i true).getD y false = true := by
  by_cases e : i = y
  · subst e
    have hlt : i < L.size := by
      refine Nat.lt_of_not_le fun hle => ?_
      simp [Array.getD, Nat.not_lt.2 hle] at h
    simp [hlt]
  · rw [getD_set_ne false e]; exact h
theorem AtJ.step {x y s : Nat} {st : Int} {rs : List Int} {ws : List Ve} {W0 : World} {L : Array Bool} {u : Nat → Value} {W W' : World} (h : AtJ x y s st rs ws W0 L u W) (hb : Below W.heap.size W W') {i d : Nat} {v : Value} (hi : i ≠ x) (hd : L.getD x false = true → d ≠ s) : AtJ x y s st rs ws W0 (L.setIfInBounds i true) (upd u d v) W' := by
  refine ⟨h.1.trans (hb.mono h.1.size), fun h1 => ?_, fun h1 => ?_⟩
  · rw [getD_set_ne false hi] at h1
    obtain ⟨B, ra, rc, wa, wc, e, h2, h3, h4⟩ := h.2.1 h1
    exact ⟨B, ra, rc, wa, wc, by rw [upd_ne _ _ (fun e => hd h1 e.symm)]; exact e, h2, (hb.block B (Array.getElem?_eq_some_iff.1 h3).1).trans h3, h4.kept (KeptT.of hb)⟩
  · rw [getD_set_ne false hi] at h1
    exact getD_upT (h.2.2 h1)
theorem AtJ.start {x y s : Nat} {st : Int} {rs : List Int} {ws : List Ve} {W0 : World} {n : Nat} {u : Nat → Value} : AtJ x y s st rs ws W0 (Array.replicate n false) u W0.drew := by
  have no : (Array.replicate n false).getD x false = true → False := fun h => by
    by_cases hx : x < n
    · simp [hx] at h
    · simp [hx] at h
  exact ⟨(Below.refl _ _).drew, fun h => (no h).elim, fun h => (no h).elim⟩
end Go.Proofs.Ytlfcjhiojbcijaa.G
