/- What the law copies of a value. -/
import Derived.Test.YtlliimlhdpbgdaaGreatDoorOuRows
import Derived.Deep.CutBlock
import Derived.Deep.CutRange
namespace Go.Proofs.YtlliimlhdpbgdaaGreatDoor.G
open Go.ChangeShapes Go.WideShapes Go.ChangeAt Go.RowKit
set_option linter.unusedVariables false

theorem appO_snoc : ∀ (p : List (Oh × Ous)) (h : Oh) (sub rest : Ous), appO (p ++ [(h, sub)]) rest = appO p (.cons h sub rest)
  | [], h, sub, rest => rfl
  | x :: p, h, sub, rest => by simp only [List.cons_append, appO]; rw [appO_snoc p]
theorem OuPre.more {lo hi : Nat} {w : World} {rd : Nat → Option Value} {h : Oh} {sub rest : Ous} : ∀ (pre : List (Oh × Ous)) {o : Nat}, OuPre lo hi w (appO pre (.cons h sub rest)) rd o pre.length →
    OhAt lo hi w rd (o + 5 * pre.length) h → (∃ a c, rd (o + 5 * pre.length + 4) = some (.slice a sub.len c) ∧ OuRow lo hi w a sub) → OuPre lo hi w (appO pre (.cons h sub rest)) rd o (pre.length + 1)
  | [], o, _, h1, h2 => .inr ⟨by simpa using h1, by simpa [OuRow] using h2, by
      cases rest with
      | nil => exact trivial
      | cons _ _ _ => exact .inl rfl⟩
  | x :: pre, o, hp, h1, h2 => by
    rcases hp with hp | ⟨p1, p2, p3⟩
    · simp at hp
    · refine .inr ⟨p1, p2, ?_⟩
      have e : (x :: pre).length + 1 - 1 = pre.length + 1 := by simp
      rw [e]
      refine OuPre.more pre (by simpa using p3) ?_ ?_
      · rw [show o + 5 + 5 * pre.length = o + 5 * (x :: pre).length by simp; omega]; exact h1
      · rw [show o + 5 + 5 * pre.length = o + 5 * (x :: pre).length by simp; omega]; exact h2
theorem OuPre.cells {lo hi : Nat} {w : World} {rd rd' : Nat → Option Value} : ∀ {l : Ous} {o k : Nat}, OuPre lo hi w l rd o k → (∀ j, o ≤ j → j < o + 5 * k → rd' j = rd j) → OuPre lo hi w l rd' o k
  | .nil, _, _, _, _ => trivial
  | .cons h sub rest, o, k, hp, hj => by
    rcases hp with hp | ⟨⟨p0, p1, p2, a, c, p3, pc, p4⟩, ⟨a2, c2, p5, p6⟩, p7⟩
    · exact .inl hp
    · by_cases hk : k = 0
      · exact .inl hk
      refine .inr ⟨⟨?_, ?_, ?_, a, c, ?_, pc, p4⟩, ⟨a2, c2, ?_, p6⟩, OuPre.cells p7 (fun j h1 h2 => hj j (by omega) (by omega))⟩
      · rw [hj _ (by omega) (by omega)]; exact p0
      · rw [hj _ (by omega) (by omega)]; exact p1
      · rw [hj _ (by omega) (by omega)]; exact p2
      · rw [hj _ (by omega) (by omega)]; exact p3
      · rw [hj _ (by omega) (by omega)]; exact p5
theorem agree_set {lo hi : Nat} {w : World} {b o : Nat} {v : Value} (h : b < lo) : Agree lo hi w (w.setCell ⟨b, o, none⟩ v) := fun g h1 _ => heap_set _ _ _ _ _ (by omega)
set_option maxRecDepth 100000 in
theorem info_str : ∃ i, Tryz.prog.info? 9 = some i ∧ i.zero = some (.string ⟨#[]⟩) ∧ i.size = 1 ∧ i.bytes = 16 := by
  refine ⟨_, rfl, ?_, ?_, ?_⟩ <;> kernel_rfl
set_option maxRecDepth 100000 in
theorem info_out : ∃ i, Tryz.prog.info? 26 = some i ∧ i.zero = some (.agg #[.int .i64 0, .int .i64 0, .string ⟨#[]⟩, .slice none 0 0, .slice none 0 0]) ∧ i.size = 5 ∧ i.bytes = 80 := by
  refine ⟨_, rfl, ?_, ?_, ?_⟩ <;> kernel_rfl
def put5 (cs : Array Value) (k : Nat) (v0 v1 v2 v3 v4 : Value) : Array Value := (((((cs.setIfInBounds k v0).setIfInBounds (k + 1) v1).setIfInBounds (k + 2) v2).setIfInBounds (k + 3) v3).setIfInBounds (k + 4) v4)
theorem put5_at {cs : Array Value} {k : Nat} {v0 v1 v2 v3 v4 : Value} (h : k + 4 < cs.size) : (put5 cs k v0 v1 v2 v3 v4)[k]? = some v0 ∧ (put5 cs k v0 v1 v2 v3 v4)[k + 1]? = some v1 ∧ (put5 cs k v0 v1 v2 v3 v4)[k + 2]? = some v2 ∧ (put5 cs k v0 v1 v2 v3 v4)[k + 3]? = some v3 ∧ (put5 cs k v0 v1 v2 v3 v4)[k + 4]? = some v4 := by
  unfold put5
  refine ⟨?_, ?_, ?_, ?_, ?_⟩ <;> simp [Array.getElem?_setIfInBounds] <;> omega
theorem put5_else {cs : Array Value} {k : Nat} {v0 v1 v2 v3 v4 : Value} {j : Nat} (h : j < k) : (put5 cs k v0 v1 v2 v3 v4)[j]? = cs[j]? := by
  unfold put5
  rw [Array.getElem?_setIfInBounds_ne (by omega), Array.getElem?_setIfInBounds_ne (by omega), Array.getElem?_setIfInBounds_ne (by omega), Array.getElem?_setIfInBounds_ne (by omega), Array.getElem?_setIfInBounds_ne (by omega)]
end Go.Proofs.YtlliimlhdpbgdaaGreatDoor.G
