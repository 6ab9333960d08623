/- The tokens of a text: right, not too many, a row that is read. -/
import Derived.Test.YtnfoinmccigdfaaGreatDoorSsField
import Derived.Test.YtnfoinmccigdfaaGreatDoorLexLoop
import Derived.Laws.OwnMore
namespace Go.Proofs.YtnfoinmccigdfaaGreatDoor
open Go.ChangeShapes Go.WideShapes Go.ChangeAt Go.RowKit
set_option linter.unusedVariables false

def TkBd (m : Nat) (l : List Tk) : Prop := ∀ t ∈ l, t.t.size ≤ m
theorem name_ne {s : ByteArray} (h : nameB s = true) : s.toList ≠ [] := by
  intro e
  unfold nameB at h
  simp only [Bool.and_eq_true, decide_eq_true_eq] at h
  have h2 : s.data.toList = [] := by rw [← ByteArray.toList_eq]; exact e
  have h3 : s.size = 0 := by
    have : s.data.size = 0 := by simpa using congrArg List.length h2
    exact this
  omega
theorem tokAt_ok {s : ByteArray} {p : Nat} {t : Tk} {e : Nat} (ht : tokAt s p = some (t, e)) : ((t.k = 1 → t.t.toList ≠ []) ∧ (t.k = 4 → t.n = 0)) ∧ t.t.size ≤ s.size + 3 := by
  have hx : ∀ a b, (s.extract a b).size ≤ s.size + 3 := fun a b => by rw [ByteArray.size_extract]; omega
  unfold tokAt at ht
  split at ht
  · split at ht
    · simp only [Option.some.injEq, Prod.mk.injEq] at ht
      obtain ⟨rfl, _⟩ := ht
      exact ⟨⟨fun q => absurd (show (3 : Int) = 1 from q) (by decide), fun q => absurd (show (3 : Int) = 4 from q) (by decide)⟩, hx _ _⟩
    · cases ht
  · split at ht
    · split at ht
      · rename_i hn
        simp only [Option.some.injEq, Prod.mk.injEq] at ht
        obtain ⟨rfl, _⟩ := ht
        exact ⟨⟨fun _ => name_ne hn, fun q => absurd (show (1 : Int) = 4 from q) (by decide)⟩, hx _ _⟩
      · cases ht
    · split at ht
      · obtain ⟨n, _, hn⟩ := Option.map_eq_some_iff.1 ht
        simp only [Prod.mk.injEq] at hn
        obtain ⟨rfl, _⟩ := hn
        exact ⟨⟨fun q => absurd (show (2 : Int) = 1 from q) (by decide), fun q => absurd (show (2 : Int) = 4 from q) (by decide)⟩, Nat.zero_le _⟩
      · split at ht
        · split at ht
          · simp only [Option.some.injEq, Prod.mk.injEq] at ht
            obtain ⟨rfl, _⟩ := ht
            refine ⟨⟨fun q => absurd (show (4 : Int) = 1 from q) (by decide), fun _ => rfl⟩, ?_⟩
            show 3 ≤ s.size + 3
            omega
          · cases ht
        · split at ht
          · simp only [Option.some.injEq, Prod.mk.injEq] at ht
            obtain ⟨rfl, _⟩ := ht
            exact ⟨⟨fun q => absurd (show (4 : Int) = 1 from q) (by decide), fun _ => rfl⟩, hx _ _⟩
          · cases ht
theorem lexF_ok (s : ByteArray) : ∀ f i acc, TkOk acc → TkBd (s.size + 3) acc → acc.length ≤ 4000 → TkOk (lexF s f i acc).1 ∧ TkBd (s.size + 3) (lexF s f i acc).1 ∧ (lexF s f i acc).1.length ≤ 4000
  | 0, i, acc, h, hb, hl => ⟨h, hb, hl⟩
  | f + 1, i, acc, h, hb, hl => by
    unfold lexF
    split
    · cases ht : tokAt s (pb s i false) with
      | none => exact ⟨fun t ht => by simp at ht, fun t ht => by simp at ht, by simp⟩
      | some x =>
        obtain ⟨t, e⟩ := x
        have h1 := tokAt_ok ht
        simp only
        split
        · exact ⟨fun t ht => by simp at ht, fun t ht => by simp at ht, by simp⟩
        · refine lexF_ok s f e _ ?_ ?_ (by simp; omega)
          · intro y hy
            rcases List.mem_append.1 hy with hy | hy
            · exact h y hy
            · rw [List.mem_singleton.1 hy]; exact h1.1
          · intro y hy
            rcases List.mem_append.1 hy with hy | hy
            · exact hb y hy
            · rw [List.mem_singleton.1 hy]; exact h1.2
    · exact ⟨h, hb, hl⟩
theorem lexB_ok {s : ByteArray} {l : List Tk} {c : Int} (h : lexB s = (l, c)) : TkOk l ∧ TkBd 65540 l ∧ l.length ≤ 4000 := by
  unfold lexB at h
  split at h
  · simp only [Prod.mk.injEq] at h
    obtain ⟨rfl, _⟩ := h
    exact ⟨fun t ht => by simp at ht, fun t ht => by simp at ht, by simp⟩
  · have h2 := lexF_ok s (s.size + 1 - 0) 0 [] (fun t ht => by simp at ht) (fun t ht => by simp at ht) (by simp)
    unfold lexR at h
    rw [h] at h2
    exact ⟨h2.1, fun t ht => by have := h2.2.1 t ht; omega, h2.2.2⟩
/-- Rows of their own are rows that can be read. -/
theorem flat_at {α : Type} {f : α → List Value} {z : Nat} (hz : ∀ x, (f x).length = z) : ∀ (l : List α) (i : Nat) (x : α), l[i]? = some x → ∀ j, j < z → (l.flatMap f)[i * z + j]? = (f x)[j]?
  | [], i, x, h, _, _ => by simp at h
  | y :: l, 0, x, h, j, hj => by
    simp only [List.getElem?_cons_zero, Option.some.injEq] at h
    subst h
    rw [List.flatMap_cons, Nat.zero_mul, Nat.zero_add, List.getElem?_append_left (by rw [hz]; exact hj)]
  | y :: l, i + 1, x, h, j, hj => by
    rw [List.getElem?_cons_succ] at h
    rw [List.flatMap_cons, List.getElem?_append_right (by rw [hz, Nat.succ_mul]; omega), hz, show (i + 1) * z + j - z = i * z + j by rw [Nat.succ_mul]; omega]
    exact flat_at hz l i x h j hj
theorem own_row {α : Type} {f : α → List Value} {z : Nat} (hz : ∀ x, (f x).length = z) {at_ : (Nat → Option Value) → Nat → α → Prop} {W : World} {base c : Nat} {e : TypeId} {a : Option Addr} {l : List α} (ho : W.ownsRow base e z (.slice a l.length c) l.length (l.flatMap f))
    (hat : ∀ (rd : Nat → Option Value) o x, x ∈ l → (∀ j, j < z → rd (o + j) = (f x)[j]?) → at_ rd o x) : G.Row at_ z base W.heap.size W a l := by
  rcases ho.2 with ⟨_, h0⟩ | ⟨g, cap, cur, hv, hb, hc, _, _, _, _⟩
  · exact .inl (List.length_eq_zero_iff.1 h0)
  · simp only [Value.slice.injEq] at hv
    obtain ⟨rfl, _, rfl⟩ := hv
    refine .inr ⟨g, 0, rfl, hb, (Array.getElem?_eq_some_iff.1 hc).1, fun i x hx => hat _ _ x (List.mem_of_getElem? hx) fun j hj => ?_⟩
    have hi : i < l.length := (List.getElem?_eq_some_iff.1 hx).1
    rw [Nat.zero_add, ← flat_at hz l i x hx j hj]
    have hlt : i * z + j < l.length * z := by
      have : (i + 1) * z ≤ l.length * z := Nat.mul_le_mul_right _ hi
      rw [Nat.succ_mul] at this
      omega
    exact ho.cellAt (i * z + j) hlt
theorem tvs_flat (l : List Tk) : tvs l = l.flatMap tv := rfl
theorem own_tkRow {W : World} {base c : Nat} {a : Option Addr} {l : List Tk} (ho : W.ownsRow base 75 3 (.slice a l.length c) l.length (tvs l)) : TkRow base W.heap.size W a l :=
  own_row (f := tv) (fun x => rfl) (by rw [← tvs_flat]; exact ho) fun rd o x _ h => ⟨h 0 (by omega), h 1 (by omega), h 2 (by omega)⟩
end Go.Proofs.YtnfoinmccigdfaaGreatDoor
