/- What is right of an answer's value, in plain terms. -/
import Derived.Test.YtoaeggfnlenjkaaGreatDoorOuRows
import Derived.Test.YtoaeggfnlenjkaaGreatDoorGNames
namespace Go.Proofs.YtoaeggfnlenjkaaGreatDoor.G
set_option linter.unusedVariables false

def hasK (ns : List ByteArray) (s : ByteArray) : Bool := ns.any fun t => t.toList == s.toList
def keyB (keys : List ByteArray) (i : Nat) : Bool := match keys[i]? with | some s => nameB s && !hasK (keys.take i) s | none => false
def keysB (keys : List ByteArray) : Bool := (List.range keys.length).all (keyB keys)
def intO (v : Int) : Bool := decide (-2147483648 ≤ v ∧ v ≤ 2147483647)
def plainB (h : Oh) (sub : Ous) : Bool := decide (h.keys.length = 0) && decide (sub.len = 0)
def noT (h : Oh) : Bool := h.t.toList.isEmpty
/-- One value but for its items. -/
def headB (h : Oh) (sub : Ous) : Bool :=
  if h.k = 0 then plainB h sub && (h.n == 0) && noT h
  else if h.k = 1 then plainB h sub && intO h.n && noT h
  else if h.k = 2 then plainB h sub && (h.n == 0) && nameB h.t
  else if h.k = 3 then (h.n == 0) && noT h && decide (h.keys.length = 0)
  else if h.k = 4 then (h.n == 0) && noT h && decide (h.keys.length = sub.len) && keysB h.keys
  else false
/-- All values of a list, each in fewer than d others. -/
def okO : Nat → Ous → Bool
  | _, .nil => true
  | d, .cons h sub rest => decide (0 < d) && headB h sub && okO (d - 1) sub && okO d rest
def oneO (d : Nat) (h : Oh) (sub : Ous) : Bool := decide (0 < d) && headB h sub && okO (d - 1) sub
def outB (d : Nat) (h : Oh) (sub : Ous) : Bool := oneO d h sub && decide (1 + sub.size ≤ 4000)
theorem okO_cons (d : Nat) (h : Oh) (sub rest : Ous) : okO d (.cons h sub rest) = (oneO d h sub && okO d rest) := rfl
theorem keyB_eq {keys : List ByteArray} {i : Nat} (h : i < keys.length) : keyB keys i = (nameB keys[i] && !hasK (keys.take i) keys[i]) := by simp [keyB, h]
theorem keysB_true {keys : List ByteArray} (h : ∀ i, i < keys.length → keyB keys i = true) : keysB keys = true := by
  unfold keysB; rw [List.all_eq_true]; intro i hi; exact h i (List.mem_range.1 hi)
theorem keysB_false {keys : List ByteArray} {i : Nat} (hi : i < keys.length) (h : keyB keys i = false) : keysB keys = false := by
  unfold keysB; rw [List.all_eq_false]; exact ⟨i, List.mem_range.2 hi, by simp [h]⟩
theorem keysB_at {keys : List ByteArray} (h : keysB keys = true) {i : Nat} (hi : i < keys.length) : keyB keys i = true := by
  unfold keysB at h; rw [List.all_eq_true] at h; exact h i (List.mem_range.2 hi)
theorem hasK_take {ns : List ByteArray} {s : ByteArray} {k : Nat} (h : k < ns.length) : hasK (ns.take (k + 1)) s = (hasK (ns.take k) s || (ns[k].toList == s.toList)) := by
  unfold hasK; rw [List.take_succ_eq_append_getElem h, List.any_append]; simp
theorem hasK_of {ns : List ByteArray} {s : ByteArray} {k : Nat} (h : k < ns.length) (he : (ns[k].toList == s.toList) = true) : hasK ns s = true := by
  unfold hasK; rw [List.any_eq_true]; exact ⟨ns[k], List.getElem_mem h, he⟩
/-- No deep value: 0. -/
theorem outB_zero (h : Oh) (sub : Ous) : outB 0 h sub = false := rfl
theorem outB_head {d : Nat} {h : Oh} {sub : Ous} (hh : headB h sub = false) : outB d h sub = false := by simp [outB, oneO, hh]
theorem plain_nil {h : Oh} {sub : Ous} (hp : plainB h sub = true) : sub = .nil := by
  simp only [plainB, Bool.and_eq_true, decide_eq_true_eq] at hp
  exact Ous.nil_of hp.2
/-- A value without items. -/
theorem outB_leaf {d : Nat} {h : Oh} {sub : Ous} (hd : 0 < d) (hk : h.k = 0 ∨ h.k = 1 ∨ h.k = 2) : outB d h sub = headB h sub := by
  cases hh : headB h sub
  · exact outB_head hh
  · have hs : sub = .nil := by
      unfold headB at hh
      rcases hk with e | e | e <;> simp only [e] at hh <;> simp at hh <;> exact plain_nil hh.1.1
    subst hs
    simp [outB, oneO, hh, hd, okO, Ous.size]
theorem outB_big {d : Nat} {h : Oh} {sub : Ous} (hs : 4000 < 1 + sub.size) : outB d h sub = false := by
  simp only [outB]; rw [decide_eq_false (by omega)]; simp
theorem outB_sub {d : Nat} {h : Oh} {sub : Ous} (hs : okO (d - 1) sub = false) : outB d h sub = false := by simp [outB, oneO, hs]
theorem outB_yes {d : Nat} {h : Oh} {sub : Ous} (hd : 0 < d) (hh : headB h sub = true) (ho : okO (d - 1) sub = true) (hs : 1 + sub.size ≤ 4000) : outB d h sub = true := by
  simp [outB, oneO, hd, hh, ho, hs]
theorem outB_all {d : Nat} {h : Oh} {sub : Ous} (ho : outB d h sub = true) : 0 < d ∧ headB h sub = true ∧ okO (d - 1) sub = true ∧ 1 + sub.size ≤ 4000 := by
  simp only [outB, oneO, Bool.and_eq_true, decide_eq_true_eq] at ho
  exact ⟨ho.1.1.1, ho.1.1.2, ho.1.2, ho.2⟩
/-- The rule of lists and objects ahead of their items. -/
def groupB (h : Oh) (sub : Ous) : Bool := (h.k == 3 || h.k == 4) && (h.n == 0) && noT h && (!(h.k == 3) || decide (h.keys.length = 0)) && (!(h.k == 4) || decide (h.keys.length = sub.len))
theorem head_group {h : Oh} {sub : Ous} (hk : h.k ≠ 0 ∧ h.k ≠ 1 ∧ h.k ≠ 2) : headB h sub = (groupB h sub && (!(h.k == 4) || keysB h.keys)) := by
  unfold headB groupB
  rw [if_neg hk.1, if_neg hk.2.1, if_neg hk.2.2]
  by_cases h3 : h.k = 3
  · simp [h3]
  · rw [if_neg h3]
    by_cases h4 : h.k = 4
    · simp [h4]
    · rw [if_neg h4]; simp [h3, h4]
end Go.Proofs.YtoaeggfnlenjkaaGreatDoor.G
