/- Transactions in plain terms. -/
import Derived.Test.YtlfcjhiojbcijaaStWrLaw
import Derived.Test.YtlfcjhiojbcijaaStPutsOK
namespace Go.Proofs.Ytlfcjhiojbcijaa.G
set_option linter.unusedVariables false

/-- One key that was read: in range, and not read ahead. -/
def rdB (rs : List Int) (i : Nat) : Bool := inS ((rs[i]?).getD 0) 0 15 && !decide ((rs[i]?).getD 0 ∈ rs.take i)
def readsB (rs : List Int) : Bool := (List.range rs.length).all (rdB rs)
def txB (now st : Int) (rs : List Int) (ws : List Ve) : Bool := inS st 0 now && putsB ws && readsB rs
def txnB (l : Chs) (now st : Int) (rs : List Int) (ws : List Ve) : Bool := storeB l now && txB now st rs ws
theorem rdB_eq {rs : List Int} {i : Nat} (h : i < rs.length) : rdB rs i = (inS rs[i] 0 15 && !decide (rs[i] ∈ rs.take i)) := by simp [rdB, h]
theorem readsB_true {rs : List Int} (h : ∀ i, i < rs.length → rdB rs i = true) : readsB rs = true := by
  unfold readsB; rw [List.all_eq_true]; intro i hi; exact h i (List.mem_range.1 hi)
theorem readsB_false {rs : List Int} {i : Nat} (hi : i < rs.length) (h : rdB rs i = false) : readsB rs = false := by
  unfold readsB; rw [List.all_eq_false]; exact ⟨i, List.mem_range.2 hi, by simp [h]⟩
theorem readsB_at {rs : List Int} (h : readsB rs = true) {i : Nat} (hi : i < rs.length) : (0 ≤ rs[i] ∧ rs[i] < 16) ∧ rs[i] ∉ rs.take i := by
  unfold readsB at h; rw [List.all_eq_true] at h
  have := h i (List.mem_range.2 hi)
  rw [rdB_eq hi, Bool.and_eq_true, inS_iff] at this
  exact ⟨by omega, by simpa using this.2⟩
theorem txnB_all {l : Chs} {now st : Int} {rs : List Int} {ws : List Ve} (h : txnB l now st rs ws = true) : storeB l now = true ∧ (0 ≤ st ∧ st ≤ now) ∧ putsB ws = true ∧ readsB rs = true := by
  simp only [txnB, txB, Bool.and_eq_true, inS_iff] at h
  exact ⟨h.1, h.2.1.1, h.2.1.2, h.2.2⟩
/-- What a transaction reads. -/
def rdV (l : Chs) (st : Int) (ws : List Ve) (key : Int) : Int := (lastW key ws).getD (readV (chAt l key.toNat) st)
/-- What it has read then. -/
def rdK (rs : List Int) (ws : List Ve) (key : Int) : List Int := if (lastW key ws).isSome = true ∨ key ∈ rs then rs else rs ++ [key]
/-- Something that it read was written since, and it writes. -/
def confB (l : Chs) (st : Int) (rs : List Int) (ws : List Ve) : Bool := rs.any (fun k => chgB (chAt l k.toNat) st) && decide (0 < ws.length)
theorem pig : ∀ (t S : List Int), t.Pairwise (fun x y => x ≠ y) → (∀ x ∈ t, x ∈ S) → t.length ≤ S.length
  | [], S, _, _ => Nat.zero_le _
  | x :: t, S, hp, hs => by
    have h1 := pig t (S.erase x) (List.pairwise_cons.1 hp).2 (fun y hy => (List.mem_erase_of_ne (fun e => (List.pairwise_cons.1 hp).1 y hy e.symm)).2 (hs y (by simp [hy])))
    have h2 := List.length_erase_of_mem (hs x (by simp))
    have h3 : 0 < S.length := List.length_pos_of_mem (hs x (by simp))
    simp only [List.length_cons]; omega
theorem readsB_len {rs : List Int} (h : readsB rs = true) : rs.length ≤ 16 := by
  have := pig rs ((List.range 16).map Int.ofNat) (by
    rw [List.pairwise_iff_getElem]
    intro i j hi hj hij e
    refine (readsB_at h hj).2 ?_
    rw [List.mem_iff_getElem]
    exact ⟨i, by simp; omega, by simp [e]⟩) (fun x hx => by
    obtain ⟨i, hi, rfl⟩ := List.getElem_of_mem hx
    have := (readsB_at h hi).1
    rw [List.mem_map]
    exact ⟨rs[i].toNat, by rw [List.mem_range]; omega, by show ((rs[i].toNat : Nat) : Int) = _; omega⟩)
  simpa using this
theorem rdK_len {rs : List Int} {ws : List Ve} {key : Int} (h : readsB rs = true) : (rdK rs ws key).length ≤ 17 := by
  have := readsB_len h
  unfold rdK
  split
  · omega
  · simp; omega
/-- What Commit tells. -/
def CoIs (l : Chs) (now st : Int) (rs : List Int) (ws : List Ve) (m : Chs) (nr h cd : Int) : Prop :=
  (ws.length = 0 ∧ m = l ∧ nr = now ∧ h = st ∧ cd = 0) ∨
  (0 < ws.length ∧ confB l st rs ws = true ∧ m = l ∧ nr = now ∧ h = 0 ∧ cd = 16) ∨
  (0 < ws.length ∧ confB l st rs ws = false ∧ now = 100000 ∧ m = l ∧ nr = now ∧ h = 0 ∧ cd = 7) ∨
  (0 < ws.length ∧ confB l st rs ws = false ∧ now ≠ 100000 ∧ m = wrAll (now + 1) l ws ∧ nr = now + 1 ∧ h = now + 1 ∧ cd = 0)
end Go.Proofs.Ytlfcjhiojbcijaa.G
