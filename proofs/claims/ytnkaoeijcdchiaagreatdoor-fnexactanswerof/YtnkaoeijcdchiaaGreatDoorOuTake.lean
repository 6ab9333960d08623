/- The program's OutOK: a count of the room that is left. -/
import Derived.Test.YtnkaoeijcdchiaaGreatDoorOuFind
import Derived.Deep.CutBlock
import Derived.Deep.CutRange
namespace Go.Proofs.YtnkaoeijcdchiaaGreatDoor.G
open Go.ChangeShapes Go.WideShapes Go.ChangeAt Go.RowKit
set_option linter.unusedVariables false

/-- One value but for its items and the names of its keys. -/
def headA (h : Oh) (sub : Ous) : Bool :=
  if h.k = 0 then plainB h sub && (h.n == 0) && noT h
  else if h.k = 1 then plainB h sub && intO h.n && noT h
  else if h.k = 2 then plainB h sub && (h.n == 0) && nameB h.t
  else if h.k = 3 then (h.n == 0) && noT h && decide (h.keys.length = 0)
  else if h.k = 4 then (h.n == 0) && noT h && decide (h.keys.length = sub.len)
  else false
theorem keysB_none {l : List ByteArray} (h : l.length = 0) : keysB l = true := by unfold keysB; rw [h]; rfl
theorem plain_keys {h : Oh} {sub : Ous} (hp : plainB h sub = true) : keysB h.keys = true := by
  simp only [plainB, Bool.and_eq_true, decide_eq_true_eq] at hp
  exact keysB_none hp.1
theorem head_A (h : Oh) (sub : Ous) : headB h sub = (headA h sub && keysB h.keys) := by
  unfold headB headA
  by_cases k0 : h.k = 0
  · rw [if_pos k0, if_pos k0]; cases hp : plainB h sub; · rfl
    rw [plain_keys hp]; simp
  rw [if_neg k0, if_neg k0]
  by_cases k1 : h.k = 1
  · rw [if_pos k1, if_pos k1]; cases hp : plainB h sub; · rfl
    rw [plain_keys hp]; simp
  rw [if_neg k1, if_neg k1]
  by_cases k2 : h.k = 2
  · rw [if_pos k2, if_pos k2]; cases hp : plainB h sub; · rfl
    rw [plain_keys hp]; simp
  rw [if_neg k2, if_neg k2]
  by_cases k3 : h.k = 3
  · rw [if_pos k3, if_pos k3]
    by_cases hk : h.keys.length = 0
    · rw [keysB_none hk]; simp
    · rw [decide_eq_false hk]; simp
  rw [if_neg k3, if_neg k3]
  by_cases k4 : h.k = 4
  · rw [if_pos k4, if_pos k4]
  · rw [if_neg k4, if_neg k4]; rfl
theorem impl_isIntO (n : Int) (w : World) {B : Bool} (hB : intO n = B) : Calls Tryz.prog 117 #[.int .i64 n] w fun e w' => e = .returned (.bool B) ∧ Below w.heap.size w w' := by
  have HB : Hid _ := hB
  clear hB
  go_enter Tryz.func117, Tryz.ntmps117
  go_wp2
  all_goals (go_ret; exact ⟨ret_bool (by rw [← HB.out]; unfold intO; rw [Bool.eq_iff_iff]; simp; omega), Below.refl _ _⟩)
theorem impl_nameB (s : ByteArray) (w : World) (hs : s.size ≤ maxLen) {B : Bool} (hB : nameB s = B) : Calls Tryz.prog 112 #[.string s] w fun e w' => e = .returned (.bool B) ∧ Below w.heap.size w w' := by
  rw [← hB]; exact impl_nameOK s w hs
set_option maxHeartbeats 8000000 in
set_option maxRecDepth 20000 in
theorem impl_alone (h : Oh) (sub : Ous) (a1 a2 : Option Addr) (c1 c2 : Nat) (w : World) (ht : h.t.size ≤ maxLen) :
    Calls Tryz.prog 114 #[.agg #[.int .i64 h.k, .int .i64 h.n, .string h.t, .slice a1 h.keys.length c1, .slice a2 sub.len c2]] w fun e w' => e = .returned (.bool (headA h sub)) ∧ Below w.heap.size w w' := by
  obtain ⟨V, hV⟩ : ∃ V, V = w.alloc (.cells #[.int .i64 h.k, .int .i64 h.n, .string h.t, .slice a1 h.keys.length c1, .slice a2 sub.len c2] 44) := ⟨_, rfl⟩
  have B0 : Below w.heap.size w V := by rw [hV]; exact (Below.refl _ _).alloc (Nat.le_refl _) _
  have c0 : V.heap[w.heap.size]? = some (.cells #[.int .i64 h.k, .int .i64 h.n, .string h.t, .slice a1 h.keys.length c1, .slice a2 sub.len c2] 44 (0, 0)) := by rw [hV]; exact heap_alloc_new _ _
  have zV := (Array.getElem?_eq_some_iff.1 c0).1
  have x0 := fun o => row_cell c0 o
  have BV : Hid (Below w.heap.size w V) := B0
  have KV : Hid (∀ W, Below V.heap.size V W → Below w.heap.size w W) := fun W hW => B0.trans (hW.mono B0.size)
  have HC0 : Hid (∀ W, Below V.heap.size V W → W.heap[w.heap.size]? = some (.cells #[.int .i64 h.k, .int .i64 h.n, .string h.t, .slice a1 h.keys.length c1, .slice a2 sub.len c2] 44 (0, 0))) := fun W hW => (hW.block _ zV).trans c0
  clear c0 B0
  go_enter Tryz.func114, Tryz.ntmps114
  go_upto_region 1 with fail
  rw [← hV]
  clear hV
  go_cut [3] from 4 to 13 (fun u wx => u = .bool (plainB h sub) ∧ wx = V)
  case first =>
    by_cases p1 : h.keys.length = 0
    · by_cases p2 : sub.len = 0
      · have HP : Hid (plainB h sub = true) := by simp [Hid, plainB, p1, p2]
        have q1 : ((h.keys.length : Int) == 0) = true := by simp [p1]
        have q2 : ((sub.len : Int) == 0) = true := by simp [p2]
        clear p1 p2
        go_wp2_with fail
        go_meet
        exact ⟨by rw [HP.out], rfl⟩
      · have HP : Hid (plainB h sub = false) := by simp [Hid, plainB, p2]
        have q1 : ((h.keys.length : Int) == 0) = true := by simp [p1]
        have q2 : ((sub.len : Int) == 0) = false := by simp; omega
        clear p1 p2
        go_wp2_with fail
        go_meet
        exact ⟨by rw [HP.out], rfl⟩
    · have HP : Hid (plainB h sub = false) := by
        unfold Hid plainB; rw [decide_eq_false p1]; rfl
      have q1 : ((h.keys.length : Int) == 0) = false := beq_eq_false_iff_ne.2 (by omega)
      clear p1
      go_wp2_with fail
      go_meet
      exact ⟨by rw [HP.out], rfl⟩
  obtain ⟨rfl, hwc⟩ := hcut
  rw [hwc]
  clear hwc
  by_cases k0 : h.k = 0
  · have HH : Hid (headA h sub = (plainB h sub && (h.n == 0) && noT h)) := by unfold Hid headA; rw [if_pos k0]
    rw [k0] at x0
    clear k0
    cases hp : plainB h sub <;> cases hn : (h.n == 0) <;> cases ht2 : h.t.toList.isEmpty
    all_goals
      have HR : Hid _ := HH.out
      rw [hp, hn, noT, ht2] at HR
      go_wp2_with fail
      go_ret
      exact ⟨ret_bool HR.out.symm, BV.out⟩
  have k0' : (h.k == 0) = false := beq_eq_false_iff_ne.2 k0
  by_cases k1 : h.k = 1
  · have HH : Hid (headA h sub = (plainB h sub && intO h.n && noT h)) := by unfold Hid headA; rw [if_neg k0, if_pos k1]
    rw [k1] at x0
    clear k0 k1 k0'
    cases hi : intO h.n <;> cases hp : plainB h sub <;> cases ht2 : h.t.toList.isEmpty
    all_goals
      have HR : Hid _ := HH.out
      rw [hp, hi, noT, ht2] at HR
      have HI : Hid _ := hi
      clear hi
      go_wp2_with fail
      refine (impl_isIntO _ _ HI.out).mono ?_
      rintro e w1 ⟨rfl, hb1⟩
      have HB1 : Hid (Below w.heap.size w w1) := KV.out _ hb1
      have x1 := fun o => row_cell (HC0.out _ hb1) o
      clear hb1
      go_wp2_with fail
      go_ret
      exact ⟨ret_bool HR.out.symm, HB1.out⟩
  have k1' : (h.k == 1) = false := beq_eq_false_iff_ne.2 k1
  by_cases k2 : h.k = 2
  · have HH : Hid (headA h sub = (plainB h sub && (h.n == 0) && nameB h.t)) := by unfold Hid headA; rw [if_neg k0, if_neg k1, if_pos k2]
    rw [k2] at x0
    clear k0 k1 k2 k0' k1'
    cases hn : (h.n == 0)
    · have HR : Hid (headA h sub = false) := by rw [Hid, HH.out, hn]; simp
      go_wp2_with fail
      go_ret
      exact ⟨ret_bool HR.out.symm, BV.out⟩
    cases hi : nameB h.t <;> cases hp : plainB h sub
    all_goals
      have HR : Hid _ := HH.out
      rw [hp, hn, hi] at HR
      have HI : Hid _ := hi
      clear hi
      go_wp2_with fail
      refine (impl_nameB _ _ ht HI.out).mono ?_
      rintro e w1 ⟨rfl, hb1⟩
      have HB1 : Hid (Below w.heap.size w w1) := KV.out _ hb1
      have x1 := fun o => row_cell (HC0.out _ hb1) o
      clear hb1
      go_wp2_with fail
      go_ret
      exact ⟨ret_bool HR.out.symm, HB1.out⟩
  have k2' : (h.k == 2) = false := beq_eq_false_iff_ne.2 k2
  by_cases k3 : h.k = 3
  · have HH : Hid (headA h sub = ((h.n == 0) && noT h && decide (h.keys.length = 0))) := by unfold Hid headA; rw [if_neg k0, if_neg k1, if_neg k2, if_pos k3]
    rw [k3] at x0
    clear k0 k1 k2 k3 k0' k1' k2'
    by_cases hk : h.keys.length = 0
    · have hk' : ((h.keys.length : Int) == 0) = true := by simp [hk]
      rw [decide_eq_true hk] at HH
      clear hk
      cases hn : (h.n == 0) <;> cases ht2 : h.t.toList.isEmpty
      all_goals
        have HR : Hid _ := HH.out
        rw [hn, noT, ht2] at HR
        go_wp2_with fail
        go_ret
        exact ⟨ret_bool HR.out.symm, BV.out⟩
    · have hk' : ((h.keys.length : Int) == 0) = false := beq_eq_false_iff_ne.2 (by omega)
      rw [decide_eq_false hk] at HH
      clear hk
      cases hn : (h.n == 0) <;> cases ht2 : h.t.toList.isEmpty
      all_goals
        have HR : Hid _ := HH.out
        rw [hn, noT, ht2] at HR
        go_wp2_with fail
        go_ret
        exact ⟨ret_bool HR.out.symm, BV.out⟩
  have k3' : (h.k == 3) = false := beq_eq_false_iff_ne.2 k3
  by_cases k4 : h.k = 4
  · have HH : Hid (headA h sub = ((h.n == 0) && noT h && decide (h.keys.length = sub.len))) := by unfold Hid headA; rw [if_neg k0, if_neg k1, if_neg k2, if_neg k3, if_pos k4]
    rw [k4] at x0
    clear k0 k1 k2 k3 k4 k0' k1' k2' k3'
    by_cases hk : h.keys.length = sub.len
    · have hk' : ((h.keys.length : Int) == sub.len) = true := by simp [hk]
      rw [decide_eq_true hk] at HH
      clear hk
      cases hn : (h.n == 0) <;> cases ht2 : h.t.toList.isEmpty
      all_goals
        have HR : Hid _ := HH.out
        rw [hn, noT, ht2] at HR
        go_wp2_with fail
        go_ret
        exact ⟨ret_bool HR.out.symm, BV.out⟩
    · have hk' : ((h.keys.length : Int) == sub.len) = false := beq_eq_false_iff_ne.2 (by omega)
      rw [decide_eq_false hk] at HH
      clear hk
      cases hn : (h.n == 0) <;> cases ht2 : h.t.toList.isEmpty
      all_goals
        have HR : Hid _ := HH.out
        rw [hn, noT, ht2] at HR
        go_wp2_with fail
        go_ret
        exact ⟨ret_bool HR.out.symm, BV.out⟩
  have k4' : (h.k == 4) = false := beq_eq_false_iff_ne.2 k4
  have HR : Hid (headA h sub = false) := by unfold Hid headA; rw [if_neg k0, if_neg k1, if_neg k2, if_neg k3, if_neg k4]
  go_wp2_with fail
  go_ret
  exact ⟨ret_bool HR.out.symm, BV.out⟩
end Go.Proofs.YtnkaoeijcdchiaaGreatDoor.G
