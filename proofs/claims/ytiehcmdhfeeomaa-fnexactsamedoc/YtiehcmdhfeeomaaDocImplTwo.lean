/- The program's own tests of directives, of a selection alone, of a definition's head. -/
import Derived.Test.YtiehcmdhfeeomaaDocImpl
namespace Go.Proofs.Ytiehcmdhfeeomaa
open Go.ChangeShapes Go.WideShapes Go.ChangeAt Go.RowKit
set_option linter.unusedVariables false

theorem below_one {w w1 : World} {o : Obj} (h : Below (w.alloc o).heap.size (w.alloc o) w1) : Below w.heap.size w w1 := ((Below.refl _ _).alloc (Nat.le_refl _) _).trans (h.mono (by simp))
set_option maxHeartbeats 1000000 in
theorem impl_dirs (a : Option Addr) (c : Nat) (l : List Di) (w : World) (hr : DiRow 0 w.heap.size w a l) (hl : l.length ≤ 1048576) (ht : ∀ x ∈ l, DiBd 1048576 x) :
    Calls Try.prog 81 #[.slice a l.length c] w fun e w' => e = .returned (.bool (dirsB l)) ∧ Below w.heap.size w w' := by
  by_cases h4 : 4 < l.length
  · have HN : Hid (false = dirsB l) := by
      have : ¬ l.length ≤ 4 := by omega
      simp [Hid, dirsB, this]
    go_enter Try.func81, Try.ntmps81
    go_wp2_with fail
    go_ret
    exact ⟨ret_bool HN.out, Below.refl _ _⟩
  have HE : Hid (dirsB l = l.all diB) := by
    have : l.length ≤ 4 := by omega
    simp [Hid, dirsB, this]
  have HR : Hid (DiRow 0 w.heap.size w a l) := hr
  have HT : Hid (∀ x ∈ l, DiBd 1048576 x) := ht
  clear hr ht
  go_enter Try.func81, Try.ntmps81
  go_wp2_with fail
  go_loopw [10] (fun i w' => ∃ (k : Nat), k ≤ l.length ∧ i = .int .i64 k ∧ Below w.heap.size w w' ∧ Hid ((l.take k).all diB = true)) (fun i _ => l.length - (intOf i).toNat)
  case atStart => exact ⟨0, by omega, rfl, Below.refl _ _, rfl⟩
  case round =>
    rename_i wr
    obtain ⟨k, hk, rfl, hb, HA⟩ := hrel
    by_cases hlt : k < l.length
    · obtain ⟨b, o, ha, _, hbl, d0, d1, d2, d3⟩ := Row.cells_di (Row.keep HR.out (Below.agree hb (Nat.le_refl _))) k hlt
      subst ha
      have HX : Hid (DiBd 1048576 l[k]) := HT.out l[k] (List.getElem_mem hlt)
      go_wp2_with fail
      refine (impl_val l[k].v _ (by have := HX.out; unfold DiBd at this; unfold maxLen; omega)).mono ?_
      cases hv : valB l[k].v
      · rintro e w1 ⟨rfl, hb1⟩
        have HN : Hid (false = dirsB l) := by rw [Hid, HE.out, all_no_b hlt (by simp [diB, hv])]
        have q1 : Hid (Below w.heap.size w w1) := by
          refine hb.trans (Below.trans ?_ (hb1.mono (by have := hb.size; simp <;> omega)))
          repeat (first | exact Below.refl _ _ | refine Below.setCell ?_ (by have := hb.size; simp <;> omega) _ | refine Below.alloc ?_ (by have := hb.size; simp <;> omega) _)
        go_wp2_with fail
        go_ret
        exact ⟨ret_bool HN.out, q1.out⟩
      · rintro e w1 ⟨rfl, hb1⟩
        have q1 : Below w.heap.size w w1 := by
          refine hb.trans (Below.trans ?_ (hb1.mono (by have := hb.size; simp <;> omega)))
          repeat (first | exact Below.refl _ _ | refine Below.setCell ?_ (by have := hb.size; simp <;> omega) _ | refine Below.alloc ?_ (by have := hb.size; simp <;> omega) _)
        go_wp2_with fail
        go_roundw
        case rel => exact ⟨k + 1, by omega, by go_num, q1, all_take_b hlt HA.out (by simp [diB, hv])⟩
        case measure => simp [intOf]; omega
    · have HN : Hid (true = dirsB l) := by
        have := HA.out
        rw [List.take_of_length_le (by omega)] at this
        rw [Hid, HE.out, this]
      go_wp2_with fail
      go_ret
      exact ⟨ret_bool HN.out, hb⟩

set_option maxHeartbeats 2000000 in
theorem impl_head (x : De) (n : Nat) (a3 : Option Addr) (c3 : Nat) (w : World) (h1 : x.nm.size ≤ maxLen) (h2 : x.on.size ≤ maxLen) :
    Calls Try.prog 42 #[.agg #[.int .i64 x.k, .string x.nm, .string x.on, .slice a3 n c3]] w fun e w' => e = .returned (.bool (headB x)) ∧ Below w.heap.size w w' := by
  have B0 : Hid (Below w.heap.size w (w.alloc (.cells #[.int .i64 x.k, .string x.nm, .string x.on, .slice a3 n c3] 71))) := (Below.refl _ _).alloc (Nat.le_refl _) _
  by_cases hk : x.k = 1 ∨ x.k = 2
  · have HK : Hid (headB x = ((noB x.nm || nameB x.nm) && noB x.on)) := by unfold Hid headB; rw [if_pos hk]
    have go : ∀ (k1 : Hid (headB x = ((noB x.nm || nameB x.nm) && noB x.on))) (e2 : x.k = 1 ∨ (x.k = 2 ∧ (x.k == 1) = false)), Calls Try.prog 42 #[.agg #[.int .i64 x.k, .string x.nm, .string x.on, .slice a3 n c3]] w fun e w' => e = .returned (.bool (headB x)) ∧ Below w.heap.size w w' := by
      intro k1 e2
      rcases e2 with e2 | ⟨e2, e3⟩
      · go_enter Try.func42, Try.ntmps42
        go_wp2_with fail
        refine (impl_none x.nm _ h1).mono ?_
        cases bn : (noB x.nm || nameB x.nm)
        · rintro e w1 ⟨rfl, hb1⟩
          have HN : Hid (false = headB x) := by rw [Hid, k1.out, bn]; rfl
          go_wp2_with fail
          go_ret
          exact ⟨ret_bool HN.out, below_one hb1⟩
        · rintro e w1 ⟨rfl, hb1⟩
          have k0 := fun o => hb1.cell (p := ⟨w.heap.size, o, none⟩) (by simp)
          have HN : Hid (noB x.on = headB x) := by rw [Hid, k1.out, bn]; rfl
          go_wp2_with fail
          go_ret
          exact ⟨ret_bool HN.out, below_one hb1⟩
      · go_enter Try.func42, Try.ntmps42
        go_wp2_with fail
        refine (impl_none x.nm _ h1).mono ?_
        cases bn : (noB x.nm || nameB x.nm)
        · rintro e w1 ⟨rfl, hb1⟩
          have HN : Hid (false = headB x) := by rw [Hid, k1.out, bn]; rfl
          go_wp2_with fail
          go_ret
          exact ⟨ret_bool HN.out, below_one hb1⟩
        · rintro e w1 ⟨rfl, hb1⟩
          have k0 := fun o => hb1.cell (p := ⟨w.heap.size, o, none⟩) (by simp)
          have HN : Hid (noB x.on = headB x) := by rw [Hid, k1.out, bn]; rfl
          go_wp2_with fail
          go_ret
          exact ⟨ret_bool HN.out, below_one hb1⟩
    refine go HK ?_
    rcases hk with hk | hk
    · exact .inl hk
    · exact .inr ⟨hk, by rw [hk]; rfl⟩
  · have m1 : (x.k == 1) = false := by rw [beq_eq_false_iff_ne]; omega
    have m2 : (x.k == 2) = false := by rw [beq_eq_false_iff_ne]; omega
    by_cases h3 : x.k = 3
    · have HK : Hid (headB x = (!onB x.nm && nameB x.nm && nameB x.on)) := by
        unfold Hid headB; rw [if_neg hk, if_pos h3]
        cases onB x.nm <;> cases nameB x.nm <;> rfl
      clear hk
      go_enter Try.func42, Try.ntmps42
      go_wp2_with fail
      refine (impl_frag x.nm _ h1).mono ?_
      cases bn : (!onB x.nm && nameB x.nm)
      · rintro e w1 ⟨rfl, hb1⟩
        have HN : Hid (false = headB x) := by rw [Hid, HK.out, bn]; rfl
        go_wp2_with fail
        go_ret
        exact ⟨ret_bool HN.out, below_one hb1⟩
      · rintro e w1 ⟨rfl, hb1⟩
        have k0 := fun o => hb1.cell (p := ⟨w.heap.size, o, none⟩) (by simp)
        have HN : Hid (nameB x.on = headB x) := by rw [Hid, HK.out, bn]; rfl
        go_wp2_with fail
        refine (impl_nameOK x.on _ h2).mono ?_
        rintro e w2 ⟨rfl, hb2⟩
        go_wp2_with fail
        go_ret
        exact ⟨ret_bool HN.out, (below_one hb1).trans (hb2.mono (below_one hb1).size)⟩
    · have m3 : (x.k == 3) = false := by rw [beq_eq_false_iff_ne]; omega
      have HN : Hid (false = headB x) := by unfold Hid headB; rw [if_neg hk, if_neg h3]
      clear hk h3
      go_enter Try.func42, Try.ntmps42
      go_wp2_with fail
      go_ret
      exact ⟨ret_bool HN.out, B0.out⟩
end Go.Proofs.Ytiehcmdhfeeomaa
