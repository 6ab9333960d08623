/- The program's own tests of names, arguments and directives. -/
import Derived.Test.YtiehcmdhfeeomaaDocSpec
namespace Go.Proofs.Ytiehcmdhfeeomaa
open Go.ChangeShapes Go.WideShapes Go.ChangeAt Go.RowKit
set_option linter.unusedVariables false

set_option maxHeartbeats 1000000 in
theorem impl_none (s : ByteArray) (w : World) (hs : s.size ≤ maxLen) :
    Calls Try.prog 59 #[.string s] w fun e w' => e = .returned (.bool (noB s || nameB s)) ∧ Below w.heap.size w w' := by
  by_cases hz : s.toList = []
  · have HN : Hid (true = (noB s || nameB s)) := by rw [Hid, no_of hz]; rfl
    go_enter Try.func59, Try.ntmps59
    go_wp2_with fail
    go_ret
    exact ⟨ret_bool HN.out, Below.refl _ _⟩
  · have hz2 : (s.toList == []) = false := by simpa using hz
    have NZ : Hid (noB s = false) := no_not hz
    go_enter Try.func59, Try.ntmps59
    go_wp2_with fail
    refine (impl_nameOK s _ hs).mono ?_
    rintro e w1 ⟨rfl, hb1⟩
    go_wp2_with fail
    go_ret
    exact ⟨ret_bool (by first | (rw [NZ.out]; rfl) | (rw [NZ.out, show s.toList.isEmpty = false from NZ.out])), hb1⟩
set_option maxHeartbeats 1000000 in
theorem impl_frag (s : ByteArray) (w : World) (hs : s.size ≤ maxLen) :
    Calls Try.prog 60 #[.string s] w fun e w' => e = .returned (.bool (!onB s && nameB s)) ∧ Below w.heap.size w w' := by
  cases ho : onB s
  · have ho2 : (s.toList == [111, 110]) = false := ho
    go_enter Try.func60, Try.ntmps60
    go_wp2_with fail
    refine (impl_nameOK s _ hs).mono ?_
    rintro e w1 ⟨rfl, hb1⟩
    go_wp2_with fail
    go_ret
    exact ⟨ret_bool (by simp), hb1⟩
  · have ho2 : (s.toList == [111, 110]) = true := ho
    go_enter Try.func60, Try.ntmps60
    go_wp2_with fail
    go_ret
    exact ⟨ret_bool (by simp), Below.refl _ _⟩
set_option maxHeartbeats 1000000 in
theorem impl_args (a : Option Addr) (c : Nat) (l : List Ar) (w : World) (hr : ArRow 0 w.heap.size w a l) (hl : l.length ≤ 1048576) (ht : ∀ x ∈ l, ArBd 1048576 x) :
    Calls Try.prog 80 #[.slice a l.length c] w fun e w' => e = .returned (.bool (argsB l)) ∧ Below w.heap.size w w' := by
  by_cases h4 : 4 < l.length
  · have HN : Hid (false = argsB l) := by
      have : ¬ l.length ≤ 4 := by omega
      simp [Hid, argsB, this]
    go_enter Try.func80, Try.ntmps80
    go_wp2_with fail
    go_ret
    exact ⟨ret_bool HN.out, Below.refl _ _⟩
  have HE : Hid (argsB l = l.all arB) := by
    have : l.length ≤ 4 := by omega
    simp [Hid, argsB, this]
  have HR : Hid (ArRow 0 w.heap.size w a l) := hr
  have HT : Hid (∀ x ∈ l, ArBd 1048576 x) := ht
  clear hr ht
  go_enter Try.func80, Try.ntmps80
  go_wp2_with fail
  go_loopw [10] (fun i w' => ∃ (k : Nat), k ≤ l.length ∧ i = .int .i64 k ∧ Below w.heap.size w w' ∧ Hid ((l.take k).all arB = true)) (fun i _ => l.length - (intOf i).toNat)
  case atStart => exact ⟨0, by omega, rfl, Below.refl _ _, rfl⟩
  case round =>
    rename_i wr
    obtain ⟨k, hk, rfl, hb, HA⟩ := hrel
    by_cases hlt : k < l.length
    · obtain ⟨b, o, ha, _, hbl, d0, d1, d2, d3⟩ := Row.cells_ar (Row.keep HR.out (Below.agree hb (Nat.le_refl _))) k hlt
      subst ha
      have HX : Hid (ArBd 1048576 l[k]) := HT.out l[k] (List.getElem_mem hlt)
      have sx : l[k].nm.size ≤ maxLen := by have := HX.out.1; unfold maxLen; omega
      cases hm : nameB l[k].nm
      · have HN : Hid (false = argsB l) := by rw [Hid, HE.out, all_no_b hlt (by simp [arB, hm])]
        go_wp2_with fail
        refine (impl_nameOK l[k].nm _ sx).mono ?_
        rw [hm]
        rintro e w1 ⟨rfl, hb1⟩
        have q1 : Hid (Below w.heap.size w w1) := by
          refine hb.trans (Below.trans ?_ (hb1.mono (by have := hb.size; simp <;> omega)))
          repeat (first | exact Below.refl _ _ | refine Below.setCell ?_ (by have := hb.size; simp <;> omega) _ | refine Below.alloc ?_ (by have := hb.size; simp <;> omega) _)
        go_wp2_with fail
        go_ret
        exact ⟨ret_bool HN.out, q1.out⟩
      · go_wp2_with fail
        refine (impl_nameOK l[k].nm _ sx).mono ?_
        rw [hm]
        rintro e w1 ⟨rfl, hb1⟩
        have hz1 : wr.heap.size + 1 ≤ w1.heap.size := by have := hb1.size; simpa using this
        have q1 : Below w.heap.size w w1 := by
          refine hb.trans (Below.trans ?_ (hb1.mono (by have := hb.size; simp <;> omega)))
          repeat (first | exact Below.refl _ _ | refine Below.setCell ?_ (by have := hb.size; simp <;> omega) _ | refine Below.alloc ?_ (by have := hb.size; simp <;> omega) _)
        have Q1 : Hid _ := q1
        have k0 := fun o => hb1.cell (p := ⟨wr.heap.size, o, none⟩) (by simp <;> omega)
        clear hb1 q1
        go_wp2_with fail
        refine (impl_val l[k].v _ (by have := HX.out.2; unfold maxLen; omega)).mono ?_
        cases hv : valB l[k].v
        · rintro e w2 ⟨rfl, hb2⟩
          have HN : Hid (false = argsB l) := by rw [Hid, HE.out, all_no_b hlt (by simp [arB, hv])]
          go_wp2_with fail
          go_ret
          exact ⟨ret_bool HN.out, Q1.out.trans (hb2.mono Q1.out.size)⟩
        · rintro e w2 ⟨rfl, hb2⟩
          go_wp2_with fail
          go_roundw
          case rel => exact ⟨k + 1, by omega, by go_num, Q1.out.trans (hb2.mono Q1.out.size), all_take_b hlt HA.out (by simp [arB, hm, hv])⟩
          case measure => simp [intOf]; omega
    · have HN : Hid (true = argsB l) := by
        have := HA.out
        rw [List.take_of_length_le (by omega)] at this
        rw [Hid, HE.out, this]
      go_wp2_with fail
      go_ret
      exact ⟨ret_bool HN.out, hb⟩
end Go.Proofs.Ytiehcmdhfeeomaa
