/- Whether a list of puts is right: the program's text and the specification's. -/
import Derived.Test.YtlfcjhiojbcijaaStSpecTwo
namespace Go.Proofs.Ytlfcjhiojbcijaa.G
open Go.ChangeShapes Go.WideShapes Go.ChangeAt Go.RowKit
set_option linter.unusedVariables false

def putsB (ps : List Ve) : Bool := decide (ps.length ≤ 400) && ps.all (fun p => putB p.ts p.v)
theorem putsB_long {ps : List Ve} (h : 400 < ps.length) : putsB ps = false := by
  have : decide (ps.length ≤ 400) = false := by simp; omega
  simp only [putsB, this]; simp
theorem putsB_no {ps : List Ve} {k : Nat} (hk : k < ps.length) (h : putB ps[k].ts ps[k].v = false) : putsB ps = false := by
  have : ps.all (fun p => putB p.ts p.v) = false := all_no_b hk h
  simp only [putsB, this]; simp
theorem putsB_yes {ps : List Ve} (h : ps.length ≤ 400) (ha : ∀ i (hi : i < ps.length), putB ps[i].ts ps[i].v = true) : putsB ps = true := by
  have h2 : ps.all (fun p => putB p.ts p.v) = true := by
    rw [List.all_eq_true]; intro x hx
    obtain ⟨i, hi, rfl⟩ := List.getElem_of_mem hx
    exact ha i hi
  simp [putsB, h, h2]
theorem putsB_all {ps : List Ve} (h : putsB ps = true) : ps.length ≤ 400 ∧ ∀ p ∈ ps, putB p.ts p.v = true := by
  simp only [putsB, Bool.and_eq_true, decide_eq_true_eq, List.all_eq_true] at h
  exact h
theorem putB_key {k v : Int} (h : putB k v = true) : 0 ≤ k ∧ k < 16 := by
  simp only [putB, keyS, Bool.and_eq_true, decide_eq_true_eq] at h
  exact h.1
theorem putB_in {k v : Int} : putB k v = (inS k 0 15 && valB k v) := by
  have : keyS k = inS k 0 15 := by unfold keyS inS; rw [Bool.eq_iff_iff]; simp; omega
  rw [putB, this]
set_option maxHeartbeats 2000000 in
theorem impl_putsOK (a : Option Addr) (c : Nat) (ps : List Ve) (w : World) (hr : VeRow 0 w.heap.size w a ps) (hl : ps.length ≤ 1048576) :
    Calls Try.prog 54 #[.slice a ps.length c] w fun e w' => e = .returned (.bool (putsB ps)) ∧ Below w.heap.size w w' := by
  by_cases h4 : 400 < ps.length
  · have HN : Hid (false = putsB ps) := (putsB_long h4).symm
    have h4' : (400 : Int) < ps.length := by omega
    go_enter Try.func54, Try.ntmps54
    go_wp2_with fail
    go_ret
    exact ⟨ret_b HN.out, Below.refl _ _⟩
  have h4' : ¬ (400 : Int) < ps.length := by omega
  have HR : Hid (VeRow 0 w.heap.size w a ps) := hr
  clear hr
  go_enter Try.func54, Try.ntmps54
  go_wp2_with fail
  go_loopw [10] (fun i w' => ∃ (k : Nat), k ≤ ps.length ∧ i = .int .i64 k ∧ Below w.heap.size w w' ∧ Hid (∀ i (hi : i < ps.length), i < k → putB ps[i].ts ps[i].v = true)) (fun i _ => ps.length - (intOf i).toNat)
  case atStart => exact ⟨0, by omega, rfl, Below.refl _ _, fun i _ h => by omega⟩
  case round =>
    obtain ⟨wo, rfl⟩ : ∃ x, x = wr := ⟨_, rfl⟩
    obtain ⟨k, hk, rfl, hb, HK⟩ := hrel
    by_cases hlt : k < ps.length
    · obtain ⟨b, o, ha, _, hbl, d0, d1⟩ := VeRow.cells (VeRow.keep HR.out (agree hb (Nat.le_refl _))) k hlt
      subst ha
      have hz := hb.size
      cases hv : putB ps[k].ts ps[k].v
      · have HN : Hid (false = putsB ps) := (putsB_no hlt hv).symm
        go_wp2_with (first | (go_at_call 67; refine (impl_putOK _ _ _).mono ?_; rintro e w1 ⟨rfl, hb1⟩; rw [hv]))
        go_ret
        refine ⟨ret_b HN.out, ?_⟩
        refine Below.trans ?_ (hb1.mono (by first | omega | (simp <;> omega)))
        repeat (first | exact hb | refine Below.setCell ?_ (by first | omega | (simp <;> omega)) _ | refine Below.alloc ?_ (by first | omega | (simp <;> omega)) _)
      · go_wp2_with (first | (go_at_call 67; refine (impl_putOK _ _ _).mono ?_; rintro e w1 ⟨rfl, hb1⟩; rw [hv]))
        refine ⟨⟨k + 1, by omega, by go_num, ?_, ?_⟩, by simp [intOf]; omega⟩
        · refine Below.trans ?_ (hb1.mono (by first | omega | (simp <;> omega)))
          repeat (first | exact hb | refine Below.setCell ?_ (by first | omega | (simp <;> omega)) _ | refine Below.alloc ?_ (by first | omega | (simp <;> omega)) _)
        · intro i hi1 hi2
          by_cases e : i = k
          · subst e; exact hv
          · exact HK.out i hi1 (by omega)
    · have HN : Hid (true = putsB ps) := (putsB_yes (by omega) (fun i hi => HK.out i hi (by omega))).symm
      go_wp2_with fail
      go_ret
      exact ⟨ret_b HN.out, hb⟩
set_option maxHeartbeats 4000000 in
theorem spec_puts (a : Option Addr) (c : Nat) (ps : List Ve) (w : World) (hr : VeRow 0 w.heap.size w a ps) (hl : ps.length ≤ 1048576) :
    Calls Try.prog 64 #[.slice a ps.length c] w fun e w' => e = .returned (.bool (putsB ps)) ∧ Below w.heap.size w w' := by
  have HR : Hid (VeRow 0 w.heap.size w a ps) := hr
  clear hr
  go_enter Try.func64, Try.ntmps64
  go_wp2_with fail
  go_loopw [3] (fun i w' => ∃ (k : Nat), k ≤ ps.length ∧ i = .int .i64 k ∧ Below w.heap.size w w' ∧ Hid (∀ i (hi : i < ps.length), i < k → putB ps[i].ts ps[i].v = true)) (fun i _ => ps.length - (intOf i).toNat)
  case atStart => exact ⟨0, by omega, rfl, Below.refl _ _, fun i _ h => by omega⟩
  case round =>
    obtain ⟨wo, rfl⟩ : ∃ x, x = wr := ⟨_, rfl⟩
    obtain ⟨k, hk, rfl, hb, HK⟩ := hrel
    by_cases hlt : k < ps.length
    case neg =>
      obtain rfl : k = ps.length := by omega
      have HN : Hid (decide ((ps.length : Int) ≤ 400) = putsB ps) := by
        by_cases h4 : ps.length ≤ 400
        · rw [Hid, putsB_yes h4 (fun i hi => HK.out i hi hi)]; simp; omega
        · rw [Hid, putsB_long (by omega)]; simp; omega
      go_wp2_with fail
      go_ret
      exact ⟨ret_b HN.out, hb⟩
    obtain ⟨b, o, ha, _, hbl, d0, d1⟩ := VeRow.cells (VeRow.keep HR.out (agree hb (Nat.le_refl _))) k hlt
    subst ha
    have hlt' : (k : Int) < ps.length := by omega
    have HB : Hid _ := hb
    clear hb
    cases hA : inS ps[k].ts 0 15
    · have HN : Hid (false = putsB ps) := (putsB_no hlt (by rw [putB_in, hA]; rfl)).symm
      have HA : Hid _ := hA
      clear hA
      go_wp2_with fail
      go_quiet ((first | (go_at_call 22; exact Calls.quiet_of_same (spec_inS _ _ _ _ HA.out))))
      go_wp2_with fail
      go_ret
      exact ⟨ret_b HN.out, below_drewN HB.out _⟩
    have hk0 : 0 ≤ ps[k].ts := ((inS_iff _ _ _).1 hA).1
    cases hV : valB ps[k].ts ps[k].v
    · have HN : Hid (false = putsB ps) := (putsB_no hlt (by rw [putB_in, hA, hV]; rfl)).symm
      have HA : Hid _ := hA
      have HV : Hid _ := hV
      clear hA hV
      go_wp2_with fail
      go_quiet ((first | (go_at_call 22; exact Calls.quiet_of_same (spec_inS _ _ _ _ HA.out)) | (go_at_call 63; exact Calls.quiet_of_same (spec_value _ _ _ hk0 HV.out))))
      go_wp2_with fail
      go_ret
      exact ⟨ret_b HN.out, below_drewN HB.out _⟩
    · have HO : Hid (putB ps[k].ts ps[k].v = true) := by rw [Hid, putB_in, hA, hV]; rfl
      have HA : Hid _ := hA
      have HV : Hid _ := hV
      clear hA hV
      go_wp2_with fail
      go_quiet ((first | (go_at_call 22; exact Calls.quiet_of_same (spec_inS _ _ _ _ HA.out)) | (go_at_call 63; exact Calls.quiet_of_same (spec_value _ _ _ hk0 HV.out))))
      go_wp2_with fail
      refine ⟨⟨k + 1, by omega, by go_num, below_drewN HB.out _, ?_⟩, by simp [intOf]; omega⟩
      intro i hi1 hi2
      by_cases e : i = k
      · subst e; exact HO.out
      · exact HK.out i hi1 (by omega)
end Go.Proofs.Ytlfcjhiojbcijaa.G
