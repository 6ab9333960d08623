/- The program's text of directives. -/
import Derived.Test.YtomkekgnaeicpaaGreatDoorDocWords
namespace Go.Proofs.YtomkekgnaeicpaaGreatDoor
open Go.ChangeShapes Go.WideShapes Go.ChangeAt Go.RowKit
set_option linter.unusedVariables false

set_option maxHeartbeats 2000000 in
set_option maxRecDepth 40000 in
theorem impl_dirsT (a : Option Addr) (c : Nat) (l : List Di) (w : World) (hr : DiRow 0 w.heap.size w a l) (hl : l.length ≤ 4) (hB : ∀ x ∈ l, diB x = true) (hp : Pow w) :
    Calls Tryz.prog 86 #[.slice a l.length c] w fun e w' => e = .returned (.string (bl (dirsP l))) ∧ Below w.heap.size w w' := by
  have HR : Hid (DiRow 0 w.heap.size w a l) := hr
  have HD : Hid (∀ x ∈ l, diB x = true) := hB
  have HP : Hid (∀ W, Below w.heap.size w W → Pow W) := fun W h => hp.up h
  clear hr hB hp
  go_enter Tryz.func86, Tryz.ntmps86
  go_wp2_with fail
  go_loopw [3, 9] (fun s i w' => ∃ (k : Nat) (u : ByteArray), k ≤ l.length ∧ i = .int .i64 k ∧ s = .string u ∧ Hid (nl u = dirsP (l.take k)) ∧ Below w.heap.size w w') (fun _ i _ => l.length - (intOf i).toNat)
  case atStart => exact ⟨0, _, by omega, rfl, rfl, by simp [Hid, dirsP, nl], Below.refl _ _⟩
  case round =>
    rename_i wr
    obtain ⟨k, u, hk, rfl, rfl, HU, hb⟩ := hrel
    have hbz := hb.size
    have su : u.size ≤ 300 := by
      have h4 := dirsP_len (l := l.take k) (fun x hx => HD.out x (List.mem_of_mem_take hx))
      rw [← nl_len, HU.out]
      rw [List.length_take] at h4
      omega
    by_cases hlt : k < l.length
    · obtain ⟨b, o, ha, _, hbl, d0, d1, d2, d3⟩ := Row.cells_di (Row.keep HR.out (Below.agree hb (Nat.le_refl _))) k hlt
      subst ha
      have HV : Hid (valB l[k].v = true) := HD.out _ (List.getElem_mem hlt)
      cases hsk : l[k].sk
      · rw [hsk] at d0
        have lv := valP_len HV.out
        have lb := bl_size (valP l[k].v)
        have r4 : ¬ (9223372036854775807 < 14 + (bl (valP l[k].v)).size) := by omega
        have r5 : ¬ (9223372036854775807 < 14 + (bl (valP l[k].v)).size + 1) := by omega
        have r6 : ¬ (9223372036854775807 < u.size + (14 + (bl (valP l[k].v)).size + 1)) := by omega
        have q1 : (⟨#[32, 64]⟩ : ByteArray).size = 2 := rfl
        have q2 : (⟨#[105, 110, 99, 108, 117, 100, 101]⟩ : ByteArray).size = 7 := rfl
        have q3 : (⟨#[40, 105, 102, 58, 32]⟩ : ByteArray).size = 5 := rfl
        have q4 : (⟨#[41]⟩ : ByteArray).size = 1 := rfl
        have r1 : ¬ (9223372036854775807 < (((⟨#[32, 64]⟩ : ByteArray) ++ (⟨#[105, 110, 99, 108, 117, 100, 101]⟩ : ByteArray)) ++ (⟨#[40, 105, 102, 58, 32]⟩ : ByteArray)).size + (bl (valP l[k].v)).size) := by rw [ByteArray.size_append, ByteArray.size_append]; omega
        have r2 : ¬ (9223372036854775807 < ((((⟨#[32, 64]⟩ : ByteArray) ++ (⟨#[105, 110, 99, 108, 117, 100, 101]⟩ : ByteArray)) ++ (⟨#[40, 105, 102, 58, 32]⟩ : ByteArray)) ++ bl (valP l[k].v)).size + (⟨#[41]⟩ : ByteArray).size) := by rw [ByteArray.size_append, ByteArray.size_append, ByteArray.size_append]; omega
        have r3 : ¬ (9223372036854775807 < u.size + (((((⟨#[32, 64]⟩ : ByteArray) ++ (⟨#[105, 110, 99, 108, 117, 100, 101]⟩ : ByteArray)) ++ (⟨#[40, 105, 102, 58, 32]⟩ : ByteArray)) ++ bl (valP l[k].v)) ++ (⟨#[41]⟩ : ByteArray)).size) := by rw [ByteArray.size_append, ByteArray.size_append, ByteArray.size_append, ByteArray.size_append]; omega
        have HN : Hid (nl (u ++ (((((⟨#[32, 64]⟩ : ByteArray) ++ (⟨#[105, 110, 99, 108, 117, 100, 101]⟩ : ByteArray)) ++ (⟨#[40, 105, 102, 58, 32]⟩ : ByteArray)) ++ bl (valP l[k].v)) ++ (⟨#[41]⟩ : ByteArray))) = dirsP (l.take (k + 1))) := by
          unfold Hid
          rw [dirsP_take hlt, nl_app, nl_app, nl_app, nl_app, nl_app, nl_bl, HU.out]
          simp [nl_lit, diP, wordP, hsk]
        clear lv su q1 q2 q3 q4 lb
        go_wp2_with fail
        refine (impl_valueT l[k].v _ HV.out (HP.out _ ?b0)).mono ?_
        case b0 => exact hb.trans (((Below.refl _ _).alloc (Nat.le_refl _) _).mono hbz)
        rintro e w1 ⟨rfl, hb1⟩
        have q1 : Hid (Below w.heap.size w w1) := hb.trans (Below.trans ((Below.refl _ _).alloc hbz _) (hb1.mono (by simp; omega)))
        clear hb1
        go_wp2_with fail
        go_roundw
        case rel => exact ⟨k + 1, _, by omega, by go_num, rfl, HN, q1.out⟩
        case measure => simp [intOf]; omega
      · rw [hsk] at d0
        have lv := valP_len HV.out
        have lb := bl_size (valP l[k].v)
        have r4 : ¬ (9223372036854775807 < 11 + (bl (valP l[k].v)).size) := by omega
        have r5 : ¬ (9223372036854775807 < 11 + (bl (valP l[k].v)).size + 1) := by omega
        have r6 : ¬ (9223372036854775807 < u.size + (11 + (bl (valP l[k].v)).size + 1)) := by omega
        have q1 : (⟨#[32, 64]⟩ : ByteArray).size = 2 := rfl
        have q2 : (⟨#[115, 107, 105, 112]⟩ : ByteArray).size = 4 := rfl
        have q3 : (⟨#[40, 105, 102, 58, 32]⟩ : ByteArray).size = 5 := rfl
        have q4 : (⟨#[41]⟩ : ByteArray).size = 1 := rfl
        have r1 : ¬ (9223372036854775807 < (((⟨#[32, 64]⟩ : ByteArray) ++ (⟨#[115, 107, 105, 112]⟩ : ByteArray)) ++ (⟨#[40, 105, 102, 58, 32]⟩ : ByteArray)).size + (bl (valP l[k].v)).size) := by rw [ByteArray.size_append, ByteArray.size_append]; omega
        have r2 : ¬ (9223372036854775807 < ((((⟨#[32, 64]⟩ : ByteArray) ++ (⟨#[115, 107, 105, 112]⟩ : ByteArray)) ++ (⟨#[40, 105, 102, 58, 32]⟩ : ByteArray)) ++ bl (valP l[k].v)).size + (⟨#[41]⟩ : ByteArray).size) := by rw [ByteArray.size_append, ByteArray.size_append, ByteArray.size_append]; omega
        have r3 : ¬ (9223372036854775807 < u.size + (((((⟨#[32, 64]⟩ : ByteArray) ++ (⟨#[115, 107, 105, 112]⟩ : ByteArray)) ++ (⟨#[40, 105, 102, 58, 32]⟩ : ByteArray)) ++ bl (valP l[k].v)) ++ (⟨#[41]⟩ : ByteArray)).size) := by rw [ByteArray.size_append, ByteArray.size_append, ByteArray.size_append, ByteArray.size_append]; omega
        have HN : Hid (nl (u ++ (((((⟨#[32, 64]⟩ : ByteArray) ++ (⟨#[115, 107, 105, 112]⟩ : ByteArray)) ++ (⟨#[40, 105, 102, 58, 32]⟩ : ByteArray)) ++ bl (valP l[k].v)) ++ (⟨#[41]⟩ : ByteArray))) = dirsP (l.take (k + 1))) := by
          unfold Hid
          rw [dirsP_take hlt, nl_app, nl_app, nl_app, nl_app, nl_app, nl_bl, HU.out]
          simp [nl_lit, diP, wordP, hsk]
        clear lv su q1 q2 q3 q4 lb
        go_wp2_with fail
        refine (impl_valueT l[k].v _ HV.out (HP.out _ ?b0)).mono ?_
        case b0 => exact hb.trans (((Below.refl _ _).alloc (Nat.le_refl _) _).mono hbz)
        rintro e w1 ⟨rfl, hb1⟩
        have q1 : Hid (Below w.heap.size w w1) := hb.trans (Below.trans ((Below.refl _ _).alloc hbz _) (hb1.mono (by simp; omega)))
        clear hb1
        go_wp2_with fail
        go_roundw
        case rel => exact ⟨k + 1, _, by omega, by go_num, rfl, HN, q1.out⟩
        case measure => simp [intOf]; omega
    · obtain rfl : k = l.length := by omega
      have HN : Hid (u = bl (dirsP l)) := by
        refine bl_of ?_
        have := HU.out
        rwa [List.take_length] at this
      go_wp2_with fail
      go_ret
      exact ⟨ret_str HN.out, hb⟩
end Go.Proofs.YtomkekgnaeicpaaGreatDoor
