/- The program's text of a definition, of a document. -/
import Derived.Test.YtomkekgnaeicpaaGreatDoorDocWordsFour
import Derived.Test.YtomkekgnaeicpaaGreatDoorDocPrintTwo
import Derived.Test.YtomkekgnaeicpaaGreatDoorDocSpecOK
namespace Go.Proofs.YtomkekgnaeicpaaGreatDoor
open Go.ChangeShapes Go.WideShapes Go.ChangeAt Go.RowKit
set_option linter.unusedVariables false

set_option maxHeartbeats 4000000 in
set_option maxRecDepth 40000 in
theorem impl_defT (x : De) (a3 : Option Addr) (c3 : Nat) (w : World) (r3 : SelRow 0 w.heap.size w a3 x.sels) (g : DeGood x) (h60 : x.sels.size ≤ 60) (hp : Pow w) :
    Calls Tryz.prog 30 #[.agg #[.int .i64 x.k, .string x.nm, .string x.on, .slice a3 x.sels.len c3]] w fun e w' => e = .returned (.string (bl (defP x))) ∧ Below w.heap.size w w' := by
  have B0 : Hid (Below w.heap.size w (w.alloc (.cells #[.int .i64 x.k, .string x.nm, .string x.on, .slice a3 x.sels.len c3] 68))) := (Below.refl _ _).alloc (Nat.le_refl _) _
  have K3 : Hid (∀ W0, Below w.heap.size w W0 → SelRow 0 W0.heap.size W0 a3 x.sels ∧ Pow W0) := fun W0 hB => ⟨SelRow.up r3 hB, hp.up hB⟩
  have TS : Hid (Impl_setT x.sels) := impl_setT x.sels 7 g.ok h60
  have lsl := selsP_len x.sels g.ok
  have lsb := bl_size (123 :: selsP x.sels)
  rw [List.length_cons] at lsb
  have lsb : (bl (123 :: selsP x.sels)).size ≤ 60010 := by omega
  have sn := g.nm
  have so := g.on
  have hkind := g.kind
  have gno := g.no
  have gyes := g.yes
  clear r3 g hp lsl h60
  rcases hkind with hk | hk | hk
  · have hkind := hk
    have hon : noB x.on = true := gno (by omega)
    clear gno gyes
    cases hno : noB x.nm
    · have hnm : noB x.nm = false := hno
      have he1 : ¬ x.nm.toList = [] := by unfold noB at hno; rw [List.isEmpty_eq_false_iff] at hno; exact hno
      have hb1 : (x.nm.toList == []) = false := by rw [beq_no]; exact hno
      have hi1 : x.nm.toList.isEmpty = false := hno
      have hon2 := hon
      have he2 : x.on.toList = [] := by unfold noB at hon2; rw [List.isEmpty_iff] at hon2; exact hon2
      have hb2 : (x.on.toList == []) = true := by rw [beq_no]; exact hon
      have hi2 : x.on.toList.isEmpty = true := hon
      have n1 : ¬ (9223372036854775807 < 1 + x.nm.size) := by omega
      have n2 : ¬ (9223372036854775807 < 5 + (1 + x.nm.size)) := by omega
      have n5 : ¬ (9223372036854775807 < 5 + (1 + x.nm.size) + 1) := by omega
      have n6 : ¬ (9223372036854775807 < 5 + (1 + x.nm.size) + 1 + (bl (123 :: selsP x.sels)).size) := by omega
      have HT : Hid ((((⟨#[113, 117, 101, 114, 121]⟩ : ByteArray) ++ ((⟨#[32]⟩ : ByteArray) ++ x.nm)) ++ (⟨#[32]⟩ : ByteArray)) ++ bl (123 :: selsP x.sels) = bl (defP x)) := by
        refine bl_of ?_
        rw [nl_app, nl_app, nl_app, nl_app, nl_bl]
        unfold defP kindP
        rw [hnm, hon]
        simp [nl_lit, hk]
      have g2 : (x.k == 2) = false := by rw [hk]; rfl
      have g3 : (x.k == 3) = false := by rw [hk]; rfl
      clear hno hnm hon hon2 hk hkind lsb sn so
      go_enter Tryz.func30, Tryz.ntmps30
      go_wp2_with fail
      refine (TS.out a3 c3 _ (K3.out _ B0.out).1 (K3.out _ B0.out).2).mono ?_
      rintro e w1 ⟨rfl, hb1⟩
      have Q1 : Hid (Below w.heap.size w w1) := B0.out.trans (hb1.mono (by simp))
      clear hb1
      go_wp2_with fail
      go_ret
      exact ⟨ret_str HT.out, Q1.out⟩
    · have hnm : noB x.nm = true := hno
      have he1 : x.nm.toList = [] := by unfold noB at hno; rw [List.isEmpty_iff] at hno; exact hno
      have hb1 : (x.nm.toList == []) = true := by rw [beq_no]; exact hno
      have hi1 : x.nm.toList.isEmpty = true := hno
      have hon2 := hon
      have he2 : x.on.toList = [] := by unfold noB at hon2; rw [List.isEmpty_iff] at hon2; exact hon2
      have hb2 : (x.on.toList == []) = true := by rw [beq_no]; exact hon
      have hi2 : x.on.toList.isEmpty = true := hon
      have n5 : ¬ (9223372036854775807 < 5 + 1) := by omega
      have n6 : ¬ (9223372036854775807 < 5 + 1 + (bl (123 :: selsP x.sels)).size) := by omega
      have n7 : ¬ (9223372036854775807 < 6 + (bl (123 :: selsP x.sels)).size) := by omega
      have HT : Hid (((⟨#[113, 117, 101, 114, 121]⟩ : ByteArray) ++ (⟨#[32]⟩ : ByteArray)) ++ bl (123 :: selsP x.sels) = bl (defP x)) := by
        refine bl_of ?_
        rw [nl_app, nl_app, nl_bl]
        unfold defP kindP
        rw [hnm, hon]
        simp [nl_lit, hk]
      have g2 : (x.k == 2) = false := by rw [hk]; rfl
      have g3 : (x.k == 3) = false := by rw [hk]; rfl
      clear hno hnm hon hon2 hk hkind lsb sn so
      go_enter Tryz.func30, Tryz.ntmps30
      go_wp2_with fail
      refine (TS.out a3 c3 _ (K3.out _ B0.out).1 (K3.out _ B0.out).2).mono ?_
      rintro e w1 ⟨rfl, hb1⟩
      have Q1 : Hid (Below w.heap.size w w1) := B0.out.trans (hb1.mono (by simp))
      clear hb1
      go_wp2_with fail
      go_ret
      exact ⟨ret_str HT.out, Q1.out⟩
  · have hkind := hk
    have hon : noB x.on = true := gno (by omega)
    clear gno gyes
    cases hno : noB x.nm
    · have hnm : noB x.nm = false := hno
      have he1 : ¬ x.nm.toList = [] := by unfold noB at hno; rw [List.isEmpty_eq_false_iff] at hno; exact hno
      have hb1 : (x.nm.toList == []) = false := by rw [beq_no]; exact hno
      have hi1 : x.nm.toList.isEmpty = false := hno
      have hon2 := hon
      have he2 : x.on.toList = [] := by unfold noB at hon2; rw [List.isEmpty_iff] at hon2; exact hon2
      have hb2 : (x.on.toList == []) = true := by rw [beq_no]; exact hon
      have hi2 : x.on.toList.isEmpty = true := hon
      have n1 : ¬ (9223372036854775807 < 1 + x.nm.size) := by omega
      have n2 : ¬ (9223372036854775807 < 8 + (1 + x.nm.size)) := by omega
      have n5 : ¬ (9223372036854775807 < 8 + (1 + x.nm.size) + 1) := by omega
      have n6 : ¬ (9223372036854775807 < 8 + (1 + x.nm.size) + 1 + (bl (123 :: selsP x.sels)).size) := by omega
      have HT : Hid ((((⟨#[109, 117, 116, 97, 116, 105, 111, 110]⟩ : ByteArray) ++ ((⟨#[32]⟩ : ByteArray) ++ x.nm)) ++ (⟨#[32]⟩ : ByteArray)) ++ bl (123 :: selsP x.sels) = bl (defP x)) := by
        refine bl_of ?_
        rw [nl_app, nl_app, nl_app, nl_app, nl_bl]
        unfold defP kindP
        rw [hnm, hon]
        simp [nl_lit, hk]
      have g2 : (x.k == 2) = true := by rw [hk]; rfl
      have g3 : (x.k == 3) = false := by rw [hk]; rfl
      clear hno hnm hon hon2 hk hkind lsb sn so
      go_enter Tryz.func30, Tryz.ntmps30
      go_wp2_with fail
      refine (TS.out a3 c3 _ (K3.out _ B0.out).1 (K3.out _ B0.out).2).mono ?_
      rintro e w1 ⟨rfl, hb1⟩
      have Q1 : Hid (Below w.heap.size w w1) := B0.out.trans (hb1.mono (by simp))
      clear hb1
      go_wp2_with fail
      go_ret
      exact ⟨ret_str HT.out, Q1.out⟩
    · have hnm : noB x.nm = true := hno
      have he1 : x.nm.toList = [] := by unfold noB at hno; rw [List.isEmpty_iff] at hno; exact hno
      have hb1 : (x.nm.toList == []) = true := by rw [beq_no]; exact hno
      have hi1 : x.nm.toList.isEmpty = true := hno
      have hon2 := hon
      have he2 : x.on.toList = [] := by unfold noB at hon2; rw [List.isEmpty_iff] at hon2; exact hon2
      have hb2 : (x.on.toList == []) = true := by rw [beq_no]; exact hon
      have hi2 : x.on.toList.isEmpty = true := hon
      have n5 : ¬ (9223372036854775807 < 8 + 1) := by omega
      have n6 : ¬ (9223372036854775807 < 8 + 1 + (bl (123 :: selsP x.sels)).size) := by omega
      have n7 : ¬ (9223372036854775807 < 9 + (bl (123 :: selsP x.sels)).size) := by omega
      have HT : Hid (((⟨#[109, 117, 116, 97, 116, 105, 111, 110]⟩ : ByteArray) ++ (⟨#[32]⟩ : ByteArray)) ++ bl (123 :: selsP x.sels) = bl (defP x)) := by
        refine bl_of ?_
        rw [nl_app, nl_app, nl_bl]
        unfold defP kindP
        rw [hnm, hon]
        simp [nl_lit, hk]
      have g2 : (x.k == 2) = true := by rw [hk]; rfl
      have g3 : (x.k == 3) = false := by rw [hk]; rfl
      clear hno hnm hon hon2 hk hkind lsb sn so
      go_enter Tryz.func30, Tryz.ntmps30
      go_wp2_with fail
      refine (TS.out a3 c3 _ (K3.out _ B0.out).1 (K3.out _ B0.out).2).mono ?_
      rintro e w1 ⟨rfl, hb1⟩
      have Q1 : Hid (Below w.heap.size w w1) := B0.out.trans (hb1.mono (by simp))
      clear hb1
      go_wp2_with fail
      go_ret
      exact ⟨ret_str HT.out, Q1.out⟩
  · have hkind := hk
    have hon : noB x.on = false := gyes hk
    clear gno gyes
    cases hno : noB x.nm
    · have hnm : noB x.nm = false := hno
      have he1 : ¬ x.nm.toList = [] := by unfold noB at hno; rw [List.isEmpty_eq_false_iff] at hno; exact hno
      have hb1 : (x.nm.toList == []) = false := by rw [beq_no]; exact hno
      have hi1 : x.nm.toList.isEmpty = false := hno
      have hon2 := hon
      have he2 : ¬ x.on.toList = [] := by unfold noB at hon2; rw [List.isEmpty_eq_false_iff] at hon2; exact hon2
      have hb2 : (x.on.toList == []) = false := by rw [beq_no]; exact hon
      have hi2 : x.on.toList.isEmpty = false := hon
      have n1 : ¬ (9223372036854775807 < 1 + x.nm.size) := by omega
      have n2 : ¬ (9223372036854775807 < 8 + (1 + x.nm.size)) := by omega
      have n3 : ¬ (9223372036854775807 < 4 + x.on.size) := by omega
      have n4 : ¬ (9223372036854775807 < 8 + (1 + x.nm.size) + (4 + x.on.size)) := by omega
      have n5 : ¬ (9223372036854775807 < 8 + (1 + x.nm.size) + (4 + x.on.size) + 1) := by omega
      have n6 : ¬ (9223372036854775807 < 8 + (1 + x.nm.size) + (4 + x.on.size) + 1 + (bl (123 :: selsP x.sels)).size) := by omega
      have HT : Hid (((((⟨#[102, 114, 97, 103, 109, 101, 110, 116]⟩ : ByteArray) ++ ((⟨#[32]⟩ : ByteArray) ++ x.nm)) ++ ((⟨#[32, 111, 110, 32]⟩ : ByteArray) ++ x.on)) ++ (⟨#[32]⟩ : ByteArray)) ++ bl (123 :: selsP x.sels) = bl (defP x)) := by
        refine bl_of ?_
        rw [nl_app, nl_app, nl_app, nl_app, nl_app, nl_app, nl_bl]
        unfold defP kindP
        rw [hnm, hon]
        simp [nl_lit, hk]
      have g2 : (x.k == 2) = false := by rw [hk]; rfl
      have g3 : (x.k == 3) = true := by rw [hk]; rfl
      clear hno hnm hon hon2 hk hkind lsb sn so
      go_enter Tryz.func30, Tryz.ntmps30
      go_wp2_with fail
      refine (TS.out a3 c3 _ (K3.out _ B0.out).1 (K3.out _ B0.out).2).mono ?_
      rintro e w1 ⟨rfl, hb1⟩
      have Q1 : Hid (Below w.heap.size w w1) := B0.out.trans (hb1.mono (by simp))
      clear hb1
      go_wp2_with fail
      go_ret
      exact ⟨ret_str HT.out, Q1.out⟩
    · have hnm : noB x.nm = true := hno
      have he1 : x.nm.toList = [] := by unfold noB at hno; rw [List.isEmpty_iff] at hno; exact hno
      have hb1 : (x.nm.toList == []) = true := by rw [beq_no]; exact hno
      have hi1 : x.nm.toList.isEmpty = true := hno
      have hon2 := hon
      have he2 : ¬ x.on.toList = [] := by unfold noB at hon2; rw [List.isEmpty_eq_false_iff] at hon2; exact hon2
      have hb2 : (x.on.toList == []) = false := by rw [beq_no]; exact hon
      have hi2 : x.on.toList.isEmpty = false := hon
      have n3 : ¬ (9223372036854775807 < 4 + x.on.size) := by omega
      have n4 : ¬ (9223372036854775807 < 8 + (4 + x.on.size)) := by omega
      have n5 : ¬ (9223372036854775807 < 8 + (4 + x.on.size) + 1) := by omega
      have n6 : ¬ (9223372036854775807 < 8 + (4 + x.on.size) + 1 + (bl (123 :: selsP x.sels)).size) := by omega
      have HT : Hid ((((⟨#[102, 114, 97, 103, 109, 101, 110, 116]⟩ : ByteArray) ++ ((⟨#[32, 111, 110, 32]⟩ : ByteArray) ++ x.on)) ++ (⟨#[32]⟩ : ByteArray)) ++ bl (123 :: selsP x.sels) = bl (defP x)) := by
        refine bl_of ?_
        rw [nl_app, nl_app, nl_app, nl_app, nl_bl]
        unfold defP kindP
        rw [hnm, hon]
        simp [nl_lit, hk]
      have g2 : (x.k == 2) = false := by rw [hk]; rfl
      have g3 : (x.k == 3) = true := by rw [hk]; rfl
      clear hno hnm hon hon2 hk hkind lsb sn so
      go_enter Tryz.func30, Tryz.ntmps30
      go_wp2_with fail
      refine (TS.out a3 c3 _ (K3.out _ B0.out).1 (K3.out _ B0.out).2).mono ?_
      rintro e w1 ⟨rfl, hb1⟩
      have Q1 : Hid (Below w.heap.size w w1) := B0.out.trans (hb1.mono (by simp))
      clear hb1
      go_wp2_with fail
      go_ret
      exact ⟨ret_str HT.out, Q1.out⟩
end Go.Proofs.YtomkekgnaeicpaaGreatDoor
