/- The specification's holding of documents against each other: by their texts. -/
import Derived.Test.YtiehcmdhfeeomaaDocSameFour
import Derived.Deep.RegionWith
namespace Go.Proofs.Ytiehcmdhfeeomaa
open Go.ChangeShapes Go.WideShapes Go.ChangeAt Go.RowKit
set_option linter.unusedVariables false

theorem spec_doc_yes (a : Option Addr) (c : Nat) (l : List De) (w : World) (hr : DeRow 0 w.heap.size w a l) (hb : DefsBd 1048576 l) (h : docB l = true) :
    Calls Try.prog 21 #[.agg #[.slice a l.length c]] w fun e w' => e = .returned (.bool true) ∧ Below w.heap.size w w' := by
  refine (spec_doc a c l w hr hb.1 hb.2).mono ?_
  rw [h]
  exact fun e w' hh => hh
theorem spec_doc_no (a : Option Addr) (c : Nat) (l : List De) (w : World) (hr : DeRow 0 w.heap.size w a l) (hb : DefsBd 1048576 l) (h : ¬ docB l = true) :
    Calls Try.prog 21 #[.agg #[.slice a l.length c]] w fun e w' => e = .returned (.bool false) ∧ Below w.heap.size w w' := by
  refine (spec_doc a c l w hr hb.1 hb.2).mono ?_
  rw [Bool.not_eq_true] at h
  rw [h]
  exact fun e w' hh => hh
theorem spec_print_t (a : Option Addr) (c : Nat) (l : List De) (w : World) (hr : DeRow 0 w.heap.size w a l) (hb : DefsBd 1048576 l) (h : docB l = true) :
    Calls Try.prog 22 #[.agg #[.slice a l.length c]] w fun e w' => ∃ t, e = .returned (.string t) ∧ nl t = docP l ∧ Below w.heap.size w w' := by
  refine (spec_docPrint a c l w hr (doc_all h).1 (doc_all h).2).mono ?_
  rintro e w' ⟨rfl, hb⟩
  exact ⟨_, rfl, nl_bl _, hb⟩
set_option maxHeartbeats 4000000 in
set_option maxRecDepth 40000 in
theorem spec_same (a a' : Option Addr) (c c' : Nat) (l l' : List De) (w : World) (hr : DeRow 0 w.heap.size w a l) (hr' : DeRow 0 w.heap.size w a' l') (hb : DefsBd 1048576 l) (hb' : DefsBd 1048576 l') :
    Calls Try.prog 7 #[.agg #[.slice a l.length c], .agg #[.slice a' l'.length c']] w fun e w' => Says (BothSame l l') e ∧ Below w.heap.size w w' := by
  have K3 : Hid (∀ W0, Below w.heap.size w W0 → DeRow 0 W0.heap.size W0 a l ∧ DeRow 0 W0.heap.size W0 a' l') := fun W0 hB => ⟨DeRow.up hr hB, DeRow.up hr' hB⟩
  have HX : Hid (DefsBd 1048576 l) := hb
  have HY : Hid (DefsBd 1048576 l') := hb'
  clear hr hr' hb hb'
  have c0 : ((w.alloc (.cells #[.slice a l.length c] 29)).alloc (.cells #[.slice a' l'.length c'] 29)).cell? ⟨w.heap.size, 0, none⟩ = some (.slice a l.length c) := by simp
  have e0 : ((w.alloc (.cells #[.slice a l.length c] 29)).alloc (.cells #[.slice a' l'.length c'] 29)).cell? ⟨w.heap.size + 1, 0, none⟩ = some (.slice a' l'.length c') := by simp
  have P0 : Hid (Below w.heap.size w ((w.alloc (.cells #[.slice a l.length c] 29)).alloc (.cells #[.slice a' l'.length c'] 29))) := ((Below.refl _ _).alloc (Nat.le_refl _) _).alloc (by simp) _
  have z0 : w.heap.size + 2 ≤ ((w.alloc (.cells #[.slice a l.length c] 29)).alloc (.cells #[.slice a' l'.length c'] 29)).heap.size := by simp
  by_cases h1 : docB l = true
  case neg =>
    have HN : Hid (¬ (BothSame l l')) := fun h => h1 h.1
    go_enter Try.func7, Try.ntmps7
    go_wp2_with fail
    generalize (w.alloc (.cells #[.slice a l.length c] 29)).alloc (.cells #[.slice a' l'.length c'] 29) = W at *
    go_region_with (
      go_at_call 21
      refine Calls.mono (spec_doc_no a c l _ (K3.out _ ?hb).1 HX.out h1) ?_
      case hb => exact P0.out.drew
      rintro e w1 ⟨rfl, hb1⟩
      have P1 : Hid (Below w.heap.size w w1) := P0.out.drew.trans (hb1.mono (by have : W.drew.heap.size = W.heap.size := rfl; omega))
      clear hb1)
    all_goals
      go_wp2_with fail
      go_ret
      exact ⟨Says.no HN.out, P1.out⟩
  by_cases h2 : docB l' = true
  case neg =>
    have HN : Hid (¬ (BothSame l l')) := fun h => h2 h.2.1
    go_enter Try.func7, Try.ntmps7
    go_wp2_with fail
    generalize (w.alloc (.cells #[.slice a l.length c] 29)).alloc (.cells #[.slice a' l'.length c'] 29) = W at *
    go_region_with (first
      | (go_at_call_of 21 l
         refine Calls.mono (spec_doc_yes a c l _ (K3.out _ ?hb).1 HX.out h1) ?_
         case hb => exact P0.out.drew
         rintro e w1 ⟨rfl, hb1⟩
         have P1 : Hid (Below w.heap.size w w1) := P0.out.drew.trans (hb1.mono (by have : W.drew.heap.size = W.heap.size := rfl; omega))
         have e1 : w1.cell? ⟨w.heap.size + 1, 0, none⟩ = some (.slice a' l'.length c') := (hb1.cell (p := ⟨w.heap.size + 1, 0, none⟩) (show w.heap.size + 1 < W.heap.size by omega)).trans e0
         clear hb1)
      | (go_at_call_of 21 l'
         refine Calls.mono (spec_doc_no a' c' l' _ (K3.out _ ?hb).2 HY.out h2) ?_
         case hb => exact P1.out
         rintro e w2 ⟨rfl, hb2⟩
         have P2 : Hid (Below w.heap.size w w2) := P1.out.trans (hb2.mono P1.out.size)
         clear hb2))
    all_goals
      go_wp2_with fail
      go_ret
      exact ⟨Says.no HN.out, P2.out⟩
  go_enter Try.func7, Try.ntmps7
  go_wp2_with fail
  generalize (w.alloc (.cells #[.slice a l.length c] 29)).alloc (.cells #[.slice a' l'.length c'] 29) = W at *
  go_region_with (first
    | (go_at_call_of 21 l
       refine Calls.mono (spec_doc_yes a c l _ (K3.out _ ?hb).1 HX.out h1) ?_
       case hb => exact P0.out.drew
       rintro e w1 ⟨rfl, hb1⟩
       have P1 : Hid (Below w.heap.size w w1) := P0.out.drew.trans (hb1.mono (by have : W.drew.heap.size = W.heap.size := rfl; omega))
       have z1 : w.heap.size + 2 ≤ w1.heap.size := by have := hb1.size; have : W.drew.heap.size = W.heap.size := rfl; omega
       have c1 : w1.cell? ⟨w.heap.size, 0, none⟩ = some (.slice a l.length c) := (hb1.cell (p := ⟨w.heap.size, 0, none⟩) (show w.heap.size < W.heap.size by omega)).trans c0
       have e1 : w1.cell? ⟨w.heap.size + 1, 0, none⟩ = some (.slice a' l'.length c') := (hb1.cell (p := ⟨w.heap.size + 1, 0, none⟩) (show w.heap.size + 1 < W.heap.size by omega)).trans e0
       clear hb1)
    | (go_at_call_of 21 l'
       refine Calls.mono (spec_doc_yes a' c' l' _ (K3.out _ ?hb).2 HY.out h2) ?_
       case hb => exact P1.out
       rintro e w2 ⟨rfl, hb2⟩
       have P2 : Hid (Below w.heap.size w w2) := P1.out.trans (hb2.mono P1.out.size)
       have z2 : w.heap.size + 2 ≤ w2.heap.size := by have := hb2.size; omega
       have c2 : w2.cell? ⟨w.heap.size, 0, none⟩ = some (.slice a l.length c) := (hb2.cell (p := ⟨w.heap.size, 0, none⟩) (show w.heap.size < w1.heap.size by omega)).trans c1
       have e2 : w2.cell? ⟨w.heap.size + 1, 0, none⟩ = some (.slice a' l'.length c') := (hb2.cell (p := ⟨w.heap.size + 1, 0, none⟩) (show w.heap.size + 1 < w1.heap.size by omega)).trans e1
       clear hb2)
    | (go_at_call_of 22 l
       refine Calls.mono (spec_print_t a c l _ (K3.out _ ?hb).1 HX.out h1) ?_
       case hb => exact P2.out
       rintro e w3 ⟨t, rfl, ht, hb3⟩
       have HT : Hid (nl t = docP l) := ht
       have P3 : Hid (Below w.heap.size w w3) := P2.out.trans (hb3.mono P2.out.size)
       have z3 : w.heap.size + 2 ≤ w3.heap.size := by have := hb3.size; omega
       have e3 : w3.cell? ⟨w.heap.size + 1, 0, none⟩ = some (.slice a' l'.length c') := (hb3.cell (p := ⟨w.heap.size + 1, 0, none⟩) (show w.heap.size + 1 < w2.heap.size by omega)).trans e2
       clear hb3 ht)
    | (go_at_call_of 22 l'
       refine Calls.mono (spec_print_t a' c' l' _ (K3.out _ ?hb).2 HY.out h2) ?_
       case hb => exact P3.out
       rintro e w4 ⟨u, rfl, hu, hb4⟩
       have HU : Hid (nl u = docP l') := hu
       have P4 : Hid (Below w.heap.size w w4) := P3.out.trans (hb4.mono P3.out.size)
       clear hb4 hu))
  all_goals
    cases he : (t.toList == u.toList)
    · have HN : Hid (¬ (BothSame l l')) := fun h => by
        have h3 := HT.out
        rw [h.2.2, ← HU.out] at h3
        exact str_ne he (nl_inj h3)
      go_wp2_with fail
      go_ret
      exact ⟨Says.no HN.out, P4.out⟩
    · have HN : Hid (BothSame l l') := ⟨h1, h2, doc_inj h1 h2 (by rw [← HT.out, ← HU.out, str_eq he])⟩
      go_wp2_with fail
      go_ret
      exact ⟨Says.yes HN.out, P4.out⟩
end Go.Proofs.Ytiehcmdhfeeomaa
