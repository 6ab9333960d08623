/- The specification's CommittedOf. -/
import Derived.Test.YtgnonbghgcpnoaaDoorHiMath
import Derived.Test.YtgnonbghgcpnoaaDoorDocVal
namespace Go.Proofs.YtgnonbghgcpnoaaDoor
open Go.ChangeShapes Go.WideShapes Go.ChangeAt Go.RowKit
set_option linter.unusedVariables false

set_option maxHeartbeats 4000000 in
set_option maxRecDepth 20000 in
theorem spec_his (a : Option Addr) (c : Nat) (l : List Dn) (w : World) (hr : DnRow 0 w.heap.size w a l) (hl : l.length ≤ 1048576) :
    Calls Tryd.prog 20 #[.slice a l.length c] w fun e w' => e = .returned (.bool (hisB l)) ∧ Below w.heap.size w w' := by
  have HR : Hid (DnRow 0 w.heap.size w a l) := hr
  clear hr
  go_enter Tryd.func20, Tryd.ntmps20
  go_wp2_with fail
  go_loopw [3] (fun i w' => ∃ (k : Nat), k ≤ l.length ∧ i = .int .i64 k ∧ Below w.heap.size w w' ∧ Hid (∀ i, i < k → dnA l i = true)) (fun i _ => l.length - (intOf i).toNat)
  case atStart => exact ⟨0, by omega, rfl, Below.refl _ _, fun i h => by omega⟩
  case round =>
    obtain ⟨k, hk, rfl, hb, HA⟩ := hrel
    obtain ⟨wo, rfl⟩ : ∃ x, x = wr := ⟨_, rfl⟩
    have HB : Hid (Below w.heap.size w wo) := hb
    by_cases hlt : k < l.length
    · obtain ⟨g, o, a3, c3, b3, e3, ha, _, hbl, d0, d1, d2, d3x, d4, d5, d6, d7, r1, r2⟩ := DnRow.cells (HR.out.keep (Below.agree hb (Nat.le_refl _))) k hlt
      subst ha
      obtain ⟨x, hx⟩ : ∃ x, x = l[k] := ⟨_, rfl⟩
      have HX : Hid (x = l[k]) := hx
      rw [← hx] at d0 d1 d2 d3x d4 d5 d6 d7
      have HB2 : Hid (Below w.heap.size w (wo.alloc (.cells #[.int .i64 x.id, .int .i64 x.code, .int .i64 x.ts, .int .i64 x.since, .bool x.wr, .slice a3 x.defs.length c3, .slice b3 x.vars.length e3, .string x.t] 54))) := hb.alloc hb.size _
      have HN : Hid (dnB k x = false → false = hisB l) := fun h => (his_not hlt (by rw [← HX.out]; exact h)).symm
      have HY : Hid (dnB k x = true → ∀ i, i < k + 1 → dnA l i = true) := fun h => to_next hlt HA.out (by rw [← HX.out]; exact h)
      clear r1 r2 hx hb
      go_wp2_with fail
      refine (spec_in x.code 0 19 _).mono ?_
      rintro e w1 ⟨rfl, rfl⟩
      cases h1 : inB x.code 0 19
      · have H : Hid (false = hisB l) := HN.out (by unfold dnB; rw [h1]; rfl)
        clear h1 HN HY
        go_wp2_with fail
        go_ret
        exact ⟨ret_b H.out, HB2.out⟩
      have H1 : Hid _ := h1
      clear h1
      go_wp2_with fail
      refine (spec_in x.ts 0 100000 _).mono ?_
      rintro e w1 ⟨rfl, rfl⟩
      cases h2 : inB x.ts 0 100000
      · have H : Hid (false = hisB l) := HN.out (by unfold dnB; rw [H1.out, h2]; rfl)
        clear h2 HN HY
        go_wp2_with fail
        go_ret
        exact ⟨ret_b H.out, HB2.out⟩
      have H2 : Hid _ := h2
      clear h2
      go_wp2_with fail
      refine (spec_in x.since 0 k _).mono ?_
      rintro e w1 ⟨rfl, rfl⟩
      cases h3 : inB x.since 0 k
      · have H : Hid (false = hisB l) := HN.out (by unfold dnB; rw [H1.out, H2.out, h3]; rfl)
        clear h3 HN HY
        go_wp2_with fail
        go_ret
        exact ⟨ret_b H.out, HB2.out⟩
      have H : Hid (∀ i, i < k + 1 → dnA l i = true) := HY.out (by unfold dnB; rw [H1.out, H2.out, h3]; rfl)
      clear h3 HN HY
      go_wp2_with fail
      exact ⟨⟨k + 1, by omega, by go_num, HB2.out, H⟩, by simp [intOf]; omega⟩
    · obtain rfl : k = l.length := by omega
      by_cases h60 : l.length ≤ 60
      · have H : Hid (decide ((l.length : Int) ≤ 60) = hisB l) := by rw [Hid, his_yes h60 HA.out]; exact decide_eq_true (by omega)
        clear hb
        go_wp2_with fail
        go_ret
        exact ⟨ret_b H.out, HB.out⟩
      · have H : Hid (decide ((l.length : Int) ≤ 60) = hisB l) := by rw [Hid, his_many h60]; exact decide_eq_false (by omega)
        clear hb
        go_wp2_with fail
        go_ret
        exact ⟨ret_b H.out, HB.out⟩
set_option maxHeartbeats 4000000 in
theorem spec_comP (a : Option Addr) (c : Nat) (l : List Dn) (w : World) (hr : DnRow 0 w.heap.size w a l) (hl : l.length ≤ 60) :
    Calls Tryd.prog 21 #[.slice a l.length c] w fun e w' => ∃ a' c', e = .returned (.slice a' (comP l l.length).length c') ∧ NuOwn w.heap.size w'.heap.size w' a' (comP l l.length) ∧ Below w.heap.size w w' := by
  have HR : Hid (DnRow 0 w.heap.size w a l) := hr
  clear hr
  go_enter Tryd.func21, Tryd.ntmps21
  go_wp2_with fail
  obtain ⟨V, hV⟩ : ∃ V, V = w.alloc (.cells #[] 3) := ⟨_, rfl⟩
  go_loopw [3, 4] (fun s i w' => ∃ (k : Nat), k ≤ l.length ∧ i = .int .i64 k ∧ Hid (Below w.heap.size w w') ∧ Hid (w'.ownsRow w.heap.size 3 1 s (comP l k).length (nuV (comP l k)))) (fun _ i _ => l.length - (intOf i).toNat)
  case atStart =>
    refine ⟨0, by omega, rfl, ?_, ?_⟩
    · first | exact Below.refl _ _ | exact (Below.refl _ _).alloc (Nat.le_refl _) _
    · first | exact ⟨rfl, .inl ⟨rfl, rfl⟩⟩ | exact ⟨rfl, .inr ⟨w.heap.size, 0, #[], rfl, Nat.le_refl _, heap_alloc_new _ _, by simp, Nat.le_refl _, rfl⟩⟩ | exact ⟨rfl, .inr ⟨w.heap.size, 0, #[], rfl, Nat.le_refl _, heap_alloc_new _ _, by simp [comP, nuV]⟩⟩
  case round =>
    obtain ⟨k, hk, rfl, HB, HO⟩ := hrel
    obtain ⟨wo, rfl⟩ : ∃ x, x = wr := ⟨_, rfl⟩
    have hz := HB.out.size
    have hkl := comP_len l k
    by_cases hlt : k < l.length
    · obtain ⟨g, o, a3, c3, b3, e3, ha, _, hbl, d0, d1, d2, d3x, d4, d5, d6, d7, r1, r2⟩ := DnRow.cells (HR.out.keep (Below.agree HB.out (Nat.le_refl _))) k hlt
      subst ha
      obtain ⟨cd, hcd⟩ : ∃ x, x = l[k].code := ⟨_, rfl⟩
      rw [← hcd] at d1
      have HKS : Hid (comP l (k + 1) = if decide (cd = 0) = true then comP l k ++ [(k : Int)] else comP l k) := by rw [Hid, comP, comA_at hlt, hcd]
      clear r1 r2 d0 d2 d3x d4 d5 d6 d7 hcd
      by_cases hg : cd = 0
      case neg =>
        have HK2 : Hid (comP l (k + 1) = comP l k) := by rw [Hid, HKS.out, decide_eq_false hg]; simp
        have hg' : (cd == 0) = false := by simpa using hg
        clear hg HKS
        go_wp2_with fail
        exact ⟨⟨k + 1, by omega, by go_num, HB.out, by rw [HK2.out]; exact HO⟩, by simp [intOf]; omega⟩
      case pos =>
        have HK2 : Hid (comP l (k + 1) = comP l k ++ [(k : Int)]) := by rw [Hid, HKS.out, decide_eq_true hg]; simp
        subst hg
        clear HKS
        have hbn : Below wo.heap.size wo (wo.alloc (.cells #[.int .i64 (k : Int)] 3)) := (Below.refl _ _).alloc (Nat.le_refl _) _
        obtain ⟨g', cap, W', hrun, o1, o2, o3, o4⟩ := app_num (comP l k) (k : Int) u3 w.heap.size wo.heap.size (wo.alloc (.cells #[.int .i64 (k : Int)] 3)) (own_up HO.out hbn) (heap_alloc_new _ _) (by omega) (by simp; omega)
        have HRUN : Hid _ := hrun
        have Q3 : Hid (Below w.heap.size w W') := (HB.out.alloc (by omega) _).grown o2 (by simp; omega) (fun k hk => (own_in HO.out k hk).1)
        have O3 : Hid (W'.ownsRow w.heap.size 3 1 (.slice (some ⟨g', 0, none⟩) ((comP l k).length + 1) cap) (comP l (k + 1)).length (nuV (comP l (k + 1)))) := by
          rw [Hid, HK2.out]; simpa using o1
        clear hrun o1 o2 o3 o4 hbn HK2
        go_wp2_with (first | (at_builtin; refine wpList_app_run rfl _ _ _ rfl _ _ _ _ rfl rfl HRUN.out ?_) | fail)
        exact ⟨⟨k + 1, by omega, by go_num, Q3.out, O3⟩, by simp [intOf]; omega⟩
    · obtain rfl : k = l.length := by omega
      obtain ⟨a', c', hv, ho⟩ := NuOwn.of HO.out
      have HO2 : Hid _ := ho
      subst hv
      clear ho
      go_wp2_with fail
      go_ret
      exact ⟨a', c', rfl, HO2.out, HB.out⟩
set_option maxHeartbeats 4000000 in
theorem spec_com (a : Option Addr) (c : Nat) (l : List Dn) (w : World) (hr : DnRow 0 w.heap.size w a l) (hl : l.length ≤ 1048576) :
    Calls Tryd.prog 7 #[.slice a l.length c] w fun e w' => ∃ a' c', e = .returned (.tuple #[.slice a' (comR l).length c', .int .i64 (hisC l)]) ∧ NuRow w.heap.size w'.heap.size w' a' (comR l) ∧ Below w.heap.size w w' := by
  have HR : Hid (∀ W0, Below w.heap.size w W0 → DnRow 0 W0.heap.size W0 a l) := fun W0 hB => hr.up hB
  clear hr
  by_cases h1 : 4096 < l.length
  · have HC : Hid (2 = hisC l) := (hisC_long h1).symm
    have HE : Hid (comR l = []) := comR_not (by rw [← HC.out]; decide)
    go_enter Tryd.func7, Tryd.ntmps7
    go_wp2_with fail
    go_ret2
    refine ⟨_, _, ret_nk (by rw [HE.out]; rfl) HC.out, .inl HE.out, ?_⟩
    first | exact Below.refl _ _ | exact (Below.refl _ _).alloc (Nat.le_refl _) _
  go_enter Tryd.func7, Tryd.ntmps7
  go_wp2_with fail
  refine (spec_his a c l _ (HR.out _ (Below.refl _ _)) hl).mono ?_
  rintro e w1 ⟨rfl, hb1⟩
  have Q1 : Hid (Below w.heap.size w w1) := hb1
  have z1 := hb1.size
  clear hb1
  cases hh : hisB l
  · have HC : Hid (1 = hisC l) := (hisC_bad hh h1).symm
    have HE : Hid (comR l = []) := comR_not (by rw [← HC.out]; decide)
    clear hh
    go_wp2_with fail
    go_ret2
    refine ⟨_, _, ret_nk (by rw [HE.out]; rfl) HC.out, .inl HE.out, ?_⟩
    first | exact Q1.out | exact Q1.out.alloc z1 _
  have HC : Hid (0 = hisC l) := (hisC_ok hh).symm
  have HE : Hid (comR l = comP l l.length) := comR_ok (hisC_ok hh)
  have h60 := his_len hh
  clear hh
  go_wp2_with fail
  refine (spec_comP a c l _ (HR.out _ Q1.out) h60).mono ?_
  rintro e w2 ⟨a2, c2, rfl, o2, hb2⟩
  have O2 : Hid _ := o2
  have Q2 : Hid (Below w.heap.size w w2) := Q1.out.trans (hb2.mono z1)
  clear o2 hb2
  go_wp2_with fail
  go_ret2
  have hv : Value.slice a2 (comP l l.length).length c2 = .slice a2 (comR l).length c2 := by rw [HE.out]
  have hf : NuRow w.heap.size w2.heap.size w2 a2 (comR l) := by rw [HE.out]; exact Row.wide (NuOwn.row O2.out) z1 (Nat.le_refl _)
  first | exact ⟨a2, c2, ret_nk hv HC.out, hf, Q2.out⟩ | exact ⟨a2, ⟨c2, ret_nk hv HC.out⟩, hf, Q2.out⟩
end Go.Proofs.YtgnonbghgcpnoaaDoor
