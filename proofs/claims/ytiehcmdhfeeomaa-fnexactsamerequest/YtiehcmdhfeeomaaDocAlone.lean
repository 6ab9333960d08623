/- The program's test of a selection alone. -/
import Derived.Test.YtiehcmdhfeeomaaDocImplTwo
namespace Go.Proofs.Ytiehcmdhfeeomaa
open Go.ChangeShapes Go.WideShapes Go.ChangeAt Go.RowKit
set_option linter.unusedVariables false

theorem not_nil {α : Type} {l : List α} (h : ¬ l.length = 0) : l.isEmpty = false := by
  cases l with
  | nil => exact absurd rfl h
  | cons _ _ => rfl
set_option maxHeartbeats 4000000 in
set_option maxRecDepth 40000 in
theorem impl_alone (h : Hd) (n : Nat) (a1 a2 a3 : Option Addr) (c1 c2 c3 : Nat) (w : World) (r1 : ArRow 0 w.heap.size w a1 h.args) (r2 : DiRow 0 w.heap.size w a2 h.dirs) (hb : HdBd 1048576 h) (hn : n ≤ 1048576) :
    Calls Try.prog 62 #[.agg #[.int .i64 h.k, .string h.al, .string h.nm, .slice a1 h.args.length c1, .slice a2 h.dirs.length c2, .slice a3 n c3]] w fun e w' =>
      e = .returned (.bool (hdB h (decide (n = 0)))) ∧ Below w.heap.size w w' := by
  obtain ⟨x1, x2, x3, x4, x5, x6⟩ := hb
  have B0 : Below w.heap.size w (w.alloc (.cells #[.int .i64 h.k, .string h.al, .string h.nm, .slice a1 h.args.length c1, .slice a2 h.dirs.length c2, .slice a3 n c3] 108)) := (Below.refl _ _).alloc (Nat.le_refl _) _
  have R1 : Hid (ArRow 0 _ _ a1 h.args) := Row.up r1 B0
  have R2 : Hid (DiRow 0 _ _ a2 h.dirs) := Row.up r2 B0
  have H4 : Hid (∀ x ∈ h.args, ArBd 1048576 x) := x4
  have H6 : Hid (∀ x ∈ h.dirs, DiBd 1048576 x) := x6
  have HB : Hid _ := B0
  have sn : h.nm.size ≤ maxLen := by unfold maxLen; omega
  have sa : h.al.size ≤ maxLen := by unfold maxLen; omega
  clear r1 r2 x4 x6 B0
  go_enter Try.func62, Try.ntmps62
  go_wp2_with fail
  refine (impl_args a1 c1 h.args _ R1.out x3 H4.out).mono ?_
  cases ba : argsB h.args
  · rintro e w1 ⟨rfl, hb1⟩
    have HN : Hid (false = hdB h (decide (n = 0))) := by simp [Hid, hdB, ba]
    go_wp2_with fail
    go_ret
    exact ⟨ret_bool HN.out, HB.out.trans (hb1.mono (by simp))⟩
  rintro e w1 ⟨rfl, hb1⟩
  have k1 := fun o => hb1.cell (p := ⟨w.heap.size, o, none⟩) (by simp)
  have Q1 : Hid (Below w.heap.size w w1) := HB.out.trans (hb1.mono (by simp))
  have R3 : Hid (DiRow 0 w1.heap.size w1 a2 h.dirs) := Row.up R2.out hb1
  have hz1 : w.heap.size + 1 ≤ w1.heap.size := size_one hb1
  clear hb1
  go_wp2_with fail
  refine (impl_dirs a2 c2 h.dirs _ R3.out x5 H6.out).mono ?_
  cases bd : dirsB h.dirs
  · rintro e w2 ⟨rfl, hb2⟩
    have HN : Hid (false = hdB h (decide (n = 0))) := by simp [Hid, hdB, bd]
    go_wp2_with fail
    go_ret
    exact ⟨ret_bool HN.out, Q1.out.trans (hb2.mono Q1.out.size)⟩
  rintro e w2 ⟨rfl, hb2⟩
  have k2 := fun o => (hb2.cell (p := ⟨w.heap.size, o, none⟩) (by simp <;> omega)).trans (k1 o)
  have Q2 : Hid (Below w.heap.size w w2) := Q1.out.trans (hb2.mono Q1.out.size)
  have hz2 : w.heap.size + 1 ≤ w2.heap.size := by have := hb2.size; omega
  have HT : Hid (hdB h (decide (n = 0)) = kindB h (decide (n = 0))) := by simp [Hid, hdB, ba, bd]
  clear hb2 k1 Q1 R1 R2 R3 H4 H6 HB hz1 ba bd x1 x2
  by_cases h1 : h.k = 1
  · have HK : Hid (kindB h (decide (n = 0)) = (nameB h.nm && (noB h.al || nameB h.al))) := by unfold Hid kindB; rw [if_pos h1]
    go_wp2_with fail
    refine (impl_nameOK h.nm _ sn).mono ?_
    cases bn : nameB h.nm
    · rintro e w3 ⟨rfl, hb3⟩
      have HN : Hid (false = hdB h (decide (n = 0))) := by rw [Hid, HT.out, HK.out, bn]; rfl
      clear HT HK
      go_wp2_with fail
      go_ret
      exact ⟨ret_bool HN.out, Q2.out.trans (hb3.mono Q2.out.size)⟩
    · rintro e w3 ⟨rfl, hb3⟩
      have k3 := fun o => (hb3.cell (p := ⟨w.heap.size, o, none⟩) (by simp <;> omega)).trans (k2 o)
      have Q3 : Hid (Below w.heap.size w w3) := Q2.out.trans (hb3.mono Q2.out.size)
      have HN : Hid ((noB h.al || nameB h.al) = hdB h (decide (n = 0))) := by rw [Hid, HT.out, HK.out, bn]; rfl
      clear HT HK hb3
      go_wp2_with fail
      refine (impl_none h.al _ sa).mono ?_
      rintro e w4 ⟨rfl, hb4⟩
      go_wp2_with fail
      go_ret
      exact ⟨ret_bool HN.out, Q3.out.trans (hb4.mono Q3.out.size)⟩
  have m1 : (h.k == 1) = false := by rw [beq_eq_false_iff_ne]; omega
  by_cases h2 : h.k = 2
  · have HK : Hid (kindB h (decide (n = 0)) = ((!onB h.nm && nameB h.nm) && noB h.al && h.args.isEmpty && decide (n = 0))) := by
      unfold Hid kindB; rw [if_neg h1, if_pos h2]
      cases onB h.nm <;> cases nameB h.nm <;> rfl
    clear m1 h1
    go_wp2_with fail
    refine (impl_frag h.nm _ sn).mono ?_
    cases bn : (!onB h.nm && nameB h.nm)
    · rintro e w3 ⟨rfl, hb3⟩
      have HN : Hid (false = hdB h (decide (n = 0))) := by rw [Hid, HT.out, HK.out, bn]; rfl
      clear HT HK
      go_wp2_with fail
      go_ret
      exact ⟨ret_bool HN.out, Q2.out.trans (hb3.mono Q2.out.size)⟩
    rintro e w3 ⟨rfl, hb3⟩
    have k3 := fun o => (hb3.cell (p := ⟨w.heap.size, o, none⟩) (by simp <;> omega)).trans (k2 o)
    have Q3 : Hid (Below w.heap.size w w3) := Q2.out.trans (hb3.mono Q2.out.size)
    clear hb3
    by_cases hz : h.al.toList = []
    · by_cases ha : h.args.length = 0
      · by_cases hn0 : n = 0
        · have HN : Hid (true = hdB h (decide (n = 0))) := by rw [Hid, HT.out, HK.out, bn, no_of hz, List.length_eq_zero_iff.1 ha, decide_eq_true hn0]; rfl
          clear HT HK
          go_wp2_with fail
          go_ret
          exact ⟨ret_bool HN.out, Q3.out⟩
        · have HN : Hid (false = hdB h (decide (n = 0))) := by rw [Hid, HT.out, HK.out, decide_eq_false hn0]; simp
          have hn1 : ((n : Int) == 0) = false := by rw [beq_eq_false_iff_ne]; omega
          clear HT HK
          go_wp2_with fail
          go_ret
          exact ⟨ret_bool HN.out, Q3.out⟩
      · have HN : Hid (false = hdB h (decide (n = 0))) := by rw [Hid, HT.out, HK.out, not_nil ha]; simp
        clear HT HK
        go_wp2_with fail
        go_ret
        exact ⟨ret_bool HN.out, Q3.out⟩
    · have HN : Hid (false = hdB h (decide (n = 0))) := by rw [Hid, HT.out, HK.out, no_not hz]; simp
      clear HT HK
      go_wp2_with fail
      go_ret
      exact ⟨ret_bool HN.out, Q3.out⟩
  have m2 : (h.k == 2) = false := by rw [beq_eq_false_iff_ne]; omega
  by_cases h3 : h.k = 3
  · have HK : Hid (kindB h (decide (n = 0)) = ((noB h.nm || nameB h.nm) && noB h.al && h.args.isEmpty && !decide (n = 0))) := by unfold Hid kindB; rw [if_neg h1, if_neg h2, if_pos h3]
    clear m1 h1 m2 h2
    go_wp2_with fail
    refine (impl_none h.nm _ sn).mono ?_
    cases bn : (noB h.nm || nameB h.nm)
    · rintro e w3 ⟨rfl, hb3⟩
      have HN : Hid (false = hdB h (decide (n = 0))) := by rw [Hid, HT.out, HK.out, bn]; rfl
      clear HT HK
      go_wp2_with fail
      go_ret
      exact ⟨ret_bool HN.out, Q2.out.trans (hb3.mono Q2.out.size)⟩
    rintro e w3 ⟨rfl, hb3⟩
    have k3 := fun o => (hb3.cell (p := ⟨w.heap.size, o, none⟩) (by simp <;> omega)).trans (k2 o)
    have Q3 : Hid (Below w.heap.size w w3) := Q2.out.trans (hb3.mono Q2.out.size)
    clear hb3
    by_cases hz : h.al.toList = []
    · by_cases ha : h.args.length = 0
      · have HN : Hid ((!decide (n = 0)) = hdB h (decide (n = 0))) := by rw [Hid, HT.out, HK.out, bn, no_of hz, List.length_eq_zero_iff.1 ha]; simp
        clear HT HK
        go_wp2_with fail
        go_ret
        exact ⟨ret_bool (by rw [← HN.out, Bool.eq_iff_iff]; simp; omega), Q3.out⟩
      · have HN : Hid (false = hdB h (decide (n = 0))) := by rw [Hid, HT.out, HK.out, not_nil ha]; simp
        clear HT HK
        go_wp2_with fail
        go_ret
        exact ⟨ret_bool HN.out, Q3.out⟩
    · have HN : Hid (false = hdB h (decide (n = 0))) := by rw [Hid, HT.out, HK.out, no_not hz]; simp
      clear HT HK
      go_wp2_with fail
      go_ret
      exact ⟨ret_bool HN.out, Q3.out⟩
  have m3 : (h.k == 3) = false := by rw [beq_eq_false_iff_ne]; omega
  have HN : Hid (false = hdB h (decide (n = 0))) := by rw [Hid, HT.out]; unfold kindB; rw [if_neg h1, if_neg h2, if_neg h3]
  clear h1 h2 h3 HT
  go_wp2_with fail
  go_ret
  exact ⟨ret_bool HN.out, Q2.out⟩
end Go.Proofs.Ytiehcmdhfeeomaa
