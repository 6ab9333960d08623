/- The program's test of a set: it takes its room. -/
import Derived.Test.YtajjaddlalbnmaaDocSpec
import Derived.Test.YtajjaddlalbnmaaDocTo
namespace Go.Proofs.Ytajjaddlalbnmaa
open Go.ChangeShapes Go.WideShapes Go.ChangeAt Go.RowKit
set_option linter.unusedVariables false

set_option maxHeartbeats 1000000 in
theorem impl_none (s : ByteArray) (w : World) (hs : s.size ≤ maxLen) :
    Calls Try.prog 30 #[.string s] w fun e w' => e = .returned (.bool (noB s || nameB s)) ∧ Below w.heap.size w w' := by
  by_cases hz : s.toList = []
  · have HN : Hid (true = (noB s || nameB s)) := by rw [Hid, no_of hz]; rfl
    go_enter Try.func30, Try.ntmps30
    go_wp2_with fail
    go_ret
    exact ⟨ret_bool HN.out, Below.refl _ _⟩
  · have hz2 : (s.toList == []) = false := by simpa using hz
    have NZ : Hid (noB s = false) := no_not hz
    go_enter Try.func30, Try.ntmps30
    go_wp2_with fail
    refine (impl_nameOK s _ hs).mono ?_
    rintro e w1 ⟨rfl, hb1⟩
    go_wp2_with fail
    go_ret
    exact ⟨ret_bool (by first | (rw [NZ.out]; rfl) | (rw [NZ.out, show s.toList.isEmpty = false from NZ.out])), hb1⟩
set_option maxHeartbeats 1000000 in
theorem impl_frag (s : ByteArray) (w : World) (hs : s.size ≤ maxLen) :
    Calls Try.prog 31 #[.string s] w fun e w' => e = .returned (.bool (!onB s && nameB s)) ∧ Below w.heap.size w w' := by
  cases ho : onB s
  · have ho2 : (s.toList == [111, 110]) = false := ho
    go_enter Try.func31, Try.ntmps31
    go_wp2_with fail
    refine (impl_nameOK s _ hs).mono ?_
    rintro e w1 ⟨rfl, hb1⟩
    go_wp2_with fail
    go_ret
    exact ⟨ret_bool (by simp), hb1⟩
  · have ho2 : (s.toList == [111, 110]) = true := ho
    go_enter Try.func31, Try.ntmps31
    go_wp2_with fail
    go_ret
    exact ⟨ret_bool (by simp), Below.refl _ _⟩
set_option maxHeartbeats 1000000 in
theorem impl_args (a : Option Addr) (c : Nat) (l : List Ar) (w : World) (hr : ArRow 0 w.heap.size w a l) (hl : l.length ≤ 1048576) (ht : ∀ x ∈ l, ArBd 1048576 x) :
    Calls Try.prog 51 #[.slice a l.length c] w fun e w' => e = .returned (.bool (argsB l)) ∧ Below w.heap.size w w' := by
  by_cases h4 : 4 < l.length
  · have HN : Hid (false = argsB l) := by
      have : ¬ l.length ≤ 4 := by omega
      simp [Hid, argsB, this]
    go_enter Try.func51, Try.ntmps51
    go_wp2_with fail
    go_ret
    exact ⟨ret_bool HN.out, Below.refl _ _⟩
  have HE : Hid (argsB l = l.all arB) := by
    have : l.length ≤ 4 := by omega
    simp [Hid, argsB, this]
  have HR : Hid (ArRow 0 w.heap.size w a l) := hr
  have HT : Hid (∀ x ∈ l, ArBd 1048576 x) := ht
  clear hr ht
  go_enter Try.func51, Try.ntmps51
  go_wp2_with fail
  go_loopw [10] (fun i w' => ∃ (k : Nat), k ≤ l.length ∧ i = .int .i64 k ∧ Below w.heap.size w w' ∧ Hid ((l.take k).all arB = true)) (fun i _ => l.length - (intOf i).toNat)
  case atStart => exact ⟨0, by omega, rfl, Below.refl _ _, rfl⟩
  case round =>
    rename_i wr
    obtain ⟨k, hk, rfl, hb, HA⟩ := hrel
    by_cases hlt : k < l.length
    · obtain ⟨b, o, ha, _, hbl, d0, d1, d2, d3⟩ := Row.cells_ar (Row.keep HR.out (Below.agree hb (Nat.le_refl _))) k hlt
      subst ha
      have HX : Hid (ArBd 1048576 l[k]) := HT.out l[k] (List.getElem_mem hlt)
      have sx : l[k].nm.size ≤ maxLen := by have := HX.out.1; unfold maxLen; omega
      cases hm : nameB l[k].nm
      · have HN : Hid (false = argsB l) := by rw [Hid, HE.out, all_no_b hlt (by simp [arB, hm])]
        go_wp2_with fail
        refine (impl_nameOK l[k].nm _ sx).mono ?_
        rw [hm]
        rintro e w1 ⟨rfl, hb1⟩
        have q1 : Hid (Below w.heap.size w w1) := by
          refine hb.trans (Below.trans ?_ (hb1.mono (by have := hb.size; simp <;> omega)))
          repeat (first | exact Below.refl _ _ | refine Below.setCell ?_ (by have := hb.size; simp <;> omega) _ | refine Below.alloc ?_ (by have := hb.size; simp <;> omega) _)
        go_wp2_with fail
        go_ret
        exact ⟨ret_bool HN.out, q1.out⟩
      · go_wp2_with fail
        refine (impl_nameOK l[k].nm _ sx).mono ?_
        rw [hm]
        rintro e w1 ⟨rfl, hb1⟩
        have hz1 : wr.heap.size + 1 ≤ w1.heap.size := by have := hb1.size; simpa using this
        have q1 : Below w.heap.size w w1 := by
          refine hb.trans (Below.trans ?_ (hb1.mono (by have := hb.size; simp <;> omega)))
          repeat (first | exact Below.refl _ _ | refine Below.setCell ?_ (by have := hb.size; simp <;> omega) _ | refine Below.alloc ?_ (by have := hb.size; simp <;> omega) _)
        have Q1 : Hid _ := q1
        have k0 := fun o => hb1.cell (p := ⟨wr.heap.size, o, none⟩) (by simp <;> omega)
        clear hb1 q1
        go_wp2_with fail
        refine (impl_val l[k].v _ (by have := HX.out.2; unfold maxLen; omega)).mono ?_
        cases hv : valB l[k].v
        · rintro e w2 ⟨rfl, hb2⟩
          have HN : Hid (false = argsB l) := by rw [Hid, HE.out, all_no_b hlt (by simp [arB, hv])]
          go_wp2_with fail
          go_ret
          exact ⟨ret_bool HN.out, Q1.out.trans (hb2.mono Q1.out.size)⟩
        · rintro e w2 ⟨rfl, hb2⟩
          go_wp2_with fail
          go_roundw
          case rel => exact ⟨k + 1, by omega, by go_num, Q1.out.trans (hb2.mono Q1.out.size), all_take_b hlt HA.out (by simp [arB, hm, hv])⟩
          case measure => simp [intOf]; omega
    · have HN : Hid (true = argsB l) := by
        have := HA.out
        rw [List.take_of_length_le (by omega)] at this
        rw [Hid, HE.out, this]
      go_wp2_with fail
      go_ret
      exact ⟨ret_bool HN.out, hb⟩
end Go.Proofs.Ytajjaddlalbnmaa
namespace Go.Proofs.Ytajjaddlalbnmaa
open Go.ChangeShapes Go.WideShapes Go.ChangeAt Go.RowKit
set_option linter.unusedVariables false

theorem below_one {w w1 : World} {o : Obj} (h : Below (w.alloc o).heap.size (w.alloc o) w1) : Below w.heap.size w w1 := ((Below.refl _ _).alloc (Nat.le_refl _) _).trans (h.mono (by simp))
set_option maxHeartbeats 1000000 in
theorem impl_dirs (a : Option Addr) (c : Nat) (l : List Di) (w : World) (hr : DiRow 0 w.heap.size w a l) (hl : l.length ≤ 1048576) (ht : ∀ x ∈ l, DiBd 1048576 x) :
    Calls Try.prog 52 #[.slice a l.length c] w fun e w' => e = .returned (.bool (dirsB l)) ∧ Below w.heap.size w w' := by
  by_cases h4 : 4 < l.length
  · have HN : Hid (false = dirsB l) := by
      have : ¬ l.length ≤ 4 := by omega
      simp [Hid, dirsB, this]
    go_enter Try.func52, Try.ntmps52
    go_wp2_with fail
    go_ret
    exact ⟨ret_bool HN.out, Below.refl _ _⟩
  have HE : Hid (dirsB l = l.all diB) := by
    have : l.length ≤ 4 := by omega
    simp [Hid, dirsB, this]
  have HR : Hid (DiRow 0 w.heap.size w a l) := hr
  have HT : Hid (∀ x ∈ l, DiBd 1048576 x) := ht
  clear hr ht
  go_enter Try.func52, Try.ntmps52
  go_wp2_with fail
  go_loopw [10] (fun i w' => ∃ (k : Nat), k ≤ l.length ∧ i = .int .i64 k ∧ Below w.heap.size w w' ∧ Hid ((l.take k).all diB = true)) (fun i _ => l.length - (intOf i).toNat)
  case atStart => exact ⟨0, by omega, rfl, Below.refl _ _, rfl⟩
  case round =>
    rename_i wr
    obtain ⟨k, hk, rfl, hb, HA⟩ := hrel
    by_cases hlt : k < l.length
    · obtain ⟨b, o, ha, _, hbl, d0, d1, d2, d3⟩ := Row.cells_di (Row.keep HR.out (Below.agree hb (Nat.le_refl _))) k hlt
      subst ha
      have HX : Hid (DiBd 1048576 l[k]) := HT.out l[k] (List.getElem_mem hlt)
      go_wp2_with fail
      refine (impl_val l[k].v _ (by have := HX.out; unfold DiBd at this; unfold maxLen; omega)).mono ?_
      cases hv : valB l[k].v
      · rintro e w1 ⟨rfl, hb1⟩
        have HN : Hid (false = dirsB l) := by rw [Hid, HE.out, all_no_b hlt (by simp [diB, hv])]
        have q1 : Hid (Below w.heap.size w w1) := by
          refine hb.trans (Below.trans ?_ (hb1.mono (by have := hb.size; simp <;> omega)))
          repeat (first | exact Below.refl _ _ | refine Below.setCell ?_ (by have := hb.size; simp <;> omega) _ | refine Below.alloc ?_ (by have := hb.size; simp <;> omega) _)
        go_wp2_with fail
        go_ret
        exact ⟨ret_bool HN.out, q1.out⟩
      · rintro e w1 ⟨rfl, hb1⟩
        have q1 : Below w.heap.size w w1 := by
          refine hb.trans (Below.trans ?_ (hb1.mono (by have := hb.size; simp <;> omega)))
          repeat (first | exact Below.refl _ _ | refine Below.setCell ?_ (by have := hb.size; simp <;> omega) _ | refine Below.alloc ?_ (by have := hb.size; simp <;> omega) _)
        go_wp2_with fail
        go_roundw
        case rel => exact ⟨k + 1, by omega, by go_num, q1, all_take_b hlt HA.out (by simp [diB, hv])⟩
        case measure => simp [intOf]; omega
    · have HN : Hid (true = dirsB l) := by
        have := HA.out
        rw [List.take_of_length_le (by omega)] at this
        rw [Hid, HE.out, this]
      go_wp2_with fail
      go_ret
      exact ⟨ret_bool HN.out, hb⟩

set_option maxHeartbeats 2000000 in
theorem impl_head (x : De) (n : Nat) (a3 : Option Addr) (c3 : Nat) (w : World) (h1 : x.nm.size ≤ maxLen) (h2 : x.on.size ≤ maxLen) :
    Calls Try.prog 17 #[.agg #[.int .i64 x.k, .string x.nm, .string x.on, .slice a3 n c3]] w fun e w' => e = .returned (.bool (headB x)) ∧ Below w.heap.size w w' := by
  have B0 : Hid (Below w.heap.size w (w.alloc (.cells #[.int .i64 x.k, .string x.nm, .string x.on, .slice a3 n c3] 30))) := (Below.refl _ _).alloc (Nat.le_refl _) _
  by_cases hk : x.k = 1 ∨ x.k = 2
  · have HK : Hid (headB x = ((noB x.nm || nameB x.nm) && noB x.on)) := by unfold Hid headB; rw [if_pos hk]
    have go : ∀ (k1 : Hid (headB x = ((noB x.nm || nameB x.nm) && noB x.on))) (e2 : x.k = 1 ∨ (x.k = 2 ∧ (x.k == 1) = false)), Calls Try.prog 17 #[.agg #[.int .i64 x.k, .string x.nm, .string x.on, .slice a3 n c3]] w fun e w' => e = .returned (.bool (headB x)) ∧ Below w.heap.size w w' := by
      intro k1 e2
      rcases e2 with e2 | ⟨e2, e3⟩
      · go_enter Try.func17, Try.ntmps17
        go_wp2_with fail
        refine (impl_none x.nm _ h1).mono ?_
        cases bn : (noB x.nm || nameB x.nm)
        · rintro e w1 ⟨rfl, hb1⟩
          have HN : Hid (false = headB x) := by rw [Hid, k1.out, bn]; rfl
          go_wp2_with fail
          go_ret
          exact ⟨ret_bool HN.out, below_one hb1⟩
        · rintro e w1 ⟨rfl, hb1⟩
          have k0 := fun o => hb1.cell (p := ⟨w.heap.size, o, none⟩) (by simp)
          have HN : Hid (noB x.on = headB x) := by rw [Hid, k1.out, bn]; rfl
          go_wp2_with fail
          go_ret
          exact ⟨ret_bool HN.out, below_one hb1⟩
      · go_enter Try.func17, Try.ntmps17
        go_wp2_with fail
        refine (impl_none x.nm _ h1).mono ?_
        cases bn : (noB x.nm || nameB x.nm)
        · rintro e w1 ⟨rfl, hb1⟩
          have HN : Hid (false = headB x) := by rw [Hid, k1.out, bn]; rfl
          go_wp2_with fail
          go_ret
          exact ⟨ret_bool HN.out, below_one hb1⟩
        · rintro e w1 ⟨rfl, hb1⟩
          have k0 := fun o => hb1.cell (p := ⟨w.heap.size, o, none⟩) (by simp)
          have HN : Hid (noB x.on = headB x) := by rw [Hid, k1.out, bn]; rfl
          go_wp2_with fail
          go_ret
          exact ⟨ret_bool HN.out, below_one hb1⟩
    refine go HK ?_
    rcases hk with hk | hk
    · exact .inl hk
    · exact .inr ⟨hk, by rw [hk]; rfl⟩
  · have m1 : (x.k == 1) = false := by rw [beq_eq_false_iff_ne]; omega
    have m2 : (x.k == 2) = false := by rw [beq_eq_false_iff_ne]; omega
    by_cases h3 : x.k = 3
    · have HK : Hid (headB x = (!onB x.nm && nameB x.nm && nameB x.on)) := by
        unfold Hid headB; rw [if_neg hk, if_pos h3]
        cases onB x.nm <;> cases nameB x.nm <;> rfl
      clear hk
      go_enter Try.func17, Try.ntmps17
      go_wp2_with fail
      refine (impl_frag x.nm _ h1).mono ?_
      cases bn : (!onB x.nm && nameB x.nm)
      · rintro e w1 ⟨rfl, hb1⟩
        have HN : Hid (false = headB x) := by rw [Hid, HK.out, bn]; rfl
        go_wp2_with fail
        go_ret
        exact ⟨ret_bool HN.out, below_one hb1⟩
      · rintro e w1 ⟨rfl, hb1⟩
        have k0 := fun o => hb1.cell (p := ⟨w.heap.size, o, none⟩) (by simp)
        have HN : Hid (nameB x.on = headB x) := by rw [Hid, HK.out, bn]; rfl
        go_wp2_with fail
        refine (impl_nameOK x.on _ h2).mono ?_
        rintro e w2 ⟨rfl, hb2⟩
        go_wp2_with fail
        go_ret
        exact ⟨ret_bool HN.out, (below_one hb1).trans (hb2.mono (below_one hb1).size)⟩
    · have m3 : (x.k == 3) = false := by rw [beq_eq_false_iff_ne]; omega
      have HN : Hid (false = headB x) := by unfold Hid headB; rw [if_neg hk, if_neg h3]
      clear hk h3
      go_enter Try.func17, Try.ntmps17
      go_wp2_with fail
      go_ret
      exact ⟨ret_bool HN.out, B0.out⟩
end Go.Proofs.Ytajjaddlalbnmaa
namespace Go.Proofs.Ytajjaddlalbnmaa
open Go.ChangeShapes Go.WideShapes Go.ChangeAt Go.RowKit
set_option linter.unusedVariables false

theorem not_nil {α : Type} {l : List α} (h : ¬ l.length = 0) : l.isEmpty = false := by
  cases l with
  | nil => exact absurd rfl h
  | cons _ _ => rfl
set_option maxHeartbeats 4000000 in
set_option maxRecDepth 40000 in
theorem impl_alone (h : Hd) (n : Nat) (a1 a2 a3 : Option Addr) (c1 c2 c3 : Nat) (w : World) (r1 : ArRow 0 w.heap.size w a1 h.args) (r2 : DiRow 0 w.heap.size w a2 h.dirs) (hb : HdBd 1048576 h) (hn : n ≤ 1048576) :
    Calls Try.prog 32 #[.agg #[.int .i64 h.k, .string h.al, .string h.nm, .slice a1 h.args.length c1, .slice a2 h.dirs.length c2, .slice a3 n c3]] w fun e w' =>
      e = .returned (.bool (hdB h (decide (n = 0)))) ∧ Below w.heap.size w w' := by
  obtain ⟨x1, x2, x3, x4, x5, x6⟩ := hb
  have B0 : Below w.heap.size w (w.alloc (.cells #[.int .i64 h.k, .string h.al, .string h.nm, .slice a1 h.args.length c1, .slice a2 h.dirs.length c2, .slice a3 n c3] 63)) := (Below.refl _ _).alloc (Nat.le_refl _) _
  have R1 : Hid (ArRow 0 _ _ a1 h.args) := Row.up r1 B0
  have R2 : Hid (DiRow 0 _ _ a2 h.dirs) := Row.up r2 B0
  have H4 : Hid (∀ x ∈ h.args, ArBd 1048576 x) := x4
  have H6 : Hid (∀ x ∈ h.dirs, DiBd 1048576 x) := x6
  have HB : Hid _ := B0
  have sn : h.nm.size ≤ maxLen := by unfold maxLen; omega
  have sa : h.al.size ≤ maxLen := by unfold maxLen; omega
  clear r1 r2 x4 x6 B0
  go_enter Try.func32, Try.ntmps32
  go_wp2_with fail
  refine (impl_args a1 c1 h.args _ R1.out x3 H4.out).mono ?_
  cases ba : argsB h.args
  · rintro e w1 ⟨rfl, hb1⟩
    have HN : Hid (false = hdB h (decide (n = 0))) := by simp [Hid, hdB, ba]
    go_wp2_with fail
    go_ret
    exact ⟨ret_bool HN.out, HB.out.trans (hb1.mono (by simp))⟩
  rintro e w1 ⟨rfl, hb1⟩
  have k1 := fun o => hb1.cell (p := ⟨w.heap.size, o, none⟩) (by simp)
  have Q1 : Hid (Below w.heap.size w w1) := HB.out.trans (hb1.mono (by simp))
  have R3 : Hid (DiRow 0 w1.heap.size w1 a2 h.dirs) := Row.up R2.out hb1
  have hz1 : w.heap.size + 1 ≤ w1.heap.size := size_one hb1
  clear hb1
  go_wp2_with fail
  refine (impl_dirs a2 c2 h.dirs _ R3.out x5 H6.out).mono ?_
  cases bd : dirsB h.dirs
  · rintro e w2 ⟨rfl, hb2⟩
    have HN : Hid (false = hdB h (decide (n = 0))) := by simp [Hid, hdB, bd]
    go_wp2_with fail
    go_ret
    exact ⟨ret_bool HN.out, Q1.out.trans (hb2.mono Q1.out.size)⟩
  rintro e w2 ⟨rfl, hb2⟩
  have k2 := fun o => (hb2.cell (p := ⟨w.heap.size, o, none⟩) (by simp <;> omega)).trans (k1 o)
  have Q2 : Hid (Below w.heap.size w w2) := Q1.out.trans (hb2.mono Q1.out.size)
  have hz2 : w.heap.size + 1 ≤ w2.heap.size := by have := hb2.size; omega
  have HT : Hid (hdB h (decide (n = 0)) = kindB h (decide (n = 0))) := by simp [Hid, hdB, ba, bd]
  clear hb2 k1 Q1 R1 R2 R3 H4 H6 HB hz1 ba bd x1 x2
  by_cases h1 : h.k = 1
  · have HK : Hid (kindB h (decide (n = 0)) = (nameB h.nm && (noB h.al || nameB h.al))) := by unfold Hid kindB; rw [if_pos h1]
    go_wp2_with fail
    refine (impl_nameOK h.nm _ sn).mono ?_
    cases bn : nameB h.nm
    · rintro e w3 ⟨rfl, hb3⟩
      have HN : Hid (false = hdB h (decide (n = 0))) := by rw [Hid, HT.out, HK.out, bn]; rfl
      clear HT HK
      go_wp2_with fail
      go_ret
      exact ⟨ret_bool HN.out, Q2.out.trans (hb3.mono Q2.out.size)⟩
    · rintro e w3 ⟨rfl, hb3⟩
      have k3 := fun o => (hb3.cell (p := ⟨w.heap.size, o, none⟩) (by simp <;> omega)).trans (k2 o)
      have Q3 : Hid (Below w.heap.size w w3) := Q2.out.trans (hb3.mono Q2.out.size)
      have HN : Hid ((noB h.al || nameB h.al) = hdB h (decide (n = 0))) := by rw [Hid, HT.out, HK.out, bn]; rfl
      clear HT HK hb3
      go_wp2_with fail
      refine (impl_none h.al _ sa).mono ?_
      rintro e w4 ⟨rfl, hb4⟩
      go_wp2_with fail
      go_ret
      exact ⟨ret_bool HN.out, Q3.out.trans (hb4.mono Q3.out.size)⟩
  have m1 : (h.k == 1) = false := by rw [beq_eq_false_iff_ne]; omega
  by_cases h2 : h.k = 2
  · have HK : Hid (kindB h (decide (n = 0)) = ((!onB h.nm && nameB h.nm) && noB h.al && h.args.isEmpty && decide (n = 0))) := by
      unfold Hid kindB; rw [if_neg h1, if_pos h2]
      cases onB h.nm <;> cases nameB h.nm <;> rfl
    clear m1 h1
    go_wp2_with fail
    refine (impl_frag h.nm _ sn).mono ?_
    cases bn : (!onB h.nm && nameB h.nm)
    · rintro e w3 ⟨rfl, hb3⟩
      have HN : Hid (false = hdB h (decide (n = 0))) := by rw [Hid, HT.out, HK.out, bn]; rfl
      clear HT HK
      go_wp2_with fail
      go_ret
      exact ⟨ret_bool HN.out, Q2.out.trans (hb3.mono Q2.out.size)⟩
    rintro e w3 ⟨rfl, hb3⟩
    have k3 := fun o => (hb3.cell (p := ⟨w.heap.size, o, none⟩) (by simp <;> omega)).trans (k2 o)
    have Q3 : Hid (Below w.heap.size w w3) := Q2.out.trans (hb3.mono Q2.out.size)
    clear hb3
    by_cases hz : h.al.toList = []
    · by_cases ha : h.args.length = 0
      · by_cases hn0 : n = 0
        · have HN : Hid (true = hdB h (decide (n = 0))) := by rw [Hid, HT.out, HK.out, bn, no_of hz, List.length_eq_zero_iff.1 ha, decide_eq_true hn0]; rfl
          clear HT HK
          go_wp2_with fail
          go_ret
          exact ⟨ret_bool HN.out, Q3.out⟩
        · have HN : Hid (false = hdB h (decide (n = 0))) := by rw [Hid, HT.out, HK.out, decide_eq_false hn0]; simp
          have hn1 : ((n : Int) == 0) = false := by rw [beq_eq_false_iff_ne]; omega
          clear HT HK
          go_wp2_with fail
          go_ret
          exact ⟨ret_bool HN.out, Q3.out⟩
      · have HN : Hid (false = hdB h (decide (n = 0))) := by rw [Hid, HT.out, HK.out, not_nil ha]; simp
        clear HT HK
        go_wp2_with fail
        go_ret
        exact ⟨ret_bool HN.out, Q3.out⟩
    · have HN : Hid (false = hdB h (decide (n = 0))) := by rw [Hid, HT.out, HK.out, no_not hz]; simp
      clear HT HK
      go_wp2_with fail
      go_ret
      exact ⟨ret_bool HN.out, Q3.out⟩
  have m2 : (h.k == 2) = false := by rw [beq_eq_false_iff_ne]; omega
  by_cases h3 : h.k = 3
  · have HK : Hid (kindB h (decide (n = 0)) = ((noB h.nm || nameB h.nm) && noB h.al && h.args.isEmpty && !decide (n = 0))) := by unfold Hid kindB; rw [if_neg h1, if_neg h2, if_pos h3]
    clear m1 h1 m2 h2
    go_wp2_with fail
    refine (impl_none h.nm _ sn).mono ?_
    cases bn : (noB h.nm || nameB h.nm)
    · rintro e w3 ⟨rfl, hb3⟩
      have HN : Hid (false = hdB h (decide (n = 0))) := by rw [Hid, HT.out, HK.out, bn]; rfl
      clear HT HK
      go_wp2_with fail
      go_ret
      exact ⟨ret_bool HN.out, Q2.out.trans (hb3.mono Q2.out.size)⟩
    rintro e w3 ⟨rfl, hb3⟩
    have k3 := fun o => (hb3.cell (p := ⟨w.heap.size, o, none⟩) (by simp <;> omega)).trans (k2 o)
    have Q3 : Hid (Below w.heap.size w w3) := Q2.out.trans (hb3.mono Q2.out.size)
    clear hb3
    by_cases hz : h.al.toList = []
    · by_cases ha : h.args.length = 0
      · have HN : Hid ((!decide (n = 0)) = hdB h (decide (n = 0))) := by rw [Hid, HT.out, HK.out, bn, no_of hz, List.length_eq_zero_iff.1 ha]; simp
        clear HT HK
        go_wp2_with fail
        go_ret
        exact ⟨ret_bool (by rw [← HN.out, Bool.eq_iff_iff]; simp; omega), Q3.out⟩
      · have HN : Hid (false = hdB h (decide (n = 0))) := by rw [Hid, HT.out, HK.out, not_nil ha]; simp
        clear HT HK
        go_wp2_with fail
        go_ret
        exact ⟨ret_bool HN.out, Q3.out⟩
    · have HN : Hid (false = hdB h (decide (n = 0))) := by rw [Hid, HT.out, HK.out, no_not hz]; simp
      clear HT HK
      go_wp2_with fail
      go_ret
      exact ⟨ret_bool HN.out, Q3.out⟩
  have m3 : (h.k == 3) = false := by rw [beq_eq_false_iff_ne]; omega
  have HN : Hid (false = hdB h (decide (n = 0))) := by rw [Hid, HT.out]; unfold kindB; rw [if_neg h1, if_neg h2, if_neg h3]
  clear h1 h2 h3 HT
  go_wp2_with fail
  go_ret
  exact ⟨ret_bool HN.out, Q2.out⟩
end Go.Proofs.Ytajjaddlalbnmaa
namespace Go.Proofs.Ytajjaddlalbnmaa
open Go.ChangeShapes Go.WideShapes Go.ChangeAt Go.RowKit
set_option linter.unusedVariables false

def takesB (d : Nat) (left : Int) (l : Sels) : Bool := !l.isNil && okS d l && decide ((l.size : Int) ≤ left)
def Room (w : World) (R : Nat) (left : Int) : Prop := w.heap[R]? = some (.cells #[.int .i64 left] 48 (0, 0))
def ImplSels (l : Sels) : Prop := ∀ (R : Nat) (a : Option Addr) (c d : Nat) (deep left : Int) (w : World), Room w R left → SelRow 0 R w a l → l.len ≤ 1048576 → SelsBd 1048576 l → deep + d = 8 → 1 ≤ deep → 0 ≤ left → left ≤ 60 →
    Calls Try.prog 18 #[.pointer (some ⟨R, 0, none⟩), .slice a l.len c, .int .i64 deep] w fun e w' =>
      e = .returned (.bool (takesB d left l)) ∧ Below R w w' ∧ (takesB d left l = true → Room w' R (left - l.size))
theorem Room.lt {w : World} {R : Nat} {m : Int} (h : Room w R m) : R < w.heap.size := (Array.getElem?_eq_some_iff.1 h).1
theorem Room.keep {w w' : World} {R B : Nat} {m : Int} (h : Room w R m) (hb : Below B w w') (hB : R < B) : Room w' R m := (hb.block R hB).trans h
theorem Room.cell {w : World} {R : Nat} {m : Int} (h : Room w R m) : w.cell? ⟨R, 0, none⟩ = some (.int .i64 m) := row_cell h 0
theorem Room.frozen {w : World} {R : Nat} {m : Int} (h : Room w R m) : w.frozen? ⟨R, 0, none⟩ = false := row_frozen h 0
theorem Room.set {w : World} {R : Nat} {m : Int} (h : Room w R m) (n : Int) : Room (w.setCell ⟨R, 0, none⟩ (.int .i64 n)) R n := row_set h 0 _
/-- What is left while a set is gone through. -/
def Left (d : Nat) (left : Int) (l rest : Sels) (m : Int) : Prop := okS d l = okS d rest ∧ m + l.size + rest.len = left + rest.size
theorem Left.no_hd {d : Nat} {left m : Int} {l : Sels} {h : Hd} {sub rest : Sels} (t : Left d left l (.cons h sub rest) m) (hh : hdB h sub.isNil = false) : takesB d left l = false := by
  unfold takesB; rw [t.1, ok_part2, hh]; simp
where ok_part2 {d : Nat} {h : Hd} {sub rest : Sels} : okS d (.cons h sub rest) = (decide (0 < d) && hdB h sub.isNil && okS (d - 1) sub && okS d rest) := rfl
theorem ok_part3 {d : Nat} {h : Hd} {sub rest : Sels} : okS d (.cons h sub rest) = (decide (0 < d) && hdB h sub.isNil && okS (d - 1) sub && okS d rest) := rfl
theorem Left.no_sub {d : Nat} {left m : Int} {l : Sels} {h : Hd} {sub rest : Sels} (t : Left d left l (.cons h sub rest) m) (hn : sub.isNil = false) (hh : takesB (d - 1) m sub = false) : takesB d left l = false := by
  unfold takesB at *
  rw [hn] at hh
  simp only [Bool.not_false, Bool.true_and, Bool.and_eq_false_iff] at hh
  rcases hh with hh | hh
  · rw [t.1, ok_part3, hh]; simp
  · have h3 := t.2
    simp only [Sels.size, Sels.len] at h3
    have h4 := Sels.len_le_size rest
    simp only [decide_eq_false_iff_not] at hh
    have : ¬ (l.size : Int) ≤ left := by omega
    simp [this]
theorem Left.next {d : Nat} {left m : Int} {l : Sels} {h : Hd} {sub rest : Sels} (t : Left d left l (.cons h sub rest) m) (hd : 0 < d) (hh : hdB h sub.isNil = true) (hs : okS (d - 1) sub = true) : Left d left l rest (m - sub.size) := by
  refine ⟨by rw [t.1, ok_part3, hh, hs]; simp [hd], ?_⟩
  have h3 := t.2
  simp only [Sels.size, Sels.len] at h3
  omega
theorem Left.done {d : Nat} {left m : Int} {l : Sels} (t : Left d left l .nil m) (hm : 0 ≤ m) (hn : l.isNil = false) : takesB d left l = true ∧ m = left - l.size := by
  have h3 := t.2
  simp only [Sels.size, Sels.len] at h3
  have : (l.size : Int) ≤ left := by omega
  refine ⟨?_, by omega⟩
  unfold takesB; rw [t.1, hn]; simp [okS, this]
theorem ok_nil (d : Nat) : okS d .nil = true := by cases d <;> rfl

set_option maxHeartbeats 4000000 in
set_option maxRecDepth 40000 in
theorem impl_takes (l : Sels) : ImplSels l := by
  induction hN : l.size using Nat.strongRecOn generalizing l with
  | _ N ih =>
  subst hN
  intro R a c d deep left w hroom hr hl hbd hdd hd1 hleft hl60
  have IH : Hid (∀ sub : Sels, sub.size < l.size → ImplSels sub) := fun sub hsub => ih sub.size hsub sub rfl
  have HR : Hid (SelFrom 0 R w a 0 l) := hr.from_
  have HB : Hid (SelsBd 1048576 l) := hbd
  have HO : Hid (Room w R left) := hroom
  have hRl := hroom.lt
  have hc0 := hroom.cell
  have hf0 := hroom.frozen
  have hls := Sels.len_le_size l
  clear hr ih hbd hroom
  by_cases h0 : l.len = 0
  · have HN : Hid (takesB d left l = false) := by unfold Hid takesB; rw [Sels.isNil_len, h0]; rfl
    clear HB IH HR
    go_enter Try.func18, Try.ntmps18
    go_wp2_with fail
    go_ret
    exact ⟨ret_bool HN.out.symm, Below.refl _ _, fun h => by rw [HN.out] at h; cases h⟩
  have HI : Hid (l.isNil = false) := by rw [Hid, Sels.isNil_len]; simpa using h0
  have hb0 : ((l.len : Int) == 0) = false := by rw [beq_eq_false_iff_ne]; omega
  by_cases hd0 : d = 0
  · have HN : Hid (takesB d left l = false) := by
      cases l with
      | nil => exact absurd rfl h0
      | cons h sub rest => unfold Hid takesB; rw [ok_part3, hd0]; simp
    have hdp : 7 < deep := by omega
    clear HB IH HR
    go_enter Try.func18, Try.ntmps18
    go_wp2_with fail
    go_ret
    exact ⟨ret_bool HN.out.symm, Below.refl _ _, fun h => by rw [HN.out] at h; cases h⟩
  have hdp : ¬ 7 < deep := by omega
  have hd' : 0 < d := by omega
  by_cases hlt : left < (l.len : Int)
  · have HN : Hid (takesB d left l = false) := by
      have : ¬ (l.size : Int) ≤ left := by omega
      unfold Hid takesB; simp [this]
    clear HB IH HR
    go_enter Try.func18, Try.ntmps18
    go_wp2_with fail
    go_ret
    exact ⟨ret_bool HN.out.symm, Below.refl _ _, fun h => by rw [HN.out] at h; cases h⟩
  have HS : Hid (Room (w.setCell ⟨R, 0, none⟩ (.int .i64 (left - l.len))) R (left - l.len)) := HO.out.set _
  go_enter Try.func18, Try.ntmps18
  go_wp2_with fail
  clear h0 hb0 hc0 hf0
  go_loopw [36] (fun i w' => ∃ (k : Nat) (m : Int) (rest : Sels), Hid (l.len = k + rest.len) ∧ i = .int .i64 k ∧ 0 ≤ m ∧ m ≤ 60 ∧ Below R w w' ∧ Hid (Room w' R m) ∧ Hid (rest.size ≤ l.size) ∧ Hid (SelsBd 1048576 rest) ∧ Hid (SelFrom 0 R w a k rest) ∧ Hid (Left d left l rest m)) (fun i _ => l.len - (intOf i).toNat)
  case atStart => exact ⟨0, left - l.len, l, by simp [Hid], rfl, by omega, by omega, (Below.refl R w).setCell (p := ⟨R, 0, none⟩) (Nat.le_refl R) _, HS, Nat.le_refl _, HB, HR, ⟨rfl, by omega⟩⟩
  case round =>
    rename_i wr
    obtain ⟨k, m, rest, HK, rfl, hm0, hm60, hb, HO2, HZ, HD, HF, HT⟩ := hrel
    cases rest with
    | nil =>
      have hk' : ¬ k < l.len := by rw [HK.out]; simp only [Sels.len]; omega
      have HN := HT.out.done hm0 HI.out
      have HN : Hid (takesB d left l = true ∧ m = left - l.size) := HN
      go_wp2_with fail
      go_ret
      exact ⟨ret_bool HN.out.1.symm, hb, fun _ => HN.out.2 ▸ HO2.out⟩
    | cons h sub rest =>
      have hlt : k < l.len := by rw [HK.out]; simp only [Sels.len]; omega
      have HK2 : Hid (l.len = k + 1 + rest.len) := by rw [Hid, HK.out]; simp only [Sels.len]; omega
      obtain ⟨b, o, a1, c1, a2, c2, a3, c3, ha, _, hbl, d0, d1, d2, d3, d4, d5, r1, r2, r3, _⟩ := (HF.out.keep (Below.agree hb (Nat.le_refl _))).step
      have HF2 : Hid (SelFrom 0 R w a (k + 1) rest) := SelFrom.next HF.out
      subst ha
      have hRr := HO2.out.lt
      have K1 : Hid (∀ W0, Below (R + 1) wr W0 → ArRow 0 W0.heap.size W0 a1 h.args) := fun W0 hB => (Row.keep r1 (Below.agree hB (by omega))).wide (Nat.le_refl _) (by have := hB.size; omega)
      have K2 : Hid (∀ W0, Below (R + 1) wr W0 → DiRow 0 W0.heap.size W0 a2 h.dirs) := fun W0 hB => (Row.keep r2 (Below.agree hB (by omega))).wide (Nat.le_refl _) (by have := hB.size; omega)
      have K3 : Hid (∀ W0, Below (R + 1) wr W0 → SelRow 0 R W0 a3 sub) := fun W0 hB => SelRow.keep r3 (Below.agree hB (by omega))
      have HD' := HD.out
      obtain ⟨e1, e2, e3, e4⟩ := HD'
      have E1 : Hid (HdBd 1048576 h) := e1
      have E3 : Hid (SelsBd 1048576 sub) := e3
      have E4 : Hid (SelsBd 1048576 rest) := e4
      have HZ2 : Hid (rest.size ≤ l.size) := by have := HZ.out; simp only [Sels.size] at this; unfold Hid; omega
      have IS : Hid (ImplSels sub) := IH.out sub (by have := HZ.out; simp only [Sels.size] at this; omega)
      clear r1 r2 r3 e1 e3 e4
      go_wp2_with fail
      refine Calls.mono (impl_alone h sub.len a1 a2 a3 c1 c2 c3 _ (K1.out _ ?b0) (K2.out _ ?b1) E1.out e2) ?_
      case b0 => repeat (first | exact Below.refl _ _ | refine Below.setCell ?_ (by first | omega | (simp <;> omega)) _ | refine Below.alloc ?_ (by first | omega | (simp <;> omega)) _)
      case b1 => repeat (first | exact Below.refl _ _ | refine Below.setCell ?_ (by first | omega | (simp <;> omega)) _ | refine Below.alloc ?_ (by first | omega | (simp <;> omega)) _)
      rw [← Sels.isNil_len]
      cases hh : hdB h sub.isNil
      · rintro e w1 ⟨rfl, hb1⟩
        have HN : Hid (takesB d left l = false) := HT.out.no_hd hh
        have q1 : Hid (Below R w w1) := by
          refine hb.trans (Below.trans ?_ (hb1.mono (by first | omega | (simp <;> omega))))
          repeat (first | exact Below.refl _ _ | refine Below.setCell ?_ (by first | omega | (simp <;> omega)) _ | refine Below.alloc ?_ (by first | omega | (simp <;> omega)) _)
        go_wp2_with fail
        go_ret
        exact ⟨ret_bool HN.out.symm, q1.out, fun h => by rw [HN.out] at h; cases h⟩
      · rintro e w1 ⟨rfl, hb1⟩
        have hz1 : wr.heap.size + 1 ≤ w1.heap.size := by have := hb1.size; simpa using this
        have p1 : Below (R + 1) wr w1 := by
          refine Below.trans ?_ (hb1.mono (by first | omega | (simp <;> omega)))
          repeat (first | exact Below.refl _ _ | refine Below.setCell ?_ (by first | omega | (simp <;> omega)) _ | refine Below.alloc ?_ (by first | omega | (simp <;> omega)) _)
        have P1 : Hid _ := p1
        have HO3 : Hid (Room w1 R m) := HO2.out.keep p1 (by omega)
        have k0 := fun o => hb1.cell (p := ⟨wr.heap.size, o, none⟩) (by first | omega | (simp <;> omega))
        have Q1 : Hid (Below R w w1) := hb.trans (p1.mono (by omega))
        clear hb1 p1
        by_cases hs : sub.len = 0
        · have hnil : sub = .nil := by
            cases sub with
            | nil => rfl
            | cons _ _ _ => simp [Sels.len] at hs
          have HN : Hid (Left d left l rest m) := by
            have := HT.out.next hd' hh (by rw [hnil]; exact ok_nil _)
            rw [hnil] at this
            have h2 : Left d left l rest m := by simpa [Sels.size] using this
            exact h2
          clear hnil
          go_wp2_with fail
          go_roundw
          case rel => exact ⟨k + 1, m, rest, HK2, by go_num, hm0, hm60, Q1.out, HO3, HZ2, E4, HF2, HN⟩
          case measure => simp [intOf]; omega
        · have HSN : Hid (sub.isNil = false) := by rw [Hid, Sels.isNil_len]; simpa using hs
          have hsp : 0 < sub.len := by omega
          clear hs
          go_wp2_with fail
          refine (IS.out R a3 c3 (d - 1) (deep + 1) m _ HO3.out (K3.out _ P1.out) e2 E3.out (by omega) (by omega) hm0 hm60).mono ?_
          cases ht : takesB (d - 1) m sub
          · rintro e w2 ⟨rfl, hb2, _⟩
            have HN : Hid (takesB d left l = false) := HT.out.no_sub HSN.out ht
            go_wp2_with fail
            go_ret
            exact ⟨ret_bool HN.out.symm, Q1.out.trans hb2, fun h => by rw [HN.out] at h; cases h⟩
          · rintro e w2 ⟨rfl, hb2, hr2⟩
            have ht' := ht
            simp only [takesB, Bool.and_eq_true, decide_eq_true_eq] at ht'
            have HR2 : Hid (Room w2 R (m - sub.size)) := hr2 rfl
            have HN : Hid (Left d left l rest (m - sub.size)) := HT.out.next hd' hh ht'.1.2
            have hle := ht'.2
            clear hr2 ht'
            go_wp2_with fail
            go_roundw
            case rel => exact ⟨k + 1, m - sub.size, rest, HK2, by go_num, by omega, by omega, Q1.out.trans hb2, HR2, HZ2, E4, HF2, HN⟩
            case measure => simp [intOf]; omega
end Go.Proofs.Ytajjaddlalbnmaa
