/- The specification's DocOK computes what a right document is. -/
import Derived.Test.YtajjaddlalbnmaaSelFrom
namespace Go.Proofs.Ytajjaddlalbnmaa
open Go.ChangeShapes Go.WideShapes Go.ChangeAt Go.RowKit
set_option linter.unusedVariables false

theorem all_take_b {α : Type} {p : α → Bool} {l : List α} {k : Nat} (hk : k < l.length) (h : (l.take k).all p = true) (h2 : p l[k] = true) : (l.take (k + 1)).all p = true := by
  rw [List.take_succ_eq_append_getElem hk, List.all_append, h]; simp [h2]
theorem all_no_b {α : Type} {p : α → Bool} {l : List α} {k : Nat} (hk : k < l.length) (h2 : p l[k] = false) : l.all p = false := by
  rw [List.all_eq_false]
  exact ⟨l[k], List.getElem_mem hk, by simp [h2]⟩
theorem hd_no_dirs {h : Hd} {z : Bool} (hd : h.dirs.all diB = false) : false = hdB h z := by simp [hdB, dirsB, hd]
theorem hd_no_args {h : Hd} {z : Bool} (hd : h.args.all arB = false) : false = hdB h z := by simp [hdB, argsB, hd]
theorem hd_many_dirs {h : Hd} {z : Bool} (hd : 4 < h.dirs.length) : false = hdB h z := by
  have : ¬ h.dirs.length ≤ 4 := by omega
  simp [hdB, dirsB, this]
theorem hd_many_args {h : Hd} {z : Bool} (hd : 4 < h.args.length) : false = hdB h z := by
  have : ¬ h.args.length ≤ 4 := by omega
  simp [hdB, argsB, this]
theorem size_one {w w' : World} {o : Obj} {B : Nat} (hb : Below B (w.alloc o) w') : w.heap.size + 1 ≤ w'.heap.size := by have := hb.size; simpa using this
theorem on_of {s : ByteArray} (h : s.toList = [111, 110]) : onB s = true := by unfold onB; rw [h]; rfl
theorem on_not {s : ByteArray} (h : ¬ s.toList = [111, 110]) : onB s = false := by unfold onB; simpa using h

set_option maxHeartbeats 4000000 in
set_option maxRecDepth 40000 in
theorem spec_sel (h : Hd) (n : Nat) (a1 a2 a3 : Option Addr) (c1 c2 c3 : Nat) (w : World) (r1 : ArRow 0 w.heap.size w a1 h.args) (r2 : DiRow 0 w.heap.size w a2 h.dirs) (hb : HdBd 1048576 h) (hn : n ≤ 1048576) :
    Calls Try.prog 28 #[.agg #[.int .i64 h.k, .string h.al, .string h.nm, .slice a1 h.args.length c1, .slice a2 h.dirs.length c2, .slice a3 n c3]] w fun e w' =>
      e = .returned (.bool (hdB h (decide (n = 0)))) ∧ Below w.heap.size w w' := by
  obtain ⟨x1, x2, x3, x4, x5, x6⟩ := hb
  have B0 : Below w.heap.size w (w.alloc (.cells #[.int .i64 h.k, .string h.al, .string h.nm, .slice a1 h.args.length c1, .slice a2 h.dirs.length c2, .slice a3 n c3] 63)) := (Below.refl _ _).alloc (Nat.le_refl _) _
  have R1 : Hid (ArRow 0 _ _ a1 h.args) := Row.up r1 B0
  have R2 : Hid (DiRow 0 _ _ a2 h.dirs) := Row.up r2 B0
  have H4 : Hid (∀ x ∈ h.args, ArBd 1048576 x) := x4
  have H6 : Hid (∀ x ∈ h.dirs, DiBd 1048576 x) := x6
  have HB : Hid _ := B0
  have sn : h.nm.size ≤ maxLen := by unfold maxLen; omega
  have sa : h.al.size ≤ maxLen := by unfold maxLen; omega
  clear r1 r2 x4 x6 B0
  go_enter Try.func28, Try.ntmps28
  go_wp2_with fail
  go_loopw [3] (fun i w' => ∃ (k : Nat), k ≤ h.dirs.length ∧ i = .int .i64 k ∧ Below (w.heap.size + 1) (w.alloc (.cells #[.int .i64 h.k, .string h.al, .string h.nm, .slice a1 h.args.length c1, .slice a2 h.dirs.length c2, .slice a3 n c3] 63)) w' ∧ Hid ((h.dirs.take k).all diB = true)) (fun i _ => h.dirs.length - (intOf i).toNat)
  case atStart => exact ⟨0, by omega, rfl, Below.refl _ _, rfl⟩
  case round =>
    rename_i wr
    obtain ⟨k, hk, rfl, hb, HA⟩ := hrel
    have k0 := fun o => hb.cell (p := ⟨w.heap.size, o, none⟩) (show w.heap.size < w.heap.size + 1 by omega)
    by_cases hlt : k < h.dirs.length
    · obtain ⟨b, o, ha, _, hbl, d0, d1, d2, d3⟩ := Row.cells_di (Row.keep R2.out (Below.agree hb (by simp))) k hlt
      subst ha
      have HX : Hid (DiBd 1048576 h.dirs[k]) := H6.out h.dirs[k] (List.getElem_mem hlt)
      have hz : w.heap.size + 1 ≤ wr.heap.size := by have := hb.size; simpa using this
      cases hv : valB h.dirs[k].v
      · have HN : Hid (false = hdB h (decide (n = 0))) := hd_no_dirs (all_no_b hlt hv)
        go_wp2_with fail
        refine (spec_val h.dirs[k].v _ (by have := HX.out; unfold DiBd at this; unfold maxLen; omega)).mono ?_
        rw [hv]
        rintro e w1 ⟨rfl, hb1⟩
        go_wp2_with fail
        go_ret
        exact ⟨ret_bool HN.out, HB.out.trans ((hb.mono (by omega)).trans (hb1.mono (by omega)))⟩
      · go_wp2_with fail
        refine (spec_val h.dirs[k].v _ (by have := HX.out; unfold DiBd at this; unfold maxLen; omega)).mono ?_
        rw [hv]
        rintro e w1 ⟨rfl, hb1⟩
        go_wp2_with fail
        go_roundw
        case rel => exact ⟨k + 1, by omega, by go_num, hb.trans (hb1.mono (by omega)), all_take_b hlt HA.out hv⟩
        case measure => simp [intOf]; omega
    · have HD : Hid (h.dirs.all diB = true) := by have := HA.out; rwa [List.take_of_length_le (by omega)] at this
      clear HA
      go_wp2_with fail
      clear hk hlt
      go_loopw [4] (fun i w' => ∃ (k : Nat), k ≤ h.args.length ∧ i = .int .i64 k ∧ Below (w.heap.size + 1) (w.alloc (.cells #[.int .i64 h.k, .string h.al, .string h.nm, .slice a1 h.args.length c1, .slice a2 h.dirs.length c2, .slice a3 n c3] 63)) w' ∧ Hid ((h.args.take k).all arB = true)) (fun i _ => h.args.length - (intOf i).toNat)
      case atStart => exact ⟨0, by omega, rfl, hb, rfl⟩
      case round =>
        clear k0 hb
        obtain ⟨j, hj, rfl, hb, HA⟩ := hrel
        have k0 := fun o => hb.cell (p := ⟨w.heap.size, o, none⟩) (show w.heap.size < w.heap.size + 1 by omega)
        have hz := size_one hb
        by_cases hlt : j < h.args.length
        · obtain ⟨b, o, ha, _, hbl, d0, d1, d2, d3⟩ := Row.cells_ar (Row.keep R1.out (Below.agree hb (by simp))) j hlt
          subst ha
          have HX : Hid (ArBd 1048576 h.args[j]) := H4.out h.args[j] (List.getElem_mem hlt)
          have sx : h.args[j].nm.size ≤ maxLen := by have := HX.out.1; unfold maxLen; omega
          cases hm : nameB h.args[j].nm
          · have HN : Hid (false = hdB h (decide (n = 0))) := hd_no_args (all_no_b hlt (by simp [arB, hm]))
            go_wp2_with fail
            refine (spec_nameOK h.args[j].nm _ sx).mono ?_
            rw [hm]
            rintro e w9 ⟨rfl, rfl⟩
            go_wp2_with fail
            go_ret
            exact ⟨ret_bool HN.out, HB.out.trans (hb.mono (by omega))⟩
          · cases hv : valB h.args[j].v
            · have HN : Hid (false = hdB h (decide (n = 0))) := hd_no_args (all_no_b hlt (by simp [arB, hv]))
              go_wp2_with fail
              refine (spec_nameOK h.args[j].nm _ sx).mono ?_
              rw [hm]
              rintro e w9 ⟨rfl, rfl⟩
              go_wp2_with fail
              refine (spec_val h.args[j].v _ (by have := HX.out.2; unfold maxLen; omega)).mono ?_
              rw [hv]
              rintro e w1 ⟨rfl, hb1⟩
              go_wp2_with fail
              go_ret
              exact ⟨ret_bool HN.out, HB.out.trans ((hb.mono (by omega)).trans (hb1.mono (by omega)))⟩
            · go_wp2_with fail
              refine (spec_nameOK h.args[j].nm _ sx).mono ?_
              rw [hm]
              rintro e w9 ⟨rfl, rfl⟩
              go_wp2_with fail
              refine (spec_val h.args[j].v _ (by have := HX.out.2; unfold maxLen; omega)).mono ?_
              rw [hv]
              rintro e w1 ⟨rfl, hb1⟩
              go_wp2_with fail
              go_roundw
              case rel => exact ⟨j + 1, by omega, by go_num, hb.trans (hb1.mono (by omega)), all_take_b hlt HA.out (by simp [arB, hm, hv])⟩
              case measure => simp [intOf]; omega
        · have HE : Hid (h.args.all arB = true) := by have := HA.out; rwa [List.take_of_length_le (by omega)] at this
          clear HA
          have QB : Hid (Below w.heap.size w _) := HB.out.trans (hb.mono (by omega))
          by_cases g1 : 4 < h.dirs.length
          · have HN : Hid (false = hdB h (decide (n = 0))) := hd_many_dirs g1
            go_wp2_with fail
            go_ret
            exact ⟨ret_bool HN.out, QB.out⟩
          by_cases g2 : 4 < h.args.length
          · have HN : Hid (false = hdB h (decide (n = 0))) := hd_many_args g2
            go_wp2_with fail
            go_ret
            exact ⟨ret_bool HN.out, QB.out⟩
          have HT : Hid (hdB h (decide (n = 0)) = kindB h (decide (n = 0))) := by
            have e1 : h.dirs.length ≤ 4 := by omega
            have e2 : h.args.length ≤ 4 := by omega
            simp [Hid, hdB, argsB, dirsB, e1, e2, HD.out, HE.out]
          clear HD HE x1 x2
          by_cases h1 : h.k = 1
          · have HK : Hid (kindB h (decide (n = 0)) = (nameB h.nm && (noB h.al || nameB h.al))) := by unfold Hid kindB; rw [if_pos h1]
            cases bn : nameB h.nm
            · have HN : Hid (false = hdB h (decide (n = 0))) := by rw [Hid, HT.out, HK.out, bn]; rfl
              clear HT HK
              go_wp2_with (go_at_call 16; first | (refine (spec_nameOK h.nm _ sn).mono ?_; rw [bn]; rintro e w9 ⟨rfl, rfl⟩) | (refine (spec_nameOK h.al _ sa).mono ?_; rintro e w9 ⟨rfl, rfl⟩))
              go_ret
              exact ⟨ret_bool HN.out, QB.out⟩
            · by_cases hz : h.al.toList = []
              · have HN : Hid (true = hdB h (decide (n = 0))) := by rw [Hid, HT.out, HK.out, bn, no_of hz]; rfl
                clear HT HK
                go_wp2_with (go_at_call 16; first | (refine (spec_nameOK h.nm _ sn).mono ?_; rw [bn]; rintro e w9 ⟨rfl, rfl⟩) | (refine (spec_nameOK h.al _ sa).mono ?_; rintro e w9 ⟨rfl, rfl⟩))
                go_ret
                exact ⟨ret_bool HN.out, QB.out⟩
              · have NZ : Hid (h.al.toList.isEmpty = false) := no_not hz
                have HN : Hid (nameB h.al = hdB h (decide (n = 0))) := by rw [Hid, HT.out, HK.out, bn, no_not hz]; rfl
                clear HT HK
                go_wp2_with (go_at_call 16; first | (refine (spec_nameOK h.nm _ sn).mono ?_; rw [bn]; rintro e w9 ⟨rfl, rfl⟩) | (refine (spec_nameOK h.al _ sa).mono ?_; rintro e w9 ⟨rfl, rfl⟩))
                go_ret
                exact ⟨ret_bool (by rw [← HN.out, NZ.out]; rfl), QB.out⟩
          have m1 : (h.k == 1) = false := by rw [beq_eq_false_iff_ne]; omega
          by_cases h2 : h.k = 2
          · have HK : Hid (kindB h (decide (n = 0)) = (nameB h.nm && !onB h.nm && noB h.al && h.args.isEmpty && decide (n = 0))) := by unfold Hid kindB; rw [if_neg h1, if_pos h2]
            clear m1 h1
            cases bn : nameB h.nm
            · have HN : Hid (false = hdB h (decide (n = 0))) := by rw [Hid, HT.out, HK.out, bn]; rfl
              clear HT HK
              go_wp2_with (go_at_call 16; first | (refine (spec_nameOK h.nm _ sn).mono ?_; rw [bn]; rintro e w9 ⟨rfl, rfl⟩) | (refine (spec_nameOK h.al _ sa).mono ?_; rintro e w9 ⟨rfl, rfl⟩))
              go_ret
              exact ⟨ret_bool HN.out, QB.out⟩
            by_cases ho : h.nm.toList = [111, 110]
            · have HN : Hid (false = hdB h (decide (n = 0))) := by rw [Hid, HT.out, HK.out, on_of ho]; simp
              clear HT HK
              go_wp2_with (go_at_call 16; first | (refine (spec_nameOK h.nm _ sn).mono ?_; rw [bn]; rintro e w9 ⟨rfl, rfl⟩) | (refine (spec_nameOK h.al _ sa).mono ?_; rintro e w9 ⟨rfl, rfl⟩))
              go_ret
              exact ⟨ret_bool HN.out, QB.out⟩
            by_cases hz : h.al.toList = []
            · by_cases ha : h.args.length = 0
              · have ho2 : (h.nm.toList == [111, 110]) = false := on_not ho
                by_cases hn0 : n = 0
                · have HN : Hid (true = hdB h (decide (n = 0))) := by rw [Hid, HT.out, HK.out, bn, on_not ho, no_of hz, List.length_eq_zero_iff.1 ha, decide_eq_true hn0]; rfl
                  clear HT HK
                  go_wp2_with (go_at_call 16; (refine (spec_nameOK h.nm _ sn).mono ?_; rw [bn]; rintro e w9 ⟨rfl, rfl⟩))
                  go_ret
                  exact ⟨ret_bool HN.out, QB.out⟩
                · have HN : Hid (false = hdB h (decide (n = 0))) := by rw [Hid, HT.out, HK.out, decide_eq_false hn0]; simp
                  have hn1 : ((n : Int) == 0) = false := by rw [beq_eq_false_iff_ne]; omega
                  clear HT HK
                  go_wp2_with (go_at_call 16; (refine (spec_nameOK h.nm _ sn).mono ?_; rw [bn]; rintro e w9 ⟨rfl, rfl⟩))
                  go_ret
                  exact ⟨ret_bool HN.out, QB.out⟩
              · have HN : Hid (false = hdB h (decide (n = 0))) := by
                  have : h.args.isEmpty = false := by cases hc : h.args with | nil => rw [hc] at ha; exact absurd rfl ha | cons _ _ => rfl
                  rw [Hid, HT.out, HK.out, this]; simp
                clear HT HK
                go_wp2_with (go_at_call 16; first | (refine (spec_nameOK h.nm _ sn).mono ?_; rw [bn]; rintro e w9 ⟨rfl, rfl⟩) | (refine (spec_nameOK h.al _ sa).mono ?_; rintro e w9 ⟨rfl, rfl⟩))
                go_ret
                exact ⟨ret_bool HN.out, QB.out⟩
            · have HN : Hid (false = hdB h (decide (n = 0))) := by rw [Hid, HT.out, HK.out, no_not hz]; simp
              clear HT HK
              go_wp2_with (go_at_call 16; first | (refine (spec_nameOK h.nm _ sn).mono ?_; rw [bn]; rintro e w9 ⟨rfl, rfl⟩) | (refine (spec_nameOK h.al _ sa).mono ?_; rintro e w9 ⟨rfl, rfl⟩))
              go_ret
              exact ⟨ret_bool HN.out, QB.out⟩
          have m2 : (h.k == 2) = false := by rw [beq_eq_false_iff_ne]; omega
          by_cases h3 : h.k = 3
          · have HK : Hid (kindB h (decide (n = 0)) = ((noB h.nm || nameB h.nm) && noB h.al && h.args.isEmpty && !decide (n = 0))) := by unfold Hid kindB; rw [if_neg h1, if_neg h2, if_pos h3]
            clear m1 h1 m2 h2
            have fin : ∀ b : Bool, (noB h.nm || nameB h.nm) = b → Hid (kindB h (decide (n = 0)) = (b && noB h.al && h.args.isEmpty && !decide (n = 0))) := fun b hb0 => by rw [Hid, HK.out, hb0]
            have FN : Hid _ := fin
            clear fin HK
            by_cases hs : h.nm.toList = []
            · have HK := FN.out true (by rw [no_of hs]; rfl)
              clear FN
              by_cases hz : h.al.toList = []
              · by_cases ha : h.args.length = 0
                · have HN : Hid ((!decide (n = 0)) = hdB h (decide (n = 0))) := by rw [Hid, HT.out, HK.out, no_of hz, List.length_eq_zero_iff.1 ha]; simp
                  clear HT HK
                  go_wp2_with fail
                  go_ret
                  exact ⟨ret_bool (by rw [← HN.out, Bool.eq_iff_iff]; simp; omega), QB.out⟩
                · have HN : Hid (false = hdB h (decide (n = 0))) := by
                    have : h.args.isEmpty = false := by cases hc : h.args with | nil => rw [hc] at ha; exact absurd rfl ha | cons _ _ => rfl
                    rw [Hid, HT.out, HK.out, this]; simp
                  clear HT HK
                  go_wp2_with fail
                  go_ret
                  exact ⟨ret_bool HN.out, QB.out⟩
              · have HN : Hid (false = hdB h (decide (n = 0))) := by rw [Hid, HT.out, HK.out, no_not hz]; simp
                clear HT HK
                go_wp2_with fail
                go_ret
                exact ⟨ret_bool HN.out, QB.out⟩
            · cases bn : nameB h.nm
              · have HN : Hid (false = hdB h (decide (n = 0))) := by rw [Hid, HT.out, (FN.out false (by rw [no_not hs, bn]; rfl)).out]; rfl
                clear HT FN
                go_wp2_with (go_at_call 16; first | (refine (spec_nameOK h.nm _ sn).mono ?_; rw [bn]; rintro e w9 ⟨rfl, rfl⟩) | (refine (spec_nameOK h.al _ sa).mono ?_; rintro e w9 ⟨rfl, rfl⟩))
                go_ret
                exact ⟨ret_bool HN.out, QB.out⟩
              · have HK := FN.out true (by rw [bn]; simp)
                clear FN
                by_cases hz : h.al.toList = []
                · by_cases ha : h.args.length = 0
                  · have HN : Hid ((!decide (n = 0)) = hdB h (decide (n = 0))) := by rw [Hid, HT.out, HK.out, no_of hz, List.length_eq_zero_iff.1 ha]; simp
                    clear HT HK
                    go_wp2_with (go_at_call 16; first | (refine (spec_nameOK h.nm _ sn).mono ?_; rw [bn]; rintro e w9 ⟨rfl, rfl⟩) | (refine (spec_nameOK h.al _ sa).mono ?_; rintro e w9 ⟨rfl, rfl⟩))
                    go_ret
                    exact ⟨ret_bool (by rw [← HN.out, Bool.eq_iff_iff]; simp; omega), QB.out⟩
                  · have HN : Hid (false = hdB h (decide (n = 0))) := by
                      have : h.args.isEmpty = false := by cases hc : h.args with | nil => rw [hc] at ha; exact absurd rfl ha | cons _ _ => rfl
                      rw [Hid, HT.out, HK.out, this]; simp
                    clear HT HK
                    go_wp2_with (go_at_call 16; first | (refine (spec_nameOK h.nm _ sn).mono ?_; rw [bn]; rintro e w9 ⟨rfl, rfl⟩) | (refine (spec_nameOK h.al _ sa).mono ?_; rintro e w9 ⟨rfl, rfl⟩))
                    go_ret
                    exact ⟨ret_bool HN.out, QB.out⟩
                · have HN : Hid (false = hdB h (decide (n = 0))) := by rw [Hid, HT.out, HK.out, no_not hz]; simp
                  clear HT HK
                  go_wp2_with (go_at_call 16; first | (refine (spec_nameOK h.nm _ sn).mono ?_; rw [bn]; rintro e w9 ⟨rfl, rfl⟩) | (refine (spec_nameOK h.al _ sa).mono ?_; rintro e w9 ⟨rfl, rfl⟩))
                  go_ret
                  exact ⟨ret_bool HN.out, QB.out⟩
          have m3 : (h.k == 3) = false := by rw [beq_eq_false_iff_ne]; omega
          have HN : Hid (false = hdB h (decide (n = 0))) := by rw [Hid, HT.out]; unfold kindB; rw [if_neg h1, if_neg h2, if_neg h3]
          clear h1 h2 h3 HT
          go_wp2_with fail
          go_ret
          exact ⟨ret_bool HN.out, QB.out⟩
end Go.Proofs.Ytajjaddlalbnmaa
