/- CheckTypes: the program's rule of the arguments that a field needs. -/
import Derived.Test.YtjkkphfdcoejlaaGreatTyRules
namespace Go.Proofs.YtjkkphfdcoejlaaGreat
open Go.ChangeShapes Go.WideShapes Go.ChangeAt Go.RowKit
set_option linter.unusedVariables false

def needB (l : List Ar) (d : G.Ag) : Bool := !d.need || seenA l d.nm
theorem cell_of {B : Nat} {w w' : World} {p : Addr} {v : Value} (h : Below B w w') (hp : p.block < B) (hc : w.cell? p = some v) : w'.cell? p = some v := (h.cell hp).trans hc
theorem all_none {α : Type} {p : α → Bool} {l : List α} {k : Nat} (hk : k < l.length) (h2 : p l[k] = false) : ¬ l.all p = true := by rw [all_no hk h2]; simp
set_option maxHeartbeats 4000000 in
set_option maxRecDepth 40000 in
theorem rule_needs (h : Hd) (n : Nat) (a1 a2 a3 at_ af : Option Addr) (c1 c2 c3 ct cf : Nat) (t : G.Td) (f : G.Fd) (kn : Bool) (w : World) (r1 : ArRow 0 w.heap.size w a1 h.args) (hb : HdBd 1048576 h) (r2 : G.AgRow 0 w.heap.size w af f.args) (hf : f.args.length ≤ 1048576) (r : Int) (hr : r = if f.args.all (needB h.args) = true then 0 else 10) :
    Calls Tryz.prog 67 #[spV h n a1 c1 a2 c2 a3 c3 t at_ ct f af cf kn] w fun e w' => e = .returned (.int .i64 r) ∧ Below w.heap.size w w' := by
  have R1 : Hid (ArRow 0 w.heap.size w a1 h.args) := r1
  have R2 : Hid (G.AgRow 0 w.heap.size w af f.args) := r2
  have hl : h.args.length ≤ 1048576 := hb.2.2.1
  have HRR : Hid (r = if f.args.all (needB h.args) = true then 0 else 10) := hr
  clear r1 r2 hb hr
  unfold spV
  go_enter Tryz.func67, Tryz.ntmps67
  go_wp2_with fail
  go_step3
  go_wp2_with fail
  go_step3
  go_wp2_with fail
  go_loopw [11] (fun i w' => ∃ (k : Nat), k ≤ f.args.length ∧ i = .int .i64 k ∧ Below w.heap.size w w' ∧ w.heap.size + 1 ≤ w'.heap.size ∧ w'.cell? ⟨w.heap.size, 3, none⟩ = some (.slice a1 h.args.length c1) ∧ Hid ((f.args.take k).all (needB h.args) = true)) (fun i _ => f.args.length - (intOf i).toNat)
  case atStart => exact ⟨0, by omega, rfl, (Below.refl _ _).alloc (Nat.le_refl _) _, by simp, row_cell (heap_alloc_new _ _) 3, rfl⟩
  case round =>
    obtain ⟨k, hk, rfl, hbw, hbz, k3, HA⟩ := hrel
    by_cases hlt : k < f.args.length
    case neg =>
      have HN : Hid ((0 : Int) = r) := by
        have := HA.out
        rw [List.take_of_length_le (by omega)] at this
        rw [Hid, HRR.out, if_pos this]
      go_wp2_with fail
      rw [Exit.noGoto_ret]
      go_ret
      exact ⟨ret_i HN.out, hbw⟩
    obtain ⟨b, o, ha, _, hbl, d0, d1⟩ := G.AgRow.cells (G.AgRow.keep R2.out (Below.agree hbw (Nat.le_refl _))) k hlt
    subst ha
    have HBW : Hid _ := hbw
    clear hbw
    cases e2 : f.args[k].need with
    | false =>
      have HF : Hid (needB h.args f.args[k] = true) := by unfold Hid needB; rw [e2]; rfl
      rw [e2] at d1
      go_wp2_with fail
      exact ⟨⟨k + 1, by omega, by go_num, HBW.out.alloc (by omega) _, by simp; omega, cell_of ((Below.refl wr.heap.size wr).alloc (Nat.le_refl _) _) (show w.heap.size < _ by omega) k3, all_next hlt HA.out HF.out⟩, by simp [intOf]; omega⟩
    | true =>
      rw [e2] at d1
      obtain ⟨wo, rfl⟩ : ∃ wo : World, wo = wr := ⟨_, rfl⟩
      have k4 : ∀ v, (wo.alloc v).cell? ⟨w.heap.size, 3, none⟩ = some (.slice a1 h.args.length c1) := fun v => cell_of ((Below.refl wo.heap.size wo).alloc (Nat.le_refl _) _) (show w.heap.size < _ by omega) k3
      go_wp2_with fail
      go_loopw [22] (fun i w' => ∃ (m : Nat), m ≤ h.args.length ∧ i = .int .i64 m ∧ Below (wo.heap.size + 1) (wo.alloc (.cells #[.string f.args[k].nm, .bool true] 71)) w' ∧ Hid (seenA (h.args.take m) f.args[k].nm = false)) (fun i _ => h.args.length - (intOf i).toNat)
      case atStart => exact ⟨0, by omega, rfl, Below.refl _ _, rfl⟩
      case round =>
        obtain ⟨m, hm, rfl, hbm, HS⟩ := hrel
        have hmz := hbm.size
        have hwz : wo.heap.size + 1 ≤ wr.heap.size := by simpa using hmz
        have HBW2 : Hid (Below w.heap.size w wr) := (HBW.out.alloc (by omega) _).trans (hbm.mono (by omega))
        have K3 : Hid (wr.cell? ⟨w.heap.size, 3, none⟩ = some (.slice a1 h.args.length c1)) := cell_of hbm (show w.heap.size < _ by omega) (k4 _)
        have k6 : wr.cell? ⟨wo.heap.size, 0, none⟩ = some (.string f.args[k].nm) := cell_of hbm (show wo.heap.size < _ by omega) (row_cell (heap_alloc_new _ _) 0)
        have k7 : ∀ v, (wr.alloc v).cell? ⟨wo.heap.size, 0, none⟩ = some (.string f.args[k].nm) := fun v => cell_of ((Below.refl wr.heap.size wr).alloc (Nat.le_refl _) _) (show wo.heap.size < _ by omega) k6
        clear k4 k3 d0 d1 hmz
        have HBM : Hid _ := hbm
        clear hbm
        by_cases hmt : m < h.args.length
        case neg =>
          have HN : Hid ((10 : Int) = r) := by
            have h1 := HS.out
            rw [List.take_of_length_le (by omega)] at h1
            have h2 : needB h.args f.args[k] = false := by unfold needB; rw [e2, h1]; rfl
            rw [Hid, HRR.out, if_neg (all_none hlt h2)]
          go_wp2_with fail
          rw [Exit.noGoto_ret]
          go_ret
          exact ⟨ret_i HN.out, HBW2.out⟩
        obtain ⟨b', o', ha', _, hbl', g0, g1, g2, g3⟩ := Row.cells_ar (R1.out.keep (Below.agree HBW2.out (Nat.le_refl _))) m hmt
        subst ha'
        cases e5 : (h.args[m].nm.toList == f.args[k].nm.toList) with
        | true =>
          have HF : Hid (needB h.args f.args[k] = true) := by
            have := seenA_of hmt (Nat.lt_of_lt_of_le hmt (Nat.le_refl _)) e5
            rw [List.take_length] at this
            unfold Hid needB; rw [this]; simp
          go_wp2_with fail
          exact ⟨⟨k + 1, by omega, by go_num, HBW2.out.alloc (by omega) _, by simp; omega, cell_of ((Below.refl wr.heap.size wr).alloc (Nat.le_refl _) _) (show w.heap.size < _ by omega) K3.out, all_next hlt HA.out HF.out⟩, by simp [intOf]; omega⟩
        | false =>
          have HF : Hid (seenA (h.args.take (m + 1)) f.args[k].nm = false) := by rw [Hid, seenA_take hmt, HS.out, e5]; rfl
          go_wp2_with fail
          exact ⟨⟨m + 1, by omega, by go_num, HBM.out.alloc (by omega) _, HF⟩, by simp [intOf]; omega⟩
theorem needs_all (f : G.Fd) (l : List Ar) : f.args.all (needB l) = needsB f l := rfl
end Go.Proofs.YtjkkphfdcoejlaaGreat
