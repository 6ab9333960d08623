/- CheckTypes: the program's rule of the arguments that a field has. -/
import Derived.Test.YtjkkphfdcoejlaaGreatTyNeeds
namespace Go.Proofs.YtjkkphfdcoejlaaGreat
open Go.ChangeShapes Go.WideShapes Go.ChangeAt Go.RowKit
set_option linter.unusedVariables false

def fitsB (x : Ar) (d : G.Ag) : Bool := (d.nm.toList == x.nm.toList) && fitB x.v d.need
theorem any_next {α : Type} {p : α → Bool} {l : List α} {k : Nat} (hk : k < l.length) (h : (l.take k).any p = false) (h2 : p l[k] = false) : (l.take (k + 1)).any p = false := by
  rw [List.take_succ_eq_append_getElem hk, List.any_append, h]; simp [h2]
theorem any_yes {α : Type} {p : α → Bool} {l : List α} {k : Nat} (hk : k < l.length) (h2 : p l[k] = true) : l.any p = true := List.any_eq_true.2 ⟨_, List.getElem_mem hk, h2⟩
def argsTo (f : G.Fd) (l : List Ar) (k : Nat) : Prop := ∀ i (h : i < l.length), i < k → seenA (l.take i) l[i].nm = false ∧ argB f l[i] = true
theorem argsTo.next {f : G.Fd} {l : List Ar} {k : Nat} (h : argsTo f l k) (hk : k < l.length) (h1 : seenA (l.take k) l[k].nm = false) (h2 : argB f l[k] = true) : argsTo f l (k + 1) := by
  intro i hi hik
  by_cases he : i = k
  · subst he; exact ⟨h1, h2⟩
  · exact h i hi (by omega)
theorem alloc_cell {w : World} {p : Addr} {v : Value} (o : Obj) (hp : p.block < w.heap.size) (hc : w.cell? p = some v) : (w.alloc o).cell? p = some v := cell_of ((Below.refl w.heap.size w).alloc (Nat.le_refl _) _) hp hc
set_option maxHeartbeats 8000000 in
set_option maxRecDepth 40000 in
theorem rule_args (h : Hd) (n : Nat) (a1 a2 a3 at_ af : Option Addr) (c1 c2 c3 ct cf : Nat) (t : G.Td) (f : G.Fd) (kn : Bool) (w : World) (r1 : ArRow 0 w.heap.size w a1 h.args) (hc : h.args.length ≤ c1) (hb : HdBd 1048576 h) (r2 : G.AgRow 0 w.heap.size w af f.args) (hf : f.args.length ≤ 1048576) (r : Int) (hr : r = if argsN f [] h.args = true then 0 else 10) :
    Calls Tryz.prog 66 #[spV h n a1 c1 a2 c2 a3 c3 t at_ ct f af cf kn] w fun e w' => e = .returned (.int .i64 r) ∧ Below w.heap.size w w' := by
  have R1 : Hid (ArRow 0 w.heap.size w a1 h.args) := r1
  have R2 : Hid (G.AgRow 0 w.heap.size w af f.args) := r2
  have hl : h.args.length ≤ 1048576 := hb.2.2.1
  have HRR : Hid (r = if argsN f [] h.args = true then 0 else 10) := hr
  clear r1 r2 hb hr
  unfold spV
  go_enter Tryz.func66, Tryz.ntmps66
  go_wp2_with fail
  go_step3
  go_wp2_with fail
  go_step3
  go_wp2_with fail
  go_loopw [13] (fun i w' => ∃ (k : Nat), k ≤ h.args.length ∧ i = .int .i64 k ∧ Below w.heap.size w w' ∧ w.heap.size + 1 ≤ w'.heap.size ∧ w'.cell? ⟨w.heap.size, 3, none⟩ = some (.slice a1 h.args.length c1) ∧ w'.cell? ⟨w.heap.size, 9, none⟩ = some (.slice af f.args.length cf) ∧ Hid (argsTo f h.args k)) (fun i _ => h.args.length - (intOf i).toNat)
  case atStart => exact ⟨0, by omega, rfl, (Below.refl _ _).alloc (Nat.le_refl _) _, by simp, row_cell (heap_alloc_new _ _) 3, row_cell (heap_alloc_new _ _) 9, fun i _ hi => absurd hi (by omega)⟩
  case round =>
    obtain ⟨k, hk, rfl, hbw, hbz, k3, k9, HA⟩ := hrel
    by_cases hlt : k < h.args.length
    case neg =>
      have HN : Hid ((0 : Int) = r) := by
        rw [Hid, HRR.out, if_pos (argsN_yes fun i hi => HA.out i hi (by omega))]
      go_wp2_with fail
      try rw [Exit.noGoto_ret]
      go_ret
      exact ⟨ret_i HN.out, hbw⟩
    obtain ⟨b, o, ha, _, hbl, d0, d1, d2, d3⟩ := Row.cells_ar (R1.out.keep (Below.agree hbw (Nat.le_refl _))) k hlt
    subst ha
    have HBW : Hid _ := hbw
    clear hbw
    obtain ⟨wo, rfl⟩ : ∃ wo : World, wo = wr := ⟨_, rfl⟩
    have k4 : ∀ v, (wo.alloc v).cell? ⟨w.heap.size, 3, none⟩ = some (.slice (some ⟨b, o, none⟩) h.args.length c1) := fun v => alloc_cell _ (show w.heap.size < _ by omega) k3
    have K9 : Hid (∀ v, (wo.alloc v).cell? ⟨w.heap.size, 9, none⟩ = some (.slice af f.args.length cf)) := fun v => alloc_cell _ (show w.heap.size < _ by omega) k9
    clear k9
    go_wp2_with fail
    go_loopw [24] (fun i w' => ∃ (m : Nat), m ≤ k ∧ i = .int .i64 m ∧ Below (wo.heap.size + 1) (wo.alloc (.cells #[.string h.args[k].nm, .int .i64 h.args[k].v.k, .int .i64 h.args[k].v.n, .string h.args[k].v.t] 144)) w' ∧ Hid (seenA (h.args.take m) h.args[k].nm = false)) (fun i _ => k - (intOf i).toNat)
    case atStart => exact ⟨0, by omega, rfl, Below.refl _ _, rfl⟩
    case round =>
      obtain ⟨m, hm, rfl, hbm, HS⟩ := hrel
      have hmz := hbm.size
      have hwz : wo.heap.size + 1 ≤ wr.heap.size := by simpa using hmz
      have HBW2 : Hid (Below w.heap.size w wr) := (HBW.out.alloc (by omega) _).trans (hbm.mono (by omega))
      have K3 : Hid (wr.cell? ⟨w.heap.size, 3, none⟩ = some (.slice (some ⟨b, o, none⟩) h.args.length c1)) := cell_of hbm (show w.heap.size < _ by omega) (k4 _)
      have k9 : wr.cell? ⟨w.heap.size, 9, none⟩ = some (.slice af f.args.length cf) := cell_of hbm (show w.heap.size < _ by omega) (K9.out _)
      have k6 : wr.cell? ⟨wo.heap.size, 0, none⟩ = some (.string h.args[k].nm) := cell_of hbm (show wo.heap.size < _ by omega) (row_cell (heap_alloc_new _ _) 0)
      have k7 : ∀ v, (wr.alloc v).cell? ⟨wo.heap.size, 0, none⟩ = some (.string h.args[k].nm) := fun v => alloc_cell _ (show wo.heap.size < _ by omega) k6
      have KS : Hid (wr.cell? ⟨wo.heap.size, 1, none⟩ = some (.int .i64 h.args[k].v.k) ∧ wr.cell? ⟨wo.heap.size, 2, none⟩ = some (.int .i64 h.args[k].v.n) ∧ wr.cell? ⟨wo.heap.size, 3, none⟩ = some (.string h.args[k].v.t)) := ⟨cell_of hbm (show wo.heap.size < _ by omega) (row_cell (heap_alloc_new _ _) 1), cell_of hbm (show wo.heap.size < _ by omega) (row_cell (heap_alloc_new _ _) 2), cell_of hbm (show wo.heap.size < _ by omega) (row_cell (heap_alloc_new _ _) 3)⟩
      clear k4 k3 d0 d1 d2 d3 hmz
      have HBM : Hid _ := hbm
      clear hbm
      by_cases hmt : m < k
      case pos =>
        obtain ⟨b', o', ha', _, hbl', g0, g1, g2, g3⟩ := Row.cells_ar (R1.out.keep (Below.agree HBW2.out (Nat.le_refl _))) m (by omega)
        obtain ⟨rfl, rfl⟩ : b' = b ∧ o' = o := by injection ha' with h1; injection h1 with h1 h2; exact ⟨h1.symm, h2.symm⟩
        clear k9
        cases e5 : (h.args[m].nm.toList == h.args[k].nm.toList) with
        | true =>
          have HN : Hid ((10 : Int) = r) := by
            have h1 : argsN f [] h.args = false := argsN_no hlt (.inl (seenA_of (by omega) hmt e5))
            rw [Hid, HRR.out, h1]; rfl
          go_wp2_with fail
          try rw [Exit.noGoto_ret]
          go_ret
          exact ⟨ret_i HN.out, HBW2.out.alloc (by omega) _⟩
        | false =>
          have HF : Hid (seenA (h.args.take (m + 1)) h.args[k].nm = false) := by rw [Hid, seenA_take (by omega), HS.out, e5]; rfl
          go_wp2_with fail
          exact ⟨⟨m + 1, by omega, by go_num, HBM.out.alloc (by omega) _, HF⟩, by simp [intOf]; omega⟩
      case neg =>
        have HS2 : Hid (seenA (h.args.take k) h.args[k].nm = false) := by have := HS.out; rwa [show m = k by omega] at this
        clear HS HBM
        obtain ⟨wi, rfl⟩ : ∃ wi : World, wi = wr := ⟨_, rfl⟩
        go_wp2_with fail
        go_loopw [38] (fun i w' => ∃ (q : Nat), q ≤ f.args.length ∧ i = .int .i64 q ∧ Below wi.heap.size wi w' ∧ Hid ((f.args.take q).any (fitsB h.args[k]) = false)) (fun i _ => f.args.length - (intOf i).toNat)
        case atStart => exact ⟨0, by omega, rfl, Below.refl _ _, rfl⟩
        case round =>
          obtain ⟨q, hq, rfl, hbq, HQ⟩ := hrel
          have hqz := hbq.size
          have HBW3 : Hid (Below w.heap.size w wr) := HBW2.out.trans (hbq.mono (by omega))
          have K3' : Hid (wr.cell? ⟨w.heap.size, 3, none⟩ = some (.slice (some ⟨b, o, none⟩) h.args.length c1)) := cell_of hbq (show w.heap.size < _ by omega) K3.out
          have K9' : Hid (wr.cell? ⟨w.heap.size, 9, none⟩ = some (.slice af f.args.length cf)) := cell_of hbq (show w.heap.size < _ by omega) k9
          have j0 : ∀ v, (wr.alloc v).cell? ⟨wo.heap.size, 0, none⟩ = some (.string h.args[k].nm) := fun v => alloc_cell _ (show wo.heap.size < _ by omega) (cell_of hbq (show wo.heap.size < _ by omega) k6)
          have j1 : ∀ v, (wr.alloc v).cell? ⟨wo.heap.size, 1, none⟩ = some (.int .i64 h.args[k].v.k) := fun v => alloc_cell _ (show wo.heap.size < _ by omega) (cell_of hbq (show wo.heap.size < _ by omega) KS.out.1)
          have j2 : ∀ v, (wr.alloc v).cell? ⟨wo.heap.size, 2, none⟩ = some (.int .i64 h.args[k].v.n) := fun v => alloc_cell _ (show wo.heap.size < _ by omega) (cell_of hbq (show wo.heap.size < _ by omega) KS.out.2.1)
          have j3 : ∀ v, (wr.alloc v).cell? ⟨wo.heap.size, 3, none⟩ = some (.string h.args[k].v.t) := fun v => alloc_cell _ (show wo.heap.size < _ by omega) (cell_of hbq (show wo.heap.size < _ by omega) KS.out.2.2)
          clear k6 k7 k9
          have HBQ : Hid _ := hbq
          clear hbq
          by_cases hqt : q < f.args.length
          case neg =>
            have HN : Hid ((10 : Int) = r) := by
              have h1 := HQ.out
              rw [List.take_of_length_le (by omega)] at h1
              have h2 : argsN f [] h.args = false := argsN_no hlt (.inr h1)
              rw [Hid, HRR.out, h2]; rfl
            go_wp2_with fail
            try rw [Exit.noGoto_ret]
            go_ret
            exact ⟨ret_i HN.out, HBW3.out⟩
          obtain ⟨b2, o2, ha2, _, hbl2, g0, g1⟩ := G.AgRow.cells (G.AgRow.keep R2.out (Below.agree HBW3.out (Nat.le_refl _))) q hqt
          subst ha2
          cases e5 : (f.args[q].nm.toList == h.args[k].nm.toList) with
          | false =>
            have HF : Hid ((f.args.take (q + 1)).any (fitsB h.args[k]) = false) := any_next hqt HQ.out (by unfold fitsB; rw [e5]; rfl)
            go_wp2_with fail
            exact ⟨⟨q + 1, by omega, by go_num, HBQ.out.alloc (by omega) _, HF⟩, by simp [intOf]; omega⟩
          | true =>
            cases e6 : fitB h.args[k].v f.args[q].need with
            | true =>
              have HF : Hid (argsTo f h.args (k + 1)) := HA.out.next hlt HS2.out (any_yes hqt (by show fitsB _ _ = true; unfold fitsB; rw [e5, e6]; rfl))
              go_wp2_with fail
              refine (arg_fits h.args[k].v f.args[q] _).mono ?_
              rw [e6]
              rintro e w1 ⟨rfl, hb1⟩
              have hz1 : wr.heap.size + 1 ≤ w1.heap.size := by have := hb1.size; simpa using this
              have hb2 : Below wr.heap.size wr w1 := ((Below.refl _ _).alloc (Nat.le_refl _) _).trans (hb1.mono (by simp))
              have HB2 : Hid _ := hb2
              clear hb1 hb2
              go_wp2_with fail
              exact ⟨⟨k + 1, by omega, by go_num, HBW3.out.trans (HB2.out.mono (by omega)), by omega, cell_of HB2.out (show w.heap.size < _ by omega) K3'.out, cell_of HB2.out (show w.heap.size < _ by omega) K9'.out, HF⟩, by simp [intOf]; omega⟩
            | false =>
              have HF : Hid ((f.args.take (q + 1)).any (fitsB h.args[k]) = false) := any_next hqt HQ.out (by unfold fitsB; rw [e5, e6]; rfl)
              go_wp2_with fail
              refine (arg_fits h.args[k].v f.args[q] _).mono ?_
              rw [e6]
              rintro e w1 ⟨rfl, hb1⟩
              have hb2 : Below wr.heap.size wr w1 := ((Below.refl _ _).alloc (Nat.le_refl _) _).trans (hb1.mono (by simp))
              have HB2 : Hid _ := hb2
              clear hb1 hb2
              go_wp2_with fail
              exact ⟨⟨q + 1, by omega, by go_num, HBQ.out.trans (HB2.out.mono (by omega)), HF⟩, by simp [intOf]; omega⟩
end Go.Proofs.YtjkkphfdcoejlaaGreat
