/- The program's text of arguments. -/
import Derived.Test.YtomkekgnaeicpaaGreatDoorDocWordsTwo
import Derived.Test.YtomkekgnaeicpaaGreatDoorDRegion
import Derived.Lib.Join
import Derived.Maps.OwnSet
namespace Go.Proofs.YtomkekgnaeicpaaGreatDoor
open Go.ChangeShapes Go.WideShapes Go.ChangeAt Go.RowKit
set_option linter.unusedVariables false

theorem info9d : (Tryz.prog.info? 9).map (fun i => (i.zero, i.size, i.bytes)) = some (some (.string ⟨#[]⟩), 1, 16) := by kernel_rfl
def LaidS (cs : Array Value) (ts : List (List UInt8)) (k : Nat) : Prop := ∀ i t, i < k → ts[i]? = some t → cs[i]? = some (.string (bl t))

theorem LaidS.put {cs : Array Value} {ts : List (List UInt8)} {k : Nat} {t : List UInt8} {x : ByteArray} (h : LaidS cs ts k) (hk : k < cs.size) (ht : ts[k]? = some t) (hx : x = bl t) : LaidS (cs.setIfInBounds k (.string x)) ts (k + 1) := by
  intro i t' hi ht'
  by_cases hik : i = k
  · subst hik
    rw [ht, Option.some.injEq] at ht'
    subst ht'
    rw [hx]
    simp [hk]
  · rw [Array.getElem?_setIfInBounds_ne (fun e => hik e.symm)]
    exact h i t' (by omega) ht'
theorem aTail_join (l : List Ar) : aTail l = Lib.joinTail [32] (l.map arP) := by
  induction l with
  | nil => rfl
  | cons x l ih => simp [aTail, Lib.joinTail, ih]
theorem join_args {l : List Ar} (h : l ≠ []) : 40 :: Lib.join (l.map arP) [32] = aPre l := by
  cases l with
  | nil => exact absurd rfl h
  | cons x l => rw [List.map_cons, Lib.join_cons, aPre, aTail_join]
set_option maxHeartbeats 2000000 in
set_option maxRecDepth 40000 in
theorem impl_argsT (a : Option Addr) (c : Nat) (l : List Ar) (w : World) (hr : ArRow 0 w.heap.size w a l) (hl : l.length ≤ 4) (hB : ∀ x ∈ l, arB x = true) (hp : Pow w) :
    Calls Tryz.prog 85 #[.slice a l.length c] w fun e w' => e = .returned (.string (bl (argsP l))) ∧ Below w.heap.size w w' := by
  by_cases h0 : l = []
  · subst h0
    go_enter Tryz.func85, Tryz.ntmps85
    go_wp2_with fail
    go_ret
    exact ⟨rfl, Below.refl _ _⟩
  have HR : Hid (ArRow 0 w.heap.size w a l) := hr
  have HD : Hid (∀ x ∈ l, arB x = true) := hB
  have HP : Hid (∀ W, Below w.heap.size w W → Pow W) := fun W h => hp.up h
  have H0 : Hid (l ≠ []) := h0
  have hp0 : 0 < l.length := List.length_pos_iff.2 h0
  have hne : ((l.length : Int) == 0) = false := by rw [beq_eq_false_iff_ne]; omega
  clear hr hB hp h0
  obtain ⟨i9, hi, hz, hsz, hby⟩ := info_parts info9d
  have hmk := run_make (P := Tryz.prog) w 65 9 i9 _ Tryz.underlying65 hi hz .i64 .i64 (l.length : Int) (l.length : Int) (by omega) (by omega) (by rw [hby]; omega) (by omega)
  rw [hsz, Int.toNat_natCast] at hmk
  clear hi hz hsz hby
  have hs0 := size_madeCells (Value.string ⟨#[]⟩).cells (l.length * 1)
  generalize madeCells (Value.string ⟨#[]⟩).cells (l.length * 1) = cs0 at *
  go_enter Tryz.func85, Tryz.ntmps85
  go_wp2_with fail
  go_loopw [14] (fun i w' => ∃ (k : Nat) (cs : Array Value), k ≤ l.length ∧ i = .int .i64 k ∧ Below w.heap.size w w' ∧ Hid (w'.heap[w.heap.size]? = some (.cells cs 9 (0, 0))) ∧ cs.size = l.length ∧ Hid (LaidS cs (l.map arP) k)) (fun i _ => l.length - (intOf i).toNat)
  case atStart => exact ⟨0, cs0, by omega, rfl, (Below.refl _ _).alloc (Nat.le_refl _) _, heap_alloc_new _ _, by omega, fun i t h => by omega⟩
  case round =>
    rename_i wr
    obtain ⟨k, cs, hk, rfl, hb, HH, hcs, HL⟩ := hrel
    clear hmk hs0
    have hbz := hb.size
    by_cases hlt : k < l.length
    · obtain ⟨b, o, ha, _, hbl, d0, d1, d2, d3⟩ := Row.cells_ar (Row.keep HR.out (Below.agree hb (Nat.le_refl _))) k hlt
      subst ha
      -- the round
      have HA : Hid (arB l[k] = true) := HD.out _ (List.getElem_mem hlt)
      have HV : Hid (valB l[k].v = true) := by have := HA.out; unfold arB at this; rw [Bool.and_eq_true] at this; exact this.2
      have ln : l[k].nm.size ≤ 40 := by have := HA.out; unfold arB at this; rw [Bool.and_eq_true] at this; exact name_len this.1
      have lv := valP_len HV.out
      have lb := bl_size (valP l[k].v)
      have r1 : ¬ (9223372036854775807 < l[k].nm.size + 2) := by omega
      have r2 : ¬ (9223372036854775807 < l[k].nm.size + 2 + (bl (valP l[k].v)).size) := by omega
      have r3 : ¬ (9223372036854775807 < l[k].nm.size + (⟨#[58, 32]⟩ : ByteArray).size) := r1
      have r4 : ¬ (9223372036854775807 < (l[k].nm ++ (⟨#[58, 32]⟩ : ByteArray)).size + (bl (valP l[k].v)).size) := by rw [ByteArray.size_append]; exact r2
      have HN : Hid (((l[k].nm ++ (⟨#[58, 32]⟩ : ByteArray)) ++ bl (valP l[k].v)) = bl (arP l[k])) := by
        refine bl_of ?_
        rw [nl_app, nl_app, nl_bl]
        simp [nl_lit, arP]
      have hNw : w.heap.size < wr.heap.size := (Array.getElem?_eq_some_iff.1 HH.out).1
      clear ln lv lb
      go_wp2_with fail
      obtain ⟨W1, hW1⟩ : ∃ X, X = wr.alloc (.cells #[.string l[k].nm, .int .i64 l[k].v.k, .int .i64 l[k].v.n, .string l[k].v.t] 127) := ⟨_, rfl⟩
      rw [← hW1]
      have zW1 : W1.heap.size = wr.heap.size + 1 := by rw [hW1]; simp
      have bW1 : Below wr.heap.size wr W1 := by rw [hW1]; exact (Below.refl _ _).alloc (Nat.le_refl _) _
      have hX1 : W1.heap[wr.heap.size]? = some (.cells #[.string l[k].nm, .int .i64 l[k].v.k, .int .i64 l[k].v.n, .string l[k].v.t] 127 (0, 0)) := by rw [hW1]; exact heap_alloc_new _ _
      have KS : Hid (∀ w', Below W1.heap.size W1 w' → w'.cell? ⟨wr.heap.size, 0, none⟩ = some (.string l[k].nm) ∧ w'.cell? ⟨wr.heap.size, 1, none⟩ = some (.int .i64 l[k].v.k) ∧ w'.cell? ⟨wr.heap.size, 2, none⟩ = some (.int .i64 l[k].v.n) ∧ w'.cell? ⟨wr.heap.size, 3, none⟩ = some (.string l[k].v.t)) := fun w' hB => by
        have e := (hB.block wr.heap.size (by omega)).trans hX1
        exact ⟨row_cell e 0, row_cell e 1, row_cell e 2, row_cell e 3⟩
      have HB1 : Hid (Below w.heap.size w W1) := hb.trans (bW1.mono hbz)
      have HH1 : Hid (W1.heap[w.heap.size]? = some (.cells cs 9 (0, 0))) := (bW1.block w.heap.size hNw).trans HH.out
      clear hW1 hX1 bW1 d0 d1 d2 d3 HH
      refine region_rel (n := 10) (by kernel_rfl) (by kernel_rfl) (by kernel_rfl) (fun u' => ⟨#[.slice (some ⟨b, o, none⟩) l.length c, undef, .string ⟨#[]⟩, .slice (some ⟨w.heap.size, 0, none⟩) l.length l.length, .int .i64 (k : Int), .pointer (some ⟨wr.heap.size, 0, none⟩), .slice (some ⟨b, o, none⟩) l.length c, .int .i64 (l.length : Int), .bool false, .slice (some ⟨b, o, none⟩) l.length c, .int .i64 (l.length : Int), .slice (some ⟨w.heap.size, 0, none⟩) l.length l.length, .slice (some ⟨b, o, none⟩) l.length c, .int .i64 (l.length : Int), .int .i64 (k : Int), .bool true, .int .i64 (k : Int), .pointer (some ⟨b, o + k * 4, none⟩), .agg #[.string l[k].nm, .int .i64 l[k].v.k, .int .i64 l[k].v.n, .string l[k].v.t], u' 19, u' 20, u' 21, u' 22, u' 23, u' 24, u' 25, u' 26, u' 27, u' 28, u29, undef, undef, undef, undef], []⟩) (fun i => match i with | 19 => u19 | 20 => u20 | 21 => u21 | 22 => u22 | 23 => u23 | 24 => u24 | 25 => u25 | 26 => u26 | 27 => u27 | 28 => u28 | _ => undef) (fun i => i + 19) (fun i j _ _ h => by omega) (fun i v w2 => match i with | 0 => v = .slice (some ⟨w.heap.size, 0, none⟩) l.length l.length | 1 => v = .int .i64 (k : Int) | 2 => v = .pointer (some ⟨wr.heap.size, 0, none⟩) | 3 => v = .string l[k].nm | 4 => v = .string (l[k].nm ++ (⟨#[58, 32]⟩ : ByteArray)) | 5 => v = .pointer (some ⟨wr.heap.size, 1, none⟩) | 6 => v = .agg #[.int .i64 l[k].v.k, .int .i64 l[k].v.n, .string l[k].v.t] | 7 => v = .string (bl (valP l[k].v)) | 8 => v = .string ((l[k].nm ++ (⟨#[58, 32]⟩ : ByteArray)) ++ bl (valP l[k].v)) | 9 => v = .pointer (some ⟨w.heap.size, k, none⟩) | _ => True) (fun _ _ => True) ?up trivial ?step ?last
      case up =>
        intro i v w2 w3 hv hbb
        split at hv <;> exact hv
      case step =>
        intro u' w2 i hi hbw _ hdep
        have hcase : i = 0 ∨ i = 1 ∨ i = 2 ∨ i = 3 ∨ i = 4 ∨ i = 5 ∨ i = 6 ∨ i = 7 ∨ i = 8 ∨ i = 9 := by omega
        rcases hcase with rfl | rfl | rfl | rfl | rfl | rfl | rfl | rfl | rfl | rfl
        · refine wpOp_step rfl (fun K hK => ?_)
          clear hdep
          go_simp
          exact hK _ _ ⟨_, rfl, Below.refl _ _, rfl, trivial⟩
        · refine wpOp_step rfl (fun K hK => ?_)
          clear hdep
          go_simp
          exact hK _ _ ⟨_, rfl, Below.refl _ _, rfl, trivial⟩
        · refine wpOp_step rfl (fun K hK => ?_)
          clear hdep
          go_simp
          exact hK _ _ ⟨_, rfl, Below.refl _ _, rfl, trivial⟩
        · have d2 : u' 21 = .pointer (some ⟨wr.heap.size, 0, none⟩) := hdep _ rfl ⟨2, .data⟩ (by simp) rfl
          obtain ⟨y0, y1, y2, y3⟩ := KS.out _ hbw
          refine wpOp_step rfl (fun K hK => ?_)
          clear hdep
          go_simp
          exact hK _ _ ⟨_, by simp [upd, d2], Below.refl _ _, rfl, trivial⟩
        · have d3 : u' 22 = .string l[k].nm := hdep _ rfl ⟨3, .data⟩ (by simp) rfl
          refine wpOp_step rfl (fun K hK => ?_)
          clear hdep
          go_simp
          exact hK _ _ ⟨_, by simp [upd, d3], Below.refl _ _, rfl, trivial⟩
        · refine wpOp_step rfl (fun K hK => ?_)
          clear hdep
          go_simp
          exact hK _ _ ⟨_, rfl, Below.refl _ _, rfl, trivial⟩
        · have d5 : u' 24 = .pointer (some ⟨wr.heap.size, 1, none⟩) := hdep _ rfl ⟨5, .data⟩ (by simp) rfl
          obtain ⟨y0, y1, y2, y3⟩ := KS.out _ hbw
          refine wpOp_step rfl (fun K hK => ?_)
          clear hdep
          go_simp
          exact hK _ _ ⟨_, by simp [upd, d5], Below.refl _ _, rfl, trivial⟩
        · have d6 : u' 25 = .agg #[.int .i64 l[k].v.k, .int .i64 l[k].v.n, .string l[k].v.t] := hdep _ rfl ⟨6, .data⟩ (by simp) rfl
          refine wpOp_step rfl (fun K hK => ?_)
          clear hdep
          go_simp
          refine (impl_valueT l[k].v _ HV.out (HP.out _ (HB1.out.trans (hbw.mono (by omega))))).mono ?_
          rintro e w8 ⟨rfl, hb8⟩
          exact hK _ _ ⟨_, by simp [upd, d6], hb8, rfl, trivial⟩
        · have d4 : u' 23 = .string (l[k].nm ++ (⟨#[58, 32]⟩ : ByteArray)) := hdep _ rfl ⟨4, .data⟩ (by simp) rfl
          have d7 : u' 26 = .string (bl (valP l[k].v)) := hdep _ rfl ⟨7, .data⟩ (by simp) rfl
          refine wpOp_step rfl (fun K hK => ?_)
          clear hdep
          go_simp
          exact hK _ _ ⟨_, by simp [upd, d4, d7], Below.refl _ _, rfl, trivial⟩
        · have d0 : u' 19 = .slice (some ⟨w.heap.size, 0, none⟩) l.length l.length := hdep _ rfl ⟨0, .data⟩ (by simp) rfl
          have d1 : u' 20 = .int .i64 (k : Int) := hdep _ rfl ⟨1, .data⟩ (by simp) rfl
          refine wpOp_step rfl (fun K hK => ?_)
          clear hdep
          go_simp
          exact hK _ _ ⟨_, by simp [upd, d0, d1], Below.refl _ _, rfl, trivial⟩
      case last =>
        intro u' w2 hbw _ hp2
        have d8 : u' 27 = .string ((l[k].nm ++ (⟨#[58, 32]⟩ : ByteArray)) ++ bl (valP l[k].v)) := hp2 8 (by omega)
        have d9 : u' 28 = .pointer (some ⟨w.heap.size, k, none⟩) := hp2 9 (by omega)
        clear hp2
        have HH2 : w2.heap[w.heap.size]? = some (.cells cs 9 (0, 0)) := (hbw.block w.heap.size (by omega)).trans HH1.out
        obtain ⟨v0, hv0⟩ : ∃ v, w2.cell? ⟨w.heap.size, k, none⟩ = some v := ⟨_, (row_cell HH2 _).trans (Array.getElem?_eq_getElem (by omega))⟩
        have hf0 := row_frozen HH2 k
        have HH3 : Hid _ := HH2
        have HW : Hid (Below w.heap.size w w2) := HB1.out.trans (hbw.mono (by omega))
        clear HH2
        refine wpOp_step rfl (fun K hK => ?_)
        go_simp
        refine hK _ _ ?_
        clear hK K
        go_wp2_with fail
        go_roundw
        case rel => exact ⟨k + 1, _, by omega, by go_num, HW.out.setCell (Nat.le_refl _) _, row_set HH3.out _ _, by simp [hcs], LaidS.put HL.out (by omega) (by simp [hlt]) HN.out⟩
        case measure => simp [intOf]; omega
    · -- behind it
      obtain rfl : k = l.length := by omega
      have hNw : w.heap.size < wr.heap.size := (Array.getElem?_eq_some_iff.1 HH.out).1
      have hxl : (l.map fun x => bl (arP x)).length = l.length := by simp
      have hmm : (l.map fun x => bl (arP x)).map (·.data.toList) = l.map arP := by
        rw [List.map_map]
        exact List.map_congr_left (fun x _ => nl_bl (arP x))
      have hjl : (Lib.join (l.map arP) [32]).length ≤ 400 := by
        have h1 := join_args H0.out
        have h2 := aPre_len HD.out
        have h3 := congrArg List.length h1
        rw [List.length_cons] at h3
        omega
      have HJ := Tryz.strings_Join w.heap.size 0 l.length (l.map fun x => bl (arP x)) ⟨#[32]⟩ wr (fun j x hx => by
        have hj : j < l.length := by have := (List.getElem?_eq_some_iff.1 hx).1; omega
        rw [Nat.zero_add, row_cell HH.out]
        refine HL.out j (arP l[j]) hj (by simp [hj]) |>.trans ?_
        rw [List.getElem?_map, List.getElem?_eq_getElem hj] at hx
        simpa using hx) hNw (by omega) (by omega) (by rw [hmm]; show (Lib.join (l.map arP) [32]).length ≤ _; omega)
      rw [hmm, hxl] at HJ
      have HJ2 : Hid _ := HJ
      have HT : Hid ((⟨#[40]⟩ : ByteArray) ++ (⟨(Lib.join (l.map arP) [32]).toArray⟩ : ByteArray) ++ (⟨#[41]⟩ : ByteArray) = bl (argsP l)) := by
        refine bl_of ?_
        rw [nl_app, nl_app, argsP_eq l H0.out, ← join_args H0.out]
        simp [nl]
      have js : (⟨(Lib.join (l.map arP) [32]).toArray⟩ : ByteArray).size ≤ 400 := by
        have := bl_size (Lib.join (l.map arP) [32])
        unfold bl at this
        omega
      clear HJ hmm hxl hjl hk hcs HL HH
      generalize (⟨(Lib.join (l.map arP) [32]).toArray⟩ : ByteArray) = J at *
      have r1 : ¬ (9223372036854775807 < 1 + J.size) := by omega
      have r2 : ¬ (9223372036854775807 < 1 + J.size + 1) := by omega
      have r3 : ¬ (9223372036854775807 < (⟨#[40]⟩ : ByteArray).size + J.size) := r1
      have r4 : ¬ (9223372036854775807 < ((⟨#[40]⟩ : ByteArray) ++ J).size + (⟨#[41]⟩ : ByteArray).size) := by rw [ByteArray.size_append]; exact r2
      go_wp2_with fail
      refine Calls.mono HJ2.out ?_
      rintro e w9 ⟨rfl, hb9⟩
      have Q9 : Hid (Below w.heap.size w w9) := hb.trans (hb9.mono hbz)
      clear hb9
      go_wp2_with fail
      go_ret
      exact ⟨ret_str HT.out, Q9.out⟩
end Go.Proofs.YtomkekgnaeicpaaGreatDoor
