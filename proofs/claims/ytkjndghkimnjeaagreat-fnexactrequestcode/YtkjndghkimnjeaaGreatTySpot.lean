/- CheckTypes: the program's spots: a selection, its type and its field. -/
import Derived.Test.YtkjndghkimnjeaaGreatVaLimTwo
import Derived.Test.YtkjndghkimnjeaaGreatVaFields
namespace Go.Proofs.YtkjndghkimnjeaaGreat
open Go.ChangeShapes Go.WideShapes Go.ChangeAt Go.RowKit Go.Maps
set_option linter.unusedVariables false
set_option maxHeartbeats 4000000 in
set_option maxRecDepth 40000 in
theorem spec_limits (a : Option Addr) (c : Nat) (l : List De) (w : World) (hr : DeRow 0 w.heap.size w a l) (hb : DefsBd 1048576 l) :
    Calls Tryz.prog 44 #[.agg #[.slice a l.length c]] w fun e w' => (∃ y, e = .returned (.int .i64 y) ∧ Lims l l y) ∧ Below w.heap.size w w' := by
  obtain ⟨V, hV⟩ : ∃ V, V = w.alloc (.cells #[.slice a l.length c] 33) := ⟨_, rfl⟩
  have B0 : Below w.heap.size w V := by rw [hV]; exact (Below.refl _ _).alloc (Nat.le_refl _) _
  have c0 : V.heap[w.heap.size]? = some (.cells #[.slice a l.length c] 33 (0, 0)) := by rw [hV]; exact heap_alloc_new _ _
  have z0 := (Array.getElem?_eq_some_iff.1 c0).1
  obtain ⟨ac, hac⟩ := docAc (DeRow.up hr B0)
  have HAC : Hid (DocAc V a l ac) := hac
  have HB : Hid (DefsBd 1048576 l) := hb
  have HB0 : Hid (Below w.heap.size w V) := B0
  have HC0 : Hid _ := c0
  have hll : l.length ≤ 1048576 := hb.1
  clear hr hb c0 B0 hac
  go_enter Tryz.func44, Tryz.ntmps44
  go_upto_region 1 with fail
  rw [← hV]
  clear hV
  go_wp2_with fail
  go_loopw [3] (fun i w' => ∃ (k : Nat), k ≤ l.length ∧ i = .int .i64 k ∧ Hid (Below V.heap.size V w') ∧ Hid (∀ y, Lims l (l.drop k) y → Lims l l y)) (fun i _ => l.length - (intOf i).toNat)
  case atStart => exact ⟨0, Nat.zero_le _, rfl, Below.refl _ _, fun y h => by simpa using h⟩
  case round =>
    obtain ⟨k, hk, rfl, HBW, HT⟩ := hrel
    obtain ⟨wo, rfl⟩ : ∃ z, z = wr := ⟨_, rfl⟩
    have GB : Hid (Below w.heap.size w wo) := HB0.out.trans (HBW.out.mono HB0.out.size)
    have x0 := fun o => row_cell ((HBW.out.block _ z0).trans HC0.out) o
    by_cases hlt : k < l.length
    case neg =>
      have hlt' : ¬ (k : Int) < l.length := by omega
      have HE : Hid (Lims l l 0) := HT.out 0 (by rw [List.drop_of_length_le (by omega)]; exact .nil)
      clear HT
      go_wp2_with fail
      go_ret
      exact ⟨⟨0, rfl, HE.out⟩, GB.out⟩
    have hlt' : (k : Int) < l.length := by omega
    have HDR : Hid (l.drop k = l[k] :: l.drop (k + 1)) := List.drop_eq_getElem_cons hlt
    obtain ⟨b, o, ha, hbl, d0, d1, d2, d3, r3⟩ := HAC.out k hlt
    generalize ac k = pk at d3 r3
    obtain ⟨aK, cK⟩ := pk
    simp only at d3 r3
    have HR3 : Hid (SelRow 0 V.heap.size V aK l[k].sels) := r3
    have HXB : Hid (DeBd 1048576 l[k]) := HB.out.2 _ (List.getElem_mem hlt)
    obtain ⟨y, m, hL⟩ := Lim.total l 400 0 (by omega) (by omega) (toL l[k].sels) 0
    have HLM : Hid (Lim l (toL l[k].sels) 0 0 y m) := hL
    have HTP : Hid _ := hL.top (by omega)
    have hcod := hL.codes
    have HBAD : Hid (y ≠ 0 → Lims l l y) := fun hy => HT.out y (by rw [HDR.out]; exact .bad hL hy)
    have HNXT : Hid (y = 0 → ∀ y', Lims l (l.drop (k + 1)) y' → Lims l l y') := fun h y' h' => HT.out y' (by rw [HDR.out]; subst h; exact .ok hL h')
    have HD3 : Hid (V.cell? ⟨b, o + k * 4 + 3, none⟩ = some (.slice aK l[k].sels.len cK)) := d3
    have HQ : Hid (∀ W, Below V.heap.size V W → Calls Tryz.prog 81 #[.agg #[.slice a l.length c], .slice aK l[k].sels.len cK, .int .i64 12, .int .i64 400] W fun e w' => e = .returned (.tuple #[.int .i64 ((400 : Int) - m), .bool (y != 8)]) ∧ Below W.heap.size W w') := fun W hW => by
      have := spec_left V a c l ac HAC.out HB.out 0 (by omega) (toL l[k].sels) aK cK 0 W (by omega) (SelRow.fr2 HR3.out hW) hW (SelsBd.lb HXB.out.2.2.2 HXB.out.2.2.1)
      rw [toL_len] at this
      refine Calls.mono this ?_
      rintro e w' ⟨⟨y', m', h', rfl⟩, hb'⟩
      obtain ⟨rfl, rfl⟩ := HLM.out.det h'
      exact ⟨rfl, hb'⟩
    subst ha
    clear d0 d1 d2 d3 r3 hL HT HDR
    obtain ⟨x, hx⟩ : ∃ x, x = l[k] := ⟨_, rfl⟩
    rw [← hx] at HD3 HQ
    clear hx HXB HR3 HLM
    go_upto_region 4 with fail
    clear x0
    go_cut [4, 5] from 6 to 27 (fun u v wx => u = .int .i64 ((400 : Int) - m) ∧ v = .bool (y != 8) ∧ Hid (Below wo.heap.size wo wx))
    case first =>
      refine G.region_rel5 (n := 12) (k := 1) (by omega) (by kernel_rfl) (by kernel_rfl) (by kernel_rfl) (fun u => ⟨#[.agg #[.slice (some ⟨b, o, none⟩) l.length c], .pointer (some ⟨w.heap.size, 0, none⟩), u2, .int .i64 k, u 4, u 5, .int .i64 k, .pointer (some ⟨w.heap.size, 0, none⟩), .slice (some ⟨b, o, none⟩) l.length c, .int .i64 l.length, .bool true, u11, u12, u 13, u 14, u 15, u 16, u 17, u 18, u 19, u 20, u 21, u 22, u 23, u24, u25, u26, u27], []⟩) (fun n => match n with | 14 => u14 | 15 => u15 | 16 => u16 | 17 => u17 | 18 => u18 | 19 => u19 | 20 => u20 | 21 => u21 | 13 => u13 | 22 => u22 | 23 => u23 | 4 => u4 | 5 => u5 | _ => undef) (fun i => [14, 15, 16, 17, 18, 19, 20, 21, 13, 22, 23, 4].getD i 0) (fun i j hi hj h => (by decide : ∀ i, i < 12 → ∀ j, j < 12 → [14, 15, 16, 17, 18, 19, 20, 21, 13, 22, 23, 4].getD i 0 = [14, 15, 16, 17, 18, 19, 20, 21, 13, 22, 23, 4].getD j 0 → i = j) i hi j hj h)
        (fun i v _ => match i with | 0 => v = .agg #[.slice (some ⟨b, o, none⟩) l.length c] | 1 => v = .pointer (some ⟨w.heap.size, 0, none⟩) | 2 => v = .slice (some ⟨b, o, none⟩) l.length c | 3 => v = .int .i64 (k : Int) | 4 => v = .pointer (some ⟨b, o + k * 4, none⟩) | 5 => v = .pointer (some ⟨b, o + k * 4 + 3, none⟩) | 6 => v = .slice aK x.sels.len cK | 7 => v = .tuple #[.int .i64 ((400 : Int) - m), .bool (y != 8)] | 8 => v = .tuple #[.int .i64 ((400 : Int) - m), .bool (y != 8)] | 9 => v = .int .i64 ((400 : Int) - m) | 10 => v = .bool (y != 8) | 11 => v = .int .i64 ((400 : Int) - m) | _ => True) (fun _ _ W => Below wo.heap.size wo W) (Below.refl _ _).drew ?step ?last
      case step =>
        intro D u W i hi hLs hLi hbW hdep
        have HBJ : Hid (Below wo.heap.size wo W) := hbW
        have y0 := fun o => row_cell (((HBW.out.trans (hbW.mono HBW.out.size)).block _ z0).trans HC0.out) o
        have y2 := ((HBW.out.trans (hbW.mono HBW.out.size)).cell (p := ⟨b, o + k * 4 + 3, none⟩) hbl).trans HD3.out
        have hcase : i = 0 ∨ i = 1 ∨ i = 2 ∨ i = 3 ∨ i = 4 ∨ i = 5 ∨ i = 6 ∨ i = 7 ∨ i = 8 ∨ i = 9 ∨ i = 10 ∨ i = 11 := by omega
        clear hbW hLi hi
        rcases hcase with rfl | rfl | rfl | rfl | rfl | rfl | rfl | rfl | rfl | rfl | rfl | rfl
        · refine wpOp_step rfl (fun K hK => ?_)
          clear hdep
          go_simp
          exact hK _ _ ⟨.agg #[.slice (some ⟨b, o, none⟩) l.length c], by simp [G.upd], fun _ _ h => h, rfl, HBJ.out⟩
        · refine wpOp_step rfl (fun K hK => ?_)
          clear hdep
          go_simp
          exact hK _ _ ⟨.pointer (some ⟨w.heap.size, 0, none⟩), by simp [G.upd], fun _ _ h => h, rfl, HBJ.out⟩
        · have d1 : u 15 = .pointer (some ⟨w.heap.size, 0, none⟩) := (hdep _ rfl ⟨1, .data⟩ (by simp) rfl).2
          refine wpOp_step rfl (fun K hK => ?_)
          clear hdep
          go_simp
          exact hK _ _ ⟨.slice (some ⟨b, o, none⟩) l.length c, by simp [G.upd, d1], fun _ _ h => h, rfl, HBJ.out⟩
        · refine wpOp_step rfl (fun K hK => ?_)
          clear hdep
          go_simp
          exact hK _ _ ⟨.int .i64 (k : Int), by simp [G.upd], fun _ _ h => h, rfl, HBJ.out⟩
        · have d2 : u 16 = .slice (some ⟨b, o, none⟩) l.length c := (hdep _ rfl ⟨2, .data⟩ (by simp) rfl).2
          have d3 : u 17 = .int .i64 (k : Int) := (hdep _ rfl ⟨3, .data⟩ (by simp) rfl).2
          refine wpOp_step rfl (fun K hK => ?_)
          clear hdep
          go_simp
          exact hK _ _ ⟨.pointer (some ⟨b, o + k * 4, none⟩), by simp [G.upd, d2, d3], fun _ _ h => h, rfl, HBJ.out⟩
        · have d4 : u 18 = .pointer (some ⟨b, o + k * 4, none⟩) := (hdep _ rfl ⟨4, .data⟩ (by simp) rfl).2
          refine wpOp_step rfl (fun K hK => ?_)
          clear hdep
          go_simp
          exact hK _ _ ⟨.pointer (some ⟨b, o + k * 4 + 3, none⟩), by simp [G.upd, d4], fun _ _ h => h, rfl, HBJ.out⟩
        · have d5 : u 19 = .pointer (some ⟨b, o + k * 4 + 3, none⟩) := (hdep _ rfl ⟨5, .data⟩ (by simp) rfl).2
          refine wpOp_step rfl (fun K hK => ?_)
          clear hdep
          go_simp
          exact hK _ _ ⟨.slice aK x.sels.len cK, by simp [G.upd, d5], fun _ _ h => h, rfl, HBJ.out⟩
        · have d0 : u 14 = .agg #[.slice (some ⟨b, o, none⟩) l.length c] := (hdep _ rfl ⟨0, .data⟩ (by simp) rfl).2
          have d6 : u 20 = .slice aK x.sels.len cK := (hdep _ rfl ⟨6, .data⟩ (by simp) rfl).2
          have HQ : Hid _ := HQ.out W (HBW.out.trans (HBJ.out.mono HBW.out.size))
          refine wpOp_step rfl (fun K hK => ?_)
          clear hdep
          go_simp
          refine Calls.mono HQ.out ?_
          rintro e w8 ⟨rfl, hb8⟩
          exact hK _ _ ⟨.tuple #[.int .i64 ((400 : Int) - m), .bool (y != 8)], by simp [G.upd, d0, d6], fun _ _ h => h, rfl, HBJ.out.trans (hb8.mono HBJ.out.size)⟩
        · have d7 : u 21 = .tuple #[.int .i64 ((400 : Int) - m), .bool (y != 8)] := (hdep _ rfl ⟨7, .data⟩ (by simp) rfl).2
          refine wpOp_step rfl (fun K hK => ?_)
          clear hdep
          go_simp
          exact hK _ _ ⟨.tuple #[.int .i64 ((400 : Int) - m), .bool (y != 8)], by simp [G.upd, d7], fun _ _ h => h, rfl, HBJ.out⟩
        · have d8 : u 13 = .tuple #[.int .i64 ((400 : Int) - m), .bool (y != 8)] := (hdep _ rfl ⟨8, .data⟩ (by simp) rfl).2
          refine wpOp_step rfl (fun K hK => ?_)
          clear hdep
          go_simp
          exact hK _ _ ⟨.int .i64 ((400 : Int) - m), by simp [G.upd, d8], fun _ _ h => h, rfl, HBJ.out⟩
        · have d8 : u 13 = .tuple #[.int .i64 ((400 : Int) - m), .bool (y != 8)] := (hdep _ rfl ⟨8, .data⟩ (by simp) rfl).2
          refine wpOp_step rfl (fun K hK => ?_)
          clear hdep
          go_simp
          exact hK _ _ ⟨.bool (y != 8), by simp [G.upd, d8], fun _ _ h => h, rfl, HBJ.out⟩
        · have d9 : u 22 = .int .i64 ((400 : Int) - m) := (hdep _ rfl ⟨9, .data⟩ (by simp) rfl).2
          refine wpOp_step rfl (fun K hK => ?_)
          clear hdep
          go_simp
          exact hK _ _ ⟨.int .i64 ((400 : Int) - m), by simp [G.upd, d9], fun _ _ h => h, rfl, HBJ.out⟩
      case last =>
        intro D u W hLs hD hbW hp
        have HBL : Hid (Below wo.heap.size wo W) := hbW
        have d4 : u 4 = .int .i64 ((400 : Int) - m) := hp 11 (by omega)
        have d10 : u 23 = .bool (y != 8) := hp 10 (by omega)
        clear hp hbW
        unfold G.wpTail
        refine wpOp_step rfl (fun K hK => ?_)
        go_simp
        refine hK _ _ ?_
        clear hK
        unfold G.wpTail
        go_wp2_with fail
        go_meet
        exact ⟨by first | rfl | exact d4, by first | rfl | exact d10, HBL⟩
    obtain ⟨rfl, rfl, HBX⟩ := hcut
    obtain ⟨wz, rfl⟩ : ∃ z, z = wc := ⟨_, rfl⟩
    have BWZ : Hid (Below V.heap.size V wz) := HBW.out.trans (HBX.out.mono HBW.out.size)
    have GBZ : Hid (Below w.heap.size w wz) := HB0.out.trans (BWZ.out.mono HB0.out.size)
    rcases hcod with rfl | rfl | rfl
    · have hm4 : m ≤ 400 := HTP.out.2.1 rfl
      have hge : ¬ ((400 : Int) - m < 0) := by omega
      have HT2 : Hid _ := HNXT.out rfl
      go_wp2_with fail
      exact ⟨⟨k + 1, by omega, by go_num, BWZ, HT2⟩, by simp [intOf]; omega⟩
    · have hm4 : m = 401 := HTP.out.2.2 rfl
      subst hm4
      have HE : Hid _ := HBAD.out (by decide)
      go_wp2_with fail
      go_ret
      exact ⟨⟨6, rfl, HE.out⟩, GBZ.out⟩
    · have HE : Hid _ := HBAD.out (by decide)
      go_wp2_with fail
      go_ret
      exact ⟨⟨8, rfl, HE.out⟩, GBZ.out⟩
end Go.Proofs.YtkjndghkimnjeaaGreat
namespace Go.Proofs.YtkjndghkimnjeaaGreat
open Go.ChangeShapes Go.WideShapes Go.ChangeAt Go.RowKit
set_option linter.unusedVariables false

/-- A spot's value. -/
def spV (h : Hd) (n : Nat) (a1 : Option Addr) (c1 : Nat) (a2 : Option Addr) (c2 : Nat) (a3 : Option Addr) (c3 : Nat) (t : G.Td) (at_ : Option Addr) (ct : Nat) (f : G.Fd) (af : Option Addr) (cf : Nat) (kn : Bool) : Value :=
  .agg #[.int .i64 h.k, .string h.al, .string h.nm, .slice a1 h.args.length c1, .slice a2 h.dirs.length c2, .slice a3 n c3, .string t.nm, .slice at_ t.fs.length ct, .string f.nm, .slice af f.args.length cf, .string f.ty, .bool f.ls, .bool f.bg, .bool kn]
theorem ret_i {a b : Int} (h : a = b) : Ending.returned (.int .i64 a) = .returned (.int .i64 b) := by rw [h]
theorem all_next {α : Type} {p : α → Bool} {l : List α} {k : Nat} (hk : k < l.length) (h : (l.take k).all p = true) (h2 : p l[k] = true) : (l.take (k + 1)).all p = true := by
  rw [List.take_succ_eq_append_getElem hk, List.all_append, h]; simp [h2]
theorem all_no {α : Type} {p : α → Bool} {l : List α} {k : Nat} (hk : k < l.length) (h2 : p l[k] = false) : l.all p = false := by
  rw [List.all_eq_false]
  exact ⟨l[k], List.getElem_mem hk, by simp [h2]⟩

set_option maxHeartbeats 4000000 in
set_option maxRecDepth 40000 in
theorem rule_dirs (h : Hd) (n : Nat) (a1 a2 a3 at_ af : Option Addr) (c1 c2 c3 ct cf : Nat) (t : G.Td) (f : G.Fd) (kn : Bool) (w : World) (r2 : DiRow 0 w.heap.size w a2 h.dirs) (hb : HdBd 1048576 h) (r : Int) (hr : r = if h.dirs.all dirB = true then 0 else 10) :
    Calls Tryz.prog 121 #[spV h n a1 c1 a2 c2 a3 c3 t at_ ct f af cf kn] w fun e w' => e = .returned (.int .i64 r) ∧ Below w.heap.size w w' := by
  have R2 : Hid (DiRow 0 w.heap.size w a2 h.dirs) := r2
  have hl : h.dirs.length ≤ 1048576 := hb.2.2.2.2.1
  have HRR : Hid (r = if h.dirs.all dirB = true then 0 else 10) := hr
  clear r2 hb hr
  unfold spV
  go_enter Tryz.func121, Tryz.ntmps121
  go_wp2_with fail
  go_loopw [9] (fun i w' => ∃ (k : Nat), k ≤ h.dirs.length ∧ i = .int .i64 k ∧ Below w.heap.size w w' ∧ Hid ((h.dirs.take k).all dirB = true)) (fun i _ => h.dirs.length - (intOf i).toNat)
  case atStart => exact ⟨0, by omega, rfl, (Below.refl _ _).alloc (Nat.le_refl _) _, rfl⟩
  case round =>
    obtain ⟨k, hk, rfl, hbw, HA⟩ := hrel
    have hbz := hbw.size
    by_cases hlt : k < h.dirs.length
    case neg =>
      have HN : Hid ((0 : Int) = r) := by
        have := HA.out
        rw [List.take_of_length_le (by omega)] at this
        rw [Hid, HRR.out, if_pos this]
      go_wp2_with fail
      go_ret
      exact ⟨ret_i HN.out, hbw⟩
    obtain ⟨b, o, ha, _, hbl, d0, d1, d2, d3⟩ := (R2.out.keep (Below.agree hbw (Nat.le_refl _))).cells_di k hlt
    subst ha
    have HBW : Hid _ := hbw
    clear hbw
    cases e2 : (h.dirs[k].v.k == 2) with
    | true =>
      have HF : Hid (dirB h.dirs[k] = true) := by unfold Hid dirB; rw [e2]; rfl
      have n2 : (h.dirs[k].v.k != 2) = false := by simp [bne, e2]
      go_wp2_with fail
      exact ⟨⟨k + 1, by omega, by go_num, HBW.out.alloc (by omega) _, all_next hlt HA.out HF.out⟩, by simp [intOf]; omega⟩
    | false =>
    have n2 : (h.dirs[k].v.k != 2) = true := by simp [bne, e2]
    cases e4 : (h.dirs[k].v.k == 4) with
    | true =>
      have n4 : (h.dirs[k].v.k != 4) = false := by simp [bne, e4]
      have HF : Hid (dirB h.dirs[k] = true) := by unfold Hid dirB; rw [e2, e4]; rfl
      go_wp2_with fail
      exact ⟨⟨k + 1, by omega, by go_num, HBW.out.alloc (by omega) _, all_next hlt HA.out HF.out⟩, by simp [intOf]; omega⟩
    | false =>
      have n4 : (h.dirs[k].v.k != 4) = true := by simp [bne, e4]
      have HN : Hid ((10 : Int) = r) := by
        have : h.dirs.all dirB = false := all_no hlt (by unfold dirB; rw [e2, e4]; rfl)
        rw [Hid, HRR.out, this]; rfl
      go_wp2_with fail
      go_ret
      exact ⟨ret_i HN.out, HBW.out.alloc (by omega) _⟩

set_option maxHeartbeats 1000000 in
theorem rule_inline (h : Hd) (n : Nat) (a1 a2 a3 at_ af : Option Addr) (c1 c2 c3 ct cf : Nat) (t : G.Td) (f : G.Fd) (kn : Bool) (w : World) :
    Calls Tryz.prog 123 #[spV h n a1 c1 a2 c2 a3 c3 t at_ ct f af cf kn] w fun e w' => e = .returned (.int .i64 (if ((h.k == 3) && !inlOK h.nm t.nm) = true then 12 else 0)) ∧ Below w.heap.size w w' := by
  unfold spV inlOK
  cases e3 : (h.k == 3) <;> cases e4 : (h.nm.toList == []) <;> cases e5 : (h.nm.toList == t.nm.toList) <;>
    (go_enter Tryz.func123, Tryz.ntmps123
     go_wp2_with fail
     go_ret
     exact ⟨rfl, (Below.refl _ _).alloc (Nat.le_refl _) _⟩)
set_option maxHeartbeats 1000000 in
theorem rule_field (h : Hd) (n : Nat) (a1 a2 a3 at_ af : Option Addr) (c1 c2 c3 ct cf : Nat) (t : G.Td) (f : G.Fd) (kn : Bool) (w : World) :
    Calls Tryz.prog 124 #[spV h n a1 c1 a2 c2 a3 c3 t at_ ct f af cf kn] w fun e w' => e = .returned (.int .i64 (if ((h.k == 1) && !kn) = true then 9 else 0)) ∧ Below w.heap.size w w' := by
  unfold spV
  cases e3 : (h.k == 1) <;> cases kn <;>
    (go_enter Tryz.func124, Tryz.ntmps124
     go_wp2_with fail
     go_ret
     exact ⟨rfl, (Below.refl _ _).alloc (Nat.le_refl _) _⟩)
set_option maxHeartbeats 1000000 in
theorem rule_leaf (h : Hd) (n : Nat) (a1 a2 a3 at_ af : Option Addr) (c1 c2 c3 ct cf : Nat) (t : G.Td) (f : G.Fd) (kn : Bool) (w : World) :
    Calls Tryz.prog 127 #[spV h n a1 c1 a2 c2 a3 c3 t at_ ct f af cf kn] w fun e w' => e = .returned (.int .i64 (if ((h.k == 1) && (G.isIn f.ty != decide (n = 0))) = true then 11 else 0)) ∧ Below w.heap.size w w' := by
  unfold spV G.isIn
  by_cases hn : n = 0
  · subst hn
    cases e3 : (h.k == 1) <;> cases e4 : (f.ty.toList == [73, 110, 116]) <;>
      (go_enter Tryz.func127, Tryz.ntmps127
       go_wp2_with fail
       go_ret
       exact ⟨rfl, (Below.refl _ _).alloc (Nat.le_refl _) _⟩)
  · have hn2 : ((n : Int) == 0) = false := by simp; omega
    have hn3 : decide (n = 0) = false := by simp [hn]
    rw [hn3]
    cases e3 : (h.k == 1) <;> cases e4 : (f.ty.toList == [73, 110, 116]) <;>
      (go_enter Tryz.func127, Tryz.ntmps127
       go_wp2_with fail
       go_ret
       exact ⟨rfl, (Below.refl _ _).alloc (Nat.le_refl _) _⟩)

set_option maxHeartbeats 1000000 in
theorem arg_fits (v : Va) (d : G.Ag) (w : World) :
    Calls Tryz.prog 145 #[.agg #[.int .i64 v.k, .int .i64 v.n, .string v.t], .agg #[.string d.nm, .bool d.need]] w fun e w' => e = .returned (.bool (fitB v d.need)) ∧ Below w.heap.size w w' := by
  unfold fitB
  generalize d.need = nd
  cases e1 : (v.k == 1) <;> cases e4 : (v.k == 4) <;> cases e3 : (v.k == 3) <;> cases nd <;>
    (go_enter Tryz.func145, Tryz.ntmps145
     go_wp2_with fail
     go_ret
     exact ⟨rfl, by repeat (first | exact Below.refl _ _ | refine Below.alloc ?_ (by first | omega | (simp <;> omega)) _)⟩)
theorem seenA_take {l : List Ar} {n : ByteArray} {k : Nat} (hk : k < l.length) : seenA (l.take (k + 1)) n = (seenA (l.take k) n || (l[k].nm.toList == n.toList)) := by
  unfold seenA; rw [List.take_succ_eq_append_getElem hk, List.any_append]; simp
theorem seenA_of {l : List Ar} {n : ByteArray} {k j : Nat} (hk : k < l.length) (hj : k < j) (h : (l[k].nm.toList == n.toList) = true) : seenA (l.take j) n = true := by
  unfold seenA
  rw [List.any_eq_true]
  exact ⟨l[k], by rw [List.mem_take_iff_getElem]; exact ⟨k, by omega, rfl⟩, h⟩
/-- All arguments are right: by places. -/
theorem argsN_at (f : G.Fd) : ∀ (l p : List Ar), argsN f p l = true ↔ ∀ i (h : i < l.length), seenA (p ++ l.take i) l[i].nm = false ∧ argB f l[i] = true
  | [], p => by simp [argsN]
  | x :: l, p => by
    have ih := argsN_at f l (p ++ [x])
    simp only [argsN, Bool.and_eq_true, Bool.not_eq_true', ih]
    constructor
    · rintro ⟨⟨h1, h2⟩, h3⟩ i hi
      cases i with
      | zero => exact ⟨by simpa using h1, h2⟩
      | succ i =>
        have := h3 i (by simpa using hi)
        simpa [List.append_assoc] using this
    · intro h
      refine ⟨by have := h 0 (by simp); simpa using this, fun i hi => ?_⟩
      have := h (i + 1) (by simpa using hi)
      simpa [List.append_assoc] using this
theorem argsN_yes {f : G.Fd} {l : List Ar} (h : ∀ i (h : i < l.length), seenA (l.take i) l[i].nm = false ∧ argB f l[i] = true) : argsN f [] l = true := (argsN_at f l []).2 (by simpa using h)
theorem argsN_no {f : G.Fd} {l : List Ar} {i : Nat} (hi : i < l.length) (h : seenA (l.take i) l[i].nm = true ∨ argB f l[i] = false) : argsN f [] l = false := by
  cases hc : argsN f [] l with
  | false => rfl
  | true =>
    have := (argsN_at f l []).1 hc i hi
    simp only [List.nil_append] at this
    rcases h with h | h
    · rw [this.1] at h; cases h
    · rw [this.2] at h; cases h
end Go.Proofs.YtkjndghkimnjeaaGreat
namespace Go.Proofs.YtkjndghkimnjeaaGreat
open Go.ChangeShapes Go.WideShapes Go.ChangeAt Go.RowKit
set_option linter.unusedVariables false

def needB (l : List Ar) (d : G.Ag) : Bool := !d.need || seenA l d.nm
theorem cell_of {B : Nat} {w w' : World} {p : Addr} {v : Value} (h : Below B w w') (hp : p.block < B) (hc : w.cell? p = some v) : w'.cell? p = some v := (h.cell hp).trans hc
theorem all_none {α : Type} {p : α → Bool} {l : List α} {k : Nat} (hk : k < l.length) (h2 : p l[k] = false) : ¬ l.all p = true := by rw [all_no hk h2]; simp
set_option maxHeartbeats 4000000 in
set_option maxRecDepth 40000 in
theorem rule_needs (h : Hd) (n : Nat) (a1 a2 a3 at_ af : Option Addr) (c1 c2 c3 ct cf : Nat) (t : G.Td) (f : G.Fd) (kn : Bool) (w : World) (r1 : ArRow 0 w.heap.size w a1 h.args) (hb : HdBd 1048576 h) (r2 : G.AgRow 0 w.heap.size w af f.args) (hf : f.args.length ≤ 1048576) (r : Int) (hr : r = if f.args.all (needB h.args) = true then 0 else 10) :
    Calls Tryz.prog 126 #[spV h n a1 c1 a2 c2 a3 c3 t at_ ct f af cf kn] w fun e w' => e = .returned (.int .i64 r) ∧ Below w.heap.size w w' := by
  have R1 : Hid (ArRow 0 w.heap.size w a1 h.args) := r1
  have R2 : Hid (G.AgRow 0 w.heap.size w af f.args) := r2
  have hl : h.args.length ≤ 1048576 := hb.2.2.1
  have HRR : Hid (r = if f.args.all (needB h.args) = true then 0 else 10) := hr
  clear r1 r2 hb hr
  unfold spV
  go_enter Tryz.func126, Tryz.ntmps126
  go_wp2_with fail
  go_step3
  go_wp2_with fail
  go_step3
  go_wp2_with fail
  go_loopw [11] (fun i w' => ∃ (k : Nat), k ≤ f.args.length ∧ i = .int .i64 k ∧ Below w.heap.size w w' ∧ w.heap.size + 1 ≤ w'.heap.size ∧ w'.cell? ⟨w.heap.size, 3, none⟩ = some (.slice a1 h.args.length c1) ∧ Hid ((f.args.take k).all (needB h.args) = true)) (fun i _ => f.args.length - (intOf i).toNat)
  case atStart => exact ⟨0, by omega, rfl, (Below.refl _ _).alloc (Nat.le_refl _) _, by simp, row_cell (heap_alloc_new _ _) 3, rfl⟩
  case round =>
    obtain ⟨k, hk, rfl, hbw, hbz, k3, HA⟩ := hrel
    by_cases hlt : k < f.args.length
    case neg =>
      have HN : Hid ((0 : Int) = r) := by
        have := HA.out
        rw [List.take_of_length_le (by omega)] at this
        rw [Hid, HRR.out, if_pos this]
      go_wp2_with fail
      rw [Exit.noGoto_ret]
      go_ret
      exact ⟨ret_i HN.out, hbw⟩
    obtain ⟨b, o, ha, _, hbl, d0, d1⟩ := G.AgRow.cells (G.AgRow.keep R2.out (Below.agree hbw (Nat.le_refl _))) k hlt
    subst ha
    have HBW : Hid _ := hbw
    clear hbw
    cases e2 : f.args[k].need with
    | false =>
      have HF : Hid (needB h.args f.args[k] = true) := by unfold Hid needB; rw [e2]; rfl
      rw [e2] at d1
      go_wp2_with fail
      exact ⟨⟨k + 1, by omega, by go_num, HBW.out.alloc (by omega) _, by simp; omega, cell_of ((Below.refl wr.heap.size wr).alloc (Nat.le_refl _) _) (show w.heap.size < _ by omega) k3, all_next hlt HA.out HF.out⟩, by simp [intOf]; omega⟩
    | true =>
      rw [e2] at d1
      obtain ⟨wo, rfl⟩ : ∃ wo : World, wo = wr := ⟨_, rfl⟩
      have k4 : ∀ v, (wo.alloc v).cell? ⟨w.heap.size, 3, none⟩ = some (.slice a1 h.args.length c1) := fun v => cell_of ((Below.refl wo.heap.size wo).alloc (Nat.le_refl _) _) (show w.heap.size < _ by omega) k3
      go_wp2_with fail
      go_loopw [22] (fun i w' => ∃ (m : Nat), m ≤ h.args.length ∧ i = .int .i64 m ∧ Below (wo.heap.size + 1) (wo.alloc (.cells #[.string f.args[k].nm, .bool true] 87)) w' ∧ Hid (seenA (h.args.take m) f.args[k].nm = false)) (fun i _ => h.args.length - (intOf i).toNat)
      case atStart => exact ⟨0, by omega, rfl, Below.refl _ _, rfl⟩
      case round =>
        obtain ⟨m, hm, rfl, hbm, HS⟩ := hrel
        have hmz := hbm.size
        have hwz : wo.heap.size + 1 ≤ wr.heap.size := by simpa using hmz
        have HBW2 : Hid (Below w.heap.size w wr) := (HBW.out.alloc (by omega) _).trans (hbm.mono (by omega))
        have K3 : Hid (wr.cell? ⟨w.heap.size, 3, none⟩ = some (.slice a1 h.args.length c1)) := cell_of hbm (show w.heap.size < _ by omega) (k4 _)
        have k6 : wr.cell? ⟨wo.heap.size, 0, none⟩ = some (.string f.args[k].nm) := cell_of hbm (show wo.heap.size < _ by omega) (row_cell (heap_alloc_new _ _) 0)
        have k7 : ∀ v, (wr.alloc v).cell? ⟨wo.heap.size, 0, none⟩ = some (.string f.args[k].nm) := fun v => cell_of ((Below.refl wr.heap.size wr).alloc (Nat.le_refl _) _) (show wo.heap.size < _ by omega) k6
        clear k4 k3 d0 d1 hmz
        have HBM : Hid _ := hbm
        clear hbm
        by_cases hmt : m < h.args.length
        case neg =>
          have HN : Hid ((10 : Int) = r) := by
            have h1 := HS.out
            rw [List.take_of_length_le (by omega)] at h1
            have h2 : needB h.args f.args[k] = false := by unfold needB; rw [e2, h1]; rfl
            rw [Hid, HRR.out, if_neg (all_none hlt h2)]
          go_wp2_with fail
          rw [Exit.noGoto_ret]
          go_ret
          exact ⟨ret_i HN.out, HBW2.out⟩
        obtain ⟨b', o', ha', _, hbl', g0, g1, g2, g3⟩ := Row.cells_ar (R1.out.keep (Below.agree HBW2.out (Nat.le_refl _))) m hmt
        subst ha'
        cases e5 : (h.args[m].nm.toList == f.args[k].nm.toList) with
        | true =>
          have HF : Hid (needB h.args f.args[k] = true) := by
            have := seenA_of hmt (Nat.lt_of_lt_of_le hmt (Nat.le_refl _)) e5
            rw [List.take_length] at this
            unfold Hid needB; rw [this]; simp
          go_wp2_with fail
          exact ⟨⟨k + 1, by omega, by go_num, HBW2.out.alloc (by omega) _, by simp; omega, cell_of ((Below.refl wr.heap.size wr).alloc (Nat.le_refl _) _) (show w.heap.size < _ by omega) K3.out, all_next hlt HA.out HF.out⟩, by simp [intOf]; omega⟩
        | false =>
          have HF : Hid (seenA (h.args.take (m + 1)) f.args[k].nm = false) := by rw [Hid, seenA_take hmt, HS.out, e5]; rfl
          go_wp2_with fail
          exact ⟨⟨m + 1, by omega, by go_num, HBM.out.alloc (by omega) _, HF⟩, by simp [intOf]; omega⟩
theorem needs_all (f : G.Fd) (l : List Ar) : f.args.all (needB l) = needsB f l := rfl
end Go.Proofs.YtkjndghkimnjeaaGreat
namespace Go.Proofs.YtkjndghkimnjeaaGreat
open Go.ChangeShapes Go.WideShapes Go.ChangeAt Go.RowKit
set_option linter.unusedVariables false

def fitsB (x : Ar) (d : G.Ag) : Bool := (d.nm.toList == x.nm.toList) && fitB x.v d.need
theorem any_next {α : Type} {p : α → Bool} {l : List α} {k : Nat} (hk : k < l.length) (h : (l.take k).any p = false) (h2 : p l[k] = false) : (l.take (k + 1)).any p = false := by
  rw [List.take_succ_eq_append_getElem hk, List.any_append, h]; simp [h2]
theorem any_yes {α : Type} {p : α → Bool} {l : List α} {k : Nat} (hk : k < l.length) (h2 : p l[k] = true) : l.any p = true := List.any_eq_true.2 ⟨_, List.getElem_mem hk, h2⟩
def argsTo (f : G.Fd) (l : List Ar) (k : Nat) : Prop := ∀ i (h : i < l.length), i < k → seenA (l.take i) l[i].nm = false ∧ argB f l[i] = true
theorem argsTo.next {f : G.Fd} {l : List Ar} {k : Nat} (h : argsTo f l k) (hk : k < l.length) (h1 : seenA (l.take k) l[k].nm = false) (h2 : argB f l[k] = true) : argsTo f l (k + 1) := by
  intro i hi hik
  by_cases he : i = k
  · subst he; exact ⟨h1, h2⟩
  · exact h i hi (by omega)
theorem alloc_cell {w : World} {p : Addr} {v : Value} (o : Obj) (hp : p.block < w.heap.size) (hc : w.cell? p = some v) : (w.alloc o).cell? p = some v := cell_of ((Below.refl w.heap.size w).alloc (Nat.le_refl _) _) hp hc
set_option maxHeartbeats 8000000 in
set_option maxRecDepth 40000 in
theorem rule_args (h : Hd) (n : Nat) (a1 a2 a3 at_ af : Option Addr) (c1 c2 c3 ct cf : Nat) (t : G.Td) (f : G.Fd) (kn : Bool) (w : World) (r1 : ArRow 0 w.heap.size w a1 h.args) (hc : h.args.length ≤ c1) (hb : HdBd 1048576 h) (r2 : G.AgRow 0 w.heap.size w af f.args) (hf : f.args.length ≤ 1048576) (r : Int) (hr : r = if argsN f [] h.args = true then 0 else 10) :
    Calls Tryz.prog 125 #[spV h n a1 c1 a2 c2 a3 c3 t at_ ct f af cf kn] w fun e w' => e = .returned (.int .i64 r) ∧ Below w.heap.size w w' := by
  have R1 : Hid (ArRow 0 w.heap.size w a1 h.args) := r1
  have R2 : Hid (G.AgRow 0 w.heap.size w af f.args) := r2
  have hl : h.args.length ≤ 1048576 := hb.2.2.1
  have HRR : Hid (r = if argsN f [] h.args = true then 0 else 10) := hr
  clear r1 r2 hb hr
  unfold spV
  go_enter Tryz.func125, Tryz.ntmps125
  go_wp2_with fail
  go_step3
  go_wp2_with fail
  go_step3
  go_wp2_with fail
  go_loopw [13] (fun i w' => ∃ (k : Nat), k ≤ h.args.length ∧ i = .int .i64 k ∧ Below w.heap.size w w' ∧ w.heap.size + 1 ≤ w'.heap.size ∧ w'.cell? ⟨w.heap.size, 3, none⟩ = some (.slice a1 h.args.length c1) ∧ w'.cell? ⟨w.heap.size, 9, none⟩ = some (.slice af f.args.length cf) ∧ Hid (argsTo f h.args k)) (fun i _ => h.args.length - (intOf i).toNat)
  case atStart => exact ⟨0, by omega, rfl, (Below.refl _ _).alloc (Nat.le_refl _) _, by simp, row_cell (heap_alloc_new _ _) 3, row_cell (heap_alloc_new _ _) 9, fun i _ hi => absurd hi (by omega)⟩
  case round =>
    obtain ⟨k, hk, rfl, hbw, hbz, k3, k9, HA⟩ := hrel
    by_cases hlt : k < h.args.length
    case neg =>
      have HN : Hid ((0 : Int) = r) := by
        rw [Hid, HRR.out, if_pos (argsN_yes fun i hi => HA.out i hi (by omega))]
      go_wp2_with fail
      try rw [Exit.noGoto_ret]
      go_ret
      exact ⟨ret_i HN.out, hbw⟩
    obtain ⟨b, o, ha, _, hbl, d0, d1, d2, d3⟩ := Row.cells_ar (R1.out.keep (Below.agree hbw (Nat.le_refl _))) k hlt
    subst ha
    have HBW : Hid _ := hbw
    clear hbw
    obtain ⟨wo, rfl⟩ : ∃ wo : World, wo = wr := ⟨_, rfl⟩
    have k4 : ∀ v, (wo.alloc v).cell? ⟨w.heap.size, 3, none⟩ = some (.slice (some ⟨b, o, none⟩) h.args.length c1) := fun v => alloc_cell _ (show w.heap.size < _ by omega) k3
    have K9 : Hid (∀ v, (wo.alloc v).cell? ⟨w.heap.size, 9, none⟩ = some (.slice af f.args.length cf)) := fun v => alloc_cell _ (show w.heap.size < _ by omega) k9
    clear k9
    go_wp2_with fail
    go_loopw [24] (fun i w' => ∃ (m : Nat), m ≤ k ∧ i = .int .i64 m ∧ Below (wo.heap.size + 1) (wo.alloc (.cells #[.string h.args[k].nm, .int .i64 h.args[k].v.k, .int .i64 h.args[k].v.n, .string h.args[k].v.t] 134)) w' ∧ Hid (seenA (h.args.take m) h.args[k].nm = false)) (fun i _ => k - (intOf i).toNat)
    case atStart => exact ⟨0, by omega, rfl, Below.refl _ _, rfl⟩
    case round =>
      obtain ⟨m, hm, rfl, hbm, HS⟩ := hrel
      have hmz := hbm.size
      have hwz : wo.heap.size + 1 ≤ wr.heap.size := by simpa using hmz
      have HBW2 : Hid (Below w.heap.size w wr) := (HBW.out.alloc (by omega) _).trans (hbm.mono (by omega))
      have K3 : Hid (wr.cell? ⟨w.heap.size, 3, none⟩ = some (.slice (some ⟨b, o, none⟩) h.args.length c1)) := cell_of hbm (show w.heap.size < _ by omega) (k4 _)
      have k9 : wr.cell? ⟨w.heap.size, 9, none⟩ = some (.slice af f.args.length cf) := cell_of hbm (show w.heap.size < _ by omega) (K9.out _)
      have k6 : wr.cell? ⟨wo.heap.size, 0, none⟩ = some (.string h.args[k].nm) := cell_of hbm (show wo.heap.size < _ by omega) (row_cell (heap_alloc_new _ _) 0)
      have k7 : ∀ v, (wr.alloc v).cell? ⟨wo.heap.size, 0, none⟩ = some (.string h.args[k].nm) := fun v => alloc_cell _ (show wo.heap.size < _ by omega) k6
      have KS : Hid (wr.cell? ⟨wo.heap.size, 1, none⟩ = some (.int .i64 h.args[k].v.k) ∧ wr.cell? ⟨wo.heap.size, 2, none⟩ = some (.int .i64 h.args[k].v.n) ∧ wr.cell? ⟨wo.heap.size, 3, none⟩ = some (.string h.args[k].v.t)) := ⟨cell_of hbm (show wo.heap.size < _ by omega) (row_cell (heap_alloc_new _ _) 1), cell_of hbm (show wo.heap.size < _ by omega) (row_cell (heap_alloc_new _ _) 2), cell_of hbm (show wo.heap.size < _ by omega) (row_cell (heap_alloc_new _ _) 3)⟩
      clear k4 k3 d0 d1 d2 d3 hmz
      have HBM : Hid _ := hbm
      clear hbm
      by_cases hmt : m < k
      case pos =>
        obtain ⟨b', o', ha', _, hbl', g0, g1, g2, g3⟩ := Row.cells_ar (R1.out.keep (Below.agree HBW2.out (Nat.le_refl _))) m (by omega)
        obtain ⟨rfl, rfl⟩ : b' = b ∧ o' = o := by injection ha' with h1; injection h1 with h1 h2; exact ⟨h1.symm, h2.symm⟩
        clear k9
        cases e5 : (h.args[m].nm.toList == h.args[k].nm.toList) with
        | true =>
          have HN : Hid ((10 : Int) = r) := by
            have h1 : argsN f [] h.args = false := argsN_no hlt (.inl (seenA_of (by omega) hmt e5))
            rw [Hid, HRR.out, h1]; rfl
          go_wp2_with fail
          try rw [Exit.noGoto_ret]
          go_ret
          exact ⟨ret_i HN.out, HBW2.out.alloc (by omega) _⟩
        | false =>
          have HF : Hid (seenA (h.args.take (m + 1)) h.args[k].nm = false) := by rw [Hid, seenA_take (by omega), HS.out, e5]; rfl
          go_wp2_with fail
          exact ⟨⟨m + 1, by omega, by go_num, HBM.out.alloc (by omega) _, HF⟩, by simp [intOf]; omega⟩
      case neg =>
        have HS2 : Hid (seenA (h.args.take k) h.args[k].nm = false) := by have := HS.out; rwa [show m = k by omega] at this
        clear HS HBM
        obtain ⟨wi, rfl⟩ : ∃ wi : World, wi = wr := ⟨_, rfl⟩
        go_wp2_with fail
        go_loopw [38] (fun i w' => ∃ (q : Nat), q ≤ f.args.length ∧ i = .int .i64 q ∧ Below wi.heap.size wi w' ∧ Hid ((f.args.take q).any (fitsB h.args[k]) = false)) (fun i _ => f.args.length - (intOf i).toNat)
        case atStart => exact ⟨0, by omega, rfl, Below.refl _ _, rfl⟩
        case round =>
          obtain ⟨q, hq, rfl, hbq, HQ⟩ := hrel
          have hqz := hbq.size
          have HBW3 : Hid (Below w.heap.size w wr) := HBW2.out.trans (hbq.mono (by omega))
          have K3' : Hid (wr.cell? ⟨w.heap.size, 3, none⟩ = some (.slice (some ⟨b, o, none⟩) h.args.length c1)) := cell_of hbq (show w.heap.size < _ by omega) K3.out
          have K9' : Hid (wr.cell? ⟨w.heap.size, 9, none⟩ = some (.slice af f.args.length cf)) := cell_of hbq (show w.heap.size < _ by omega) k9
          have j0 : ∀ v, (wr.alloc v).cell? ⟨wo.heap.size, 0, none⟩ = some (.string h.args[k].nm) := fun v => alloc_cell _ (show wo.heap.size < _ by omega) (cell_of hbq (show wo.heap.size < _ by omega) k6)
          have j1 : ∀ v, (wr.alloc v).cell? ⟨wo.heap.size, 1, none⟩ = some (.int .i64 h.args[k].v.k) := fun v => alloc_cell _ (show wo.heap.size < _ by omega) (cell_of hbq (show wo.heap.size < _ by omega) KS.out.1)
          have j2 : ∀ v, (wr.alloc v).cell? ⟨wo.heap.size, 2, none⟩ = some (.int .i64 h.args[k].v.n) := fun v => alloc_cell _ (show wo.heap.size < _ by omega) (cell_of hbq (show wo.heap.size < _ by omega) KS.out.2.1)
          have j3 : ∀ v, (wr.alloc v).cell? ⟨wo.heap.size, 3, none⟩ = some (.string h.args[k].v.t) := fun v => alloc_cell _ (show wo.heap.size < _ by omega) (cell_of hbq (show wo.heap.size < _ by omega) KS.out.2.2)
          clear k6 k7 k9
          have HBQ : Hid _ := hbq
          clear hbq
          by_cases hqt : q < f.args.length
          case neg =>
            have HN : Hid ((10 : Int) = r) := by
              have h1 := HQ.out
              rw [List.take_of_length_le (by omega)] at h1
              have h2 : argsN f [] h.args = false := argsN_no hlt (.inr h1)
              rw [Hid, HRR.out, h2]; rfl
            go_wp2_with fail
            try rw [Exit.noGoto_ret]
            go_ret
            exact ⟨ret_i HN.out, HBW3.out⟩
          obtain ⟨b2, o2, ha2, _, hbl2, g0, g1⟩ := G.AgRow.cells (G.AgRow.keep R2.out (Below.agree HBW3.out (Nat.le_refl _))) q hqt
          subst ha2
          cases e5 : (f.args[q].nm.toList == h.args[k].nm.toList) with
          | false =>
            have HF : Hid ((f.args.take (q + 1)).any (fitsB h.args[k]) = false) := any_next hqt HQ.out (by unfold fitsB; rw [e5]; rfl)
            go_wp2_with fail
            exact ⟨⟨q + 1, by omega, by go_num, HBQ.out.alloc (by omega) _, HF⟩, by simp [intOf]; omega⟩
          | true =>
            cases e6 : fitB h.args[k].v f.args[q].need with
            | true =>
              have HF : Hid (argsTo f h.args (k + 1)) := HA.out.next hlt HS2.out (any_yes hqt (by show fitsB _ _ = true; unfold fitsB; rw [e5, e6]; rfl))
              go_wp2_with fail
              refine (arg_fits h.args[k].v f.args[q] _).mono ?_
              rw [e6]
              rintro e w1 ⟨rfl, hb1⟩
              have hz1 : wr.heap.size + 1 ≤ w1.heap.size := by have := hb1.size; simpa using this
              have hb2 : Below wr.heap.size wr w1 := ((Below.refl _ _).alloc (Nat.le_refl _) _).trans (hb1.mono (by simp))
              have HB2 : Hid _ := hb2
              clear hb1 hb2
              go_wp2_with fail
              exact ⟨⟨k + 1, by omega, by go_num, HBW3.out.trans (HB2.out.mono (by omega)), by omega, cell_of HB2.out (show w.heap.size < _ by omega) K3'.out, cell_of HB2.out (show w.heap.size < _ by omega) K9'.out, HF⟩, by simp [intOf]; omega⟩
            | false =>
              have HF : Hid ((f.args.take (q + 1)).any (fitsB h.args[k]) = false) := any_next hqt HQ.out (by unfold fitsB; rw [e5, e6]; rfl)
              go_wp2_with fail
              refine (arg_fits h.args[k].v f.args[q] _).mono ?_
              rw [e6]
              rintro e w1 ⟨rfl, hb1⟩
              have hb2 : Below wr.heap.size wr w1 := ((Below.refl _ _).alloc (Nat.le_refl _) _).trans (hb1.mono (by simp))
              have HB2 : Hid _ := hb2
              clear hb1 hb2
              go_wp2_with fail
              exact ⟨⟨q + 1, by omega, by go_num, HBQ.out.trans (HB2.out.mono (by omega)), HF⟩, by simp [intOf]; omega⟩
end Go.Proofs.YtkjndghkimnjeaaGreat
namespace Go.Proofs.YtkjndghkimnjeaaGreat
open Go.ChangeShapes Go.WideShapes Go.ChangeAt Go.RowKit
set_option linter.unusedVariables false

def fdW (x : G.Fd) (a : Option Addr) (c : Nat) : Value := .agg #[.string x.nm, .slice a x.args.length c, .string x.ty, .bool x.ls, .bool x.bg]
theorem ag_nil (lo hi : Nat) (w : World) (a : Option Addr) : G.AgRow lo hi w a [] := .inl rfl
theorem find_here {α : Type} {p : α → Bool} {l : List α} {k : Nat} (hk : k < l.length) (h : (l.take k).find? p = none) (h2 : p l[k] = true) : l.find? p = some l[k] := by
  have e : l.take k ++ l[k] :: l.drop (k + 1) = l := by rw [← List.drop_eq_getElem_cons hk, List.take_append_drop]
  have e2 : (l.take k ++ l[k] :: l.drop (k + 1)).find? p = some l[k] := by rw [List.find?_append, h, List.find?_cons, h2]; rfl
  rwa [e] at e2
/-- What fieldIn answers. -/
def InR (B : Nat) (w : World) (t : G.Td) (n : ByteArray) (e : Ending) : Prop := ∃ f af cf kn, e = .returned (.tuple #[fdW f af cf, .bool kn]) ∧ ((kn = false ∧ fldOf t n = none ∧ f = fd0) ∨ (kn = true ∧ fldOf t n = some f)) ∧ G.AgRow 0 B w af f.args
set_option maxHeartbeats 4000000 in
set_option maxRecDepth 40000 in
theorem fld_in (t : G.Td) (at_ : Option Addr) (ct : Nat) (n : ByteArray) (B : Nat) (w : World) (hB : B ≤ w.heap.size) (hr : G.FdRow 0 B w at_ t.fs) (hl : t.fs.length ≤ 1048576) :
    Calls Tryz.prog 146 #[.agg #[.string t.nm, .slice at_ t.fs.length ct], .string n] w fun e w' => InR B w t n e ∧ Below w.heap.size w w' := by
  have HR : Hid (G.FdRow 0 B w at_ t.fs) := hr
  clear hr
  cases e4 : (n.toList == [95, 95, 116, 121, 112, 101, 110, 97, 109, 101]) with
  | true =>
    have HN : Hid (InR B w t n (.returned (.tuple #[fdW fdTn none 0, .bool true]))) := ⟨fdTn, none, 0, true, rfl, .inr ⟨rfl, by unfold fldOf isTn; rw [e4]; rfl⟩, ag_nil _ _ _ _⟩
    go_enter Tryz.func146, Tryz.ntmps146
    go_wp2_with fail
    refine bodyPost_ret (v := .tuple #[fdW fdTn none 0, .bool true]) (by simp [results, Tryz.results146, go_sem, fdW, fdTn, G.bTn, G.bIn]) rfl ⟨HN.out, ?_⟩
    repeat (first | exact Below.refl _ _ | refine Below.setCell ?_ (by first | omega | (simp <;> omega)) _ | refine Below.alloc ?_ (by first | omega | (simp <;> omega)) _)
  | false =>
    have HE : Hid (fldOf t n = t.fs.find? fun f => f.nm.toList == n.toList) := by unfold Hid fldOf isTn; rw [e4]; rfl
    go_enter Tryz.func146, Tryz.ntmps146
    go_wp2_with fail
    go_loopw [14] (fun i w' => ∃ (k : Nat), k ≤ t.fs.length ∧ i = .int .i64 k ∧ Below (w.heap.size + 2) ((w.alloc (.cells #[.string t.nm, .slice at_ t.fs.length ct] 93)).alloc (.cells #[.string ⟨#[]⟩, .slice none 0 0, .string ⟨#[]⟩, .bool false, .bool false] 90)) w' ∧ Hid ((t.fs.take k).find? (fun f => f.nm.toList == n.toList) = none)) (fun i _ => t.fs.length - (intOf i).toNat)
    case atStart => exact ⟨0, by omega, rfl, Below.refl _ _, rfl⟩
    case round =>
      obtain ⟨k, hk, rfl, hb, HF⟩ := hrel
      have hbz : w.heap.size + 2 ≤ wr.heap.size := by have := hb.size; simpa using this
      have k11 := fun o => hb.cell (p := ⟨w.heap.size + 1, o, none⟩) (by first | omega | (simp <;> omega))
      have j11 := fun o => hb.frozen (p := ⟨w.heap.size + 1, o, none⟩) (by first | omega | (simp <;> omega))
      have HBW : Hid (Below w.heap.size w wr) := (((Below.refl _ _).alloc (Nat.le_refl _) _).alloc (by simp) _).trans (hb.mono (by omega))
      have HB : Hid _ := hb
      clear hb
      by_cases hlt : k < t.fs.length
      case neg =>
        have HN : Hid (InR B w t n (.returned (.tuple #[fdW fd0 none 0, .bool false]))) := ⟨fd0, none, 0, false, rfl, .inl ⟨rfl, by have := HF.out; rw [List.take_of_length_le (by omega)] at this; rw [HE.out, this], rfl⟩, ag_nil _ _ _ _⟩
        go_wp2_with fail
        refine bodyPost_ret (v := .tuple #[fdW fd0 none 0, .bool false]) (by simp [results, Tryz.results146, go_sem, fdW, fd0, k11]) rfl ⟨HN.out, ?_⟩
        repeat (first | exact HBW.out | refine Below.setCell ?_ (by first | omega | (simp <;> omega)) _ | refine Below.alloc ?_ (by first | omega | (simp <;> omega)) _)
      obtain ⟨b, o, a3, c3, ha, _, hbl, d0, d1, d2, d3, d4, r3⟩ := G.FdRow.cells (G.FdRow.keep HR.out (Below.agree HBW.out hB)) k hlt
      have hbl2 : b < w.heap.size := by omega
      obtain ⟨_, _, a3', c3', ha', _, _, _, d1', _, _, _, r3'⟩ := G.FdRow.cells HR.out k hlt
      have R3 : Hid (G.AgRow 0 B w a3 t.fs[k].args) := by
        rw [ha] at ha'
        injection ha' with h1; injection h1 with h1 h2
        subst h1 h2
        have := (HBW.out.cell (p := ⟨b, o + k * 5 + 1, none⟩) hbl2).symm.trans d1
        rw [d1'] at this
        injection this with h1; injection h1 with h1 h2 h3
        subst h1; exact r3'
      subst ha
      clear r3 r3' d1' ha'
      cases e5 : (t.fs[k].nm.toList == n.toList) with
      | false =>
        have HF2 : Hid ((t.fs.take (k + 1)).find? (fun f => f.nm.toList == n.toList) = none) := by
          rw [Hid, List.take_succ_eq_append_getElem hlt, List.find?_append, HF.out]; simp [e5]
        go_wp2_with fail
        exact ⟨⟨k + 1, by omega, by go_num, HB.out.alloc (by omega) _, HF2⟩, by simp [intOf]; omega⟩
      | true =>
        have HN : Hid (InR B w t n (.returned (.tuple #[fdW t.fs[k] a3 c3, .bool true]))) := by
          refine ⟨t.fs[k], a3, c3, true, rfl, .inr ⟨rfl, ?_⟩, R3.out⟩
          rw [HE.out]
          exact find_here hlt HF.out e5
        have k12 := fun v o => (((Below.refl wr.heap.size wr).alloc (Nat.le_refl _) v).cell (p := ⟨w.heap.size + 1, o, none⟩) (show w.heap.size + 1 < _ by omega)).trans (k11 o)
        have j12 := fun v o => (((Below.refl wr.heap.size wr).alloc (Nat.le_refl _) v).frozen (p := ⟨w.heap.size + 1, o, none⟩) (show w.heap.size + 1 < _ by omega)).trans (j11 o)
        go_wp2_with fail
        refine bodyPost_ret (v := .tuple #[fdW t.fs[k] a3 c3, .bool true]) (by simp [results, Tryz.results146, go_sem, fdW, k12]) rfl ⟨HN.out, ?_⟩
        repeat (first | exact HBW.out | refine Below.setCell ?_ (by first | omega | (simp <;> omega)) _ | refine Below.alloc ?_ (by first | omega | (simp <;> omega)) _)

set_option maxHeartbeats 1000000 in
theorem type_def (x : De) (a : Option Addr) (n c : Nat) (w : World) :
    Calls Tryz.prog 95 #[.agg #[.int .i64 x.k, .string x.nm, .string x.on, .slice a n c]] w fun e w' => e = .returned (.string (tyNm x)) ∧ Below w.heap.size w w' := by
  unfold tyNm
  by_cases h1 : x.k = 1
  · rw [h1]
    go_enter Tryz.func95, Tryz.ntmps95
    go_wp2_with fail
    go_ret
    exact ⟨rfl, (Below.refl _ _).alloc (Nat.le_refl _) _⟩
  have e1 : (x.k == 1) = false := by simpa using h1
  rw [if_neg h1]
  by_cases h2 : x.k = 2
  · rw [h2]
    go_enter Tryz.func95, Tryz.ntmps95
    go_wp2_with fail
    go_ret
    exact ⟨rfl, (Below.refl _ _).alloc (Nat.le_refl _) _⟩
  have e2 : (x.k == 2) = false := by simpa using h2
  rw [if_neg h2]
  go_enter Tryz.func95, Tryz.ntmps95
  go_wp2_with fail
  go_ret
  exact ⟨rfl, (Below.refl _ _).alloc (Nat.le_refl _) _⟩
end Go.Proofs.YtkjndghkimnjeaaGreat
