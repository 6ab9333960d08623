/- Limits of a document, on both sides. -/
import Derived.Test.YtkjndghkimnjeaaGreatVaFlat
import Derived.Test.YtkjndghkimnjeaaGreatVaFields
import Derived.Test.YtkjndghkimnjeaaGreatVaMrgSpec
import Derived.Test.YtkjndghkimnjeaaGreatGRegionFive
namespace Go.Proofs.YtkjndghkimnjeaaGreat
open Go.ChangeShapes Go.WideShapes Go.ChangeAt Go.RowKit
set_option linter.unusedVariables false

theorem doc_size {l : List De} (h : docB l = true) : sizeL l ≤ 60 ∧ ∀ x ∈ l, defB x = true := by
  unfold docB at h
  simp only [Bool.and_eq_true, decide_eq_true_eq, List.all_eq_true] at h
  exact ⟨h.2, h.1.2⟩
theorem sizeL_mem : ∀ {l : List De} {x : De}, x ∈ l → x.sels.size ≤ sizeL l
  | y :: l, x, hx => by
    rcases List.mem_cons.1 hx with rfl | hx
    · simp [sizeL]
    · have := sizeL_mem hx; simp [sizeL]; omega
theorem allSp_len : ∀ l : List De, (allSp l).length ≤ sizeL l
  | [] => Nat.zero_le _
  | x :: l => by
    have h1 := allSp_len l
    have h2 := sprd_len x.sels
    have h3 : (allSp (x :: l)).length = (sprd x.sels).length + (allSp l).length := by
      unfold allSp
      rw [List.flatMap_cons, List.length_append]
      congr 1
      unfold sprdL
      rw [List.length_map]
    rw [h3]
    simp only [sizeL]
    omega
theorem okS_kinds : ∀ {d : Nat} {s : Sels}, okS d s = true → KOk s
  | _, .nil, _ => trivial
  | d, .cons h sub rest, hk => by
    simp only [okS, Bool.and_eq_true] at hk
    refine ⟨?_, okS_kinds hk.1.2, okS_kinds hk.2⟩
    have h1 : kindB h sub.isNil = true := by
      have := hk.1.1.2
      unfold hdB at this
      simp only [Bool.and_eq_true] at this
      exact this.2
    unfold kindB at h1
    by_cases e1 : h.k = 1
    · exact .inl e1
    · rw [if_neg e1] at h1
      by_cases e2 : h.k = 2
      · exact .inr (.inl e2)
      · rw [if_neg e2] at h1
        by_cases e3 : h.k = 3
        · exact .inr (.inr e3)
        · rw [if_neg e3] at h1; cases h1
theorem doc_kinds {l : List De} (h : docB l = true) : ∀ x ∈ l, KOk x.sels := fun x hx => by
  have := (doc_size h).2 x hx
  unfold defB at this
  simp only [Bool.and_eq_true] at this
  exact okS_kinds this.2
theorem argsN_nodup {f : G.Fd} : ∀ (xs ahead : List Ar), argsN f ahead xs = true → (xs.map fun a => a.nm.toList).Nodup ∧ ∀ x ∈ xs, ∀ y ∈ ahead, y.nm.toList ≠ x.nm.toList
  | [], ahead, _ => ⟨List.nodup_nil, fun x hx => by simp at hx⟩
  | x :: xs, ahead, h => by
    simp only [argsN, Bool.and_eq_true, Bool.not_eq_true'] at h
    obtain ⟨h1, h2⟩ := argsN_nodup xs (ahead ++ [x]) h.2
    have h3 : ∀ y ∈ ahead, y.nm.toList ≠ x.nm.toList := fun y hy e => by
      have : seenA ahead x.nm = true := List.any_eq_true.2 ⟨y, hy, by rw [e]; simp⟩
      rw [h.1.1] at this; cases this
    refine ⟨?_, fun z hz y hy => ?_⟩
    · rw [List.map_cons, List.nodup_cons]
      refine ⟨fun hm => ?_, h1⟩
      obtain ⟨z, hz, e⟩ := List.mem_map.1 hm
      exact h2 z hz x (by simp) e.symm
    · rcases List.mem_cons.1 hz with rfl | hz
      · exact h3 y hy
      · exact h2 z hz y (by simp [hy])
theorem setC_args {S : List G.Td} {D : List De} : ∀ {s : Sels} {d : Nat} {t : G.Td}, okS d s = true → setC S D t s = 0 → AOk s
  | .nil, _, _, _, _ => trivial
  | .cons h sub rest, d, t, hk, hc => by
    simp only [okS, Bool.and_eq_true] at hk
    simp only [setC] at hc
    have hs : selC D t h sub.isNil = 0 := by
      by_cases e : selC D t h sub.isNil = 0
      · exact e
      · rw [if_neg e] at hc; exact absurd hc e
    rw [if_pos hs] at hc
    have hsub : setC S D (inT S t h) sub = 0 := by
      by_cases e : setC S D (inT S t h) sub = 0
      · exact e
      · rw [if_neg e] at hc; exact absurd hc e
    rw [if_pos hsub] at hc
    refine ⟨?_, setC_args hk.1.2 hsub, setC_args hk.2 hc⟩
    have h1 : kindB h sub.isNil = true := by
      have := hk.1.1.2
      unfold hdB at this
      simp only [Bool.and_eq_true] at this
      exact this.2
    have empty : h.args.isEmpty = true → (h.args.map fun a => a.nm.toList).Nodup := fun he => by
      rw [List.isEmpty_iff] at he
      rw [he]; exact List.nodup_nil
    unfold kindB at h1
    by_cases e2 : h.k = 2
    · rw [if_neg (by omega), if_pos e2] at h1
      simp only [Bool.and_eq_true] at h1
      exact empty h1.1.2
    by_cases e3 : h.k = 3
    · rw [if_neg (by omega), if_neg e2, if_pos e3] at h1
      simp only [Bool.and_eq_true] at h1
      exact empty h1.1.2
    unfold selC at hs
    split at hs
    · cases hs
    · rw [if_neg (by simpa using e2), if_neg (by simpa using e3)] at hs
      split at hs
      · cases hs
      · rename_i f hf
        unfold fldC at hs
        split at hs
        · cases hs
        · rename_i hn
          exact (argsN_nodup h.args [] (by simpa using hn)).1
theorem docC_args {S : List G.Td} {D : List De} : ∀ {l : List De}, (∀ x ∈ l, defB x = true) → docC S D l = 0 → ∀ x ∈ l, AOk x.sels
  | [], _, _, x, hx => by simp at hx
  | y :: l, hd, hc, x, hx => by
    simp only [docC] at hc
    have h0 : defC S D y = 0 := by
      by_cases e : defC S D y = 0
      · exact e
      · rw [if_neg e] at hc; exact absurd hc e
    rw [if_pos h0] at hc
    rcases List.mem_cons.1 hx with rfl | hx
    · unfold defC at h0
      split at h0
      · cases h0
      · have := hd x (by simp)
        unfold defB at this
        simp only [Bool.and_eq_true] at this
        exact setC_args this.2 h0
    · exact docC_args (fun z hz => hd z (by simp [hz])) hc x hx
end Go.Proofs.YtkjndghkimnjeaaGreat
namespace Go.Proofs.YtkjndghkimnjeaaGreat
open Go.ChangeShapes Go.WideShapes Go.ChangeAt Go.RowKit Go.Maps
set_option linter.unusedVariables false
/-- All definitions merge; the code. -/
def Mrgs (l : List De) : Prop := ∀ x ∈ l, MOk l (toL x.sels)
def MrgC (l : List De) (y : Int) : Prop := (y = 15 ∧ ¬ Mrgs l) ∨ (y = 0 ∧ Mrgs l)
theorem MrgC.one {l : List De} {y y' : Int} (h : MrgC l y) (h' : MrgC l y') : y = y' := by
  rcases h with ⟨rfl, h⟩ | ⟨rfl, h⟩ <;> rcases h' with ⟨rfl, h'⟩ | ⟨rfl, h'⟩
  · rfl
  · exact absurd h' h
  · exact absurd h h'
  · rfl
set_option maxHeartbeats 8000000 in
set_option maxRecDepth 40000 in
theorem spec_merges (a : Option Addr) (c : Nat) (l : List De) (w : World) (hr : DeRow 0 w.heap.size w a l) (hb : DefsBd 1048576 l) (hko : ∀ x ∈ l, KOk x.sels) (hao : ∀ x ∈ l, AOk x.sels) (hex : ∀ x ∈ l, ∃ n, Ex l (toL x.sels) n ∧ n ≤ 400) :
    Calls Tryz.prog 45 #[.agg #[.slice a l.length c]] w fun e w' => (∃ y, e = .returned (.int .i64 y) ∧ MrgC l y) ∧ Below w.heap.size w w' := by
  obtain ⟨V, hV⟩ : ∃ V, V = w.alloc (.cells #[.slice a l.length c] 33) := ⟨_, rfl⟩
  have B0 : Below w.heap.size w V := by rw [hV]; exact (Below.refl _ _).alloc (Nat.le_refl _) _
  have c0 : V.heap[w.heap.size]? = some (.cells #[.slice a l.length c] 33 (0, 0)) := by rw [hV]; exact heap_alloc_new _ _
  have z0 := (Array.getElem?_eq_some_iff.1 c0).1
  obtain ⟨ac, hac⟩ := docAc (DeRow.up hr B0)
  have HAC : Hid (DocAc V a l ac) := hac
  have HB : Hid (DefsBd 1048576 l) := hb
  have HB0 : Hid (Below w.heap.size w V) := B0
  have HC0 : Hid _ := c0
  have HKO : Hid (∀ x ∈ l, KOk x.sels) := hko
  have HAO : Hid (∀ x ∈ l, AOk x.sels) := hao
  have HEX : Hid (∀ x ∈ l, ∃ n, Ex l (toL x.sels) n ∧ n ≤ 400) := hex
  have hll : l.length ≤ 1048576 := hb.1
  clear hr hb c0 B0 hac hko hao hex
  go_enter Tryz.func45, Tryz.ntmps45
  go_upto_region 1 with fail
  rw [← hV]
  clear hV
  go_wp2_with fail
  go_loopw [3] (fun i w' => ∃ (k : Nat), k ≤ l.length ∧ i = .int .i64 k ∧ Hid (Below V.heap.size V w') ∧ Hid (∀ x ∈ l.take k, MOk l (toL x.sels))) (fun i _ => l.length - (intOf i).toNat)
  case atStart => exact ⟨0, Nat.zero_le _, rfl, Below.refl _ _, fun x hx => by simp at hx⟩
  case round =>
    obtain ⟨k, hk, rfl, HBW, HT⟩ := hrel
    obtain ⟨wo, rfl⟩ : ∃ z, z = wr := ⟨_, rfl⟩
    have GB : Hid (Below w.heap.size w wo) := HB0.out.trans (HBW.out.mono HB0.out.size)
    have x0 := fun o => row_cell ((HBW.out.block _ z0).trans HC0.out) o
    by_cases hlt : k < l.length
    case neg =>
      have hlt' : ¬ (k : Int) < l.length := by omega
      have HE : Hid (MrgC l 0) := .inr ⟨rfl, by have := HT.out; rwa [List.take_of_length_le (by omega)] at this⟩
      clear HT
      go_wp2_with fail
      go_ret
      exact ⟨⟨0, rfl, HE.out⟩, GB.out⟩
    have hlt' : (k : Int) < l.length := by omega
    obtain ⟨b, o, ha, hbl, d0, d1, d2, d3, r3⟩ := HAC.out k hlt
    generalize ac k = pk at d3 r3
    obtain ⟨aK, cK⟩ := pk
    simp only at d3 r3
    have HR3 : Hid (SelRow 0 V.heap.size V aK l[k].sels) := r3
    have hm := List.getElem_mem hlt
    have HXB : Hid (DeBd 1048576 l[k]) := HB.out.2 _ hm
    obtain ⟨n, hen, hn4⟩ := HEX.out _ hm
    obtain ⟨mb, hmb⟩ : ∃ mb : Bool, (mb = true ↔ MOk l (toL l[k].sels)) := ⟨@decide _ (Classical.propDecidable (MOk l (toL l[k].sels))), by simp⟩
    have HQ : Hid (∀ W, Below V.heap.size V W → Calls Tryz.prog 82 #[.agg #[.slice a l.length c], .slice aK l[k].sels.len cK] W fun e w' => e = .returned (.bool mb) ∧ Below W.heap.size W w') := fun W hW => by
      have := spec_merge V a c l ac HAC.out HB.out HKO.out HAO.out n hn4 (toL l[k].sels) aK cK W (HKO.out _ hm).toL (HAO.out _ hm).toL hen (SelRow.fr2 HR3.out hW) (SelsBd.lb HXB.out.2.2.2 HXB.out.2.2.1) hW
      rw [toL_len] at this
      refine Calls.mono this ?_
      rintro e w' ⟨⟨b', rfl, hb'⟩, hbw'⟩
      refine ⟨?_, hbw'⟩
      have : b' = mb := by
        rw [Bool.eq_iff_iff]; exact hb'.trans hmb.symm
      rw [this]
    have HNX : Hid (mb = true → ∀ x ∈ l.take (k + 1), MOk l (toL x.sels)) := fun h x hx => by
      rw [List.take_succ_eq_append_getElem hlt] at hx
      rcases List.mem_append.1 hx with hx | hx
      · exact HT.out x hx
      · simp only [List.mem_singleton] at hx; subst hx; exact hmb.1 h
    have HBD : Hid (mb = false → MrgC l 15) := fun h => .inl ⟨rfl, fun hc => by
      have := hmb.2 (hc _ hm)
      rw [h] at this; cases this⟩
    have HD3 : Hid (V.cell? ⟨b, o + k * 4 + 3, none⟩ = some (.slice aK l[k].sels.len cK)) := d3
    subst ha
    clear d0 d1 d2 d3 r3 HT hm hen hmb
    obtain ⟨x, hx⟩ : ∃ x, x = l[k] := ⟨_, rfl⟩
    rw [← hx] at HD3 HQ
    clear hx HXB HR3 x0
    have x0 := fun o => row_cell ((HBW.out.block _ z0).trans HC0.out) o
    go_upto_region 4 with fail
    clear x0
    go_cut [19] from 4 to 19 (fun u wx => u = .bool (!mb) ∧ Hid (Below wo.heap.size wo wx))
    case first =>
      refine G.region_rel6 (n := 9) (by kernel_rfl) (by kernel_rfl) (by rfl) (fun u => ⟨#[.agg #[.slice (some ⟨b, o, none⟩) l.length c], .pointer (some ⟨w.heap.size, 0, none⟩), u2, .int .i64 k, .int .i64 k, .pointer (some ⟨w.heap.size, 0, none⟩), .slice (some ⟨b, o, none⟩) l.length c, .int .i64 l.length, .bool true, u9, u10, u 11, u 12, u 13, u 14, u 15, u 16, u 17, u 18, u 19], []⟩) (fun nz => match nz with | 11 => u11 | 12 => u12 | 13 => u13 | 14 => u14 | 15 => u15 | 16 => u16 | 17 => u17 | 18 => u18 | 19 => u19 | _ => undef) (fun iz => [11, 12, 13, 14, 15, 16, 17, 18, 19].getD iz 0) (fun iz jz hi hj h => (by decide : ∀ i, i < 9 → ∀ j, j < 9 → [11, 12, 13, 14, 15, 16, 17, 18, 19].getD i 0 = [11, 12, 13, 14, 15, 16, 17, 18, 19].getD j 0 → i = j) iz hi jz hj h)
        (fun iz v _ => match iz with | 0 => v = .agg #[.slice (some ⟨b, o, none⟩) l.length c] | 1 => v = .pointer (some ⟨w.heap.size, 0, none⟩) | 2 => v = .slice (some ⟨b, o, none⟩) l.length c | 3 => v = .int .i64 (k : Int) | 4 => v = .pointer (some ⟨b, o + k * 4, none⟩) | 5 => v = .pointer (some ⟨b, o + k * 4 + 3, none⟩) | 6 => v = .slice aK x.sels.len cK | 7 => v = .bool mb | 8 => v = .bool (!mb) | _ => True) (fun _ _ W => Below wo.heap.size wo W) (Below.refl _ _).drew ?step ?last
      case step =>
        intro D u W iq hi hLs hLi hbW hdep
        have HBJ : Hid (Below wo.heap.size wo W) := hbW
        have y0 := fun o => row_cell (((HBW.out.trans (hbW.mono HBW.out.size)).block _ z0).trans HC0.out) o
        have y2 := ((HBW.out.trans (hbW.mono HBW.out.size)).cell (p := ⟨b, o + k * 4 + 3, none⟩) hbl).trans HD3.out
        have hcase : iq = 0 ∨ iq = 1 ∨ iq = 2 ∨ iq = 3 ∨ iq = 4 ∨ iq = 5 ∨ iq = 6 ∨ iq = 7 ∨ iq = 8 := by omega
        clear hbW hLi hi
        rcases hcase with rfl | rfl | rfl | rfl | rfl | rfl | rfl | rfl | rfl
        · refine wpOp_step rfl (fun K hK => ?_)
          clear hdep
          go_simp
          exact hK _ _ ⟨.agg #[.slice (some ⟨b, o, none⟩) l.length c], by simp [G.upd], fun _ _ h => h, rfl, HBJ.out⟩
        · refine wpOp_step rfl (fun K hK => ?_)
          clear hdep
          go_simp
          exact hK _ _ ⟨.pointer (some ⟨w.heap.size, 0, none⟩), by simp [G.upd], fun _ _ h => h, rfl, HBJ.out⟩
        · have d1 : u 12 = .pointer (some ⟨w.heap.size, 0, none⟩) := (hdep _ rfl ⟨1, .data⟩ (by simp) rfl).2
          refine wpOp_step rfl (fun K hK => ?_)
          clear hdep
          go_simp
          exact hK _ _ ⟨.slice (some ⟨b, o, none⟩) l.length c, by simp [G.upd, d1], fun _ _ h => h, rfl, HBJ.out⟩
        · refine wpOp_step rfl (fun K hK => ?_)
          clear hdep
          go_simp
          exact hK _ _ ⟨.int .i64 (k : Int), by simp [G.upd], fun _ _ h => h, rfl, HBJ.out⟩
        · have d2 : u 13 = .slice (some ⟨b, o, none⟩) l.length c := (hdep _ rfl ⟨2, .data⟩ (by simp) rfl).2
          have d3 : u 14 = .int .i64 (k : Int) := (hdep _ rfl ⟨3, .data⟩ (by simp) rfl).2
          refine wpOp_step rfl (fun K hK => ?_)
          clear hdep
          go_simp
          exact hK _ _ ⟨.pointer (some ⟨b, o + k * 4, none⟩), by simp [G.upd, d2, d3], fun _ _ h => h, rfl, HBJ.out⟩
        · have d4 : u 15 = .pointer (some ⟨b, o + k * 4, none⟩) := (hdep _ rfl ⟨4, .data⟩ (by simp) rfl).2
          refine wpOp_step rfl (fun K hK => ?_)
          clear hdep
          go_simp
          exact hK _ _ ⟨.pointer (some ⟨b, o + k * 4 + 3, none⟩), by simp [G.upd, d4], fun _ _ h => h, rfl, HBJ.out⟩
        · have d5 : u 16 = .pointer (some ⟨b, o + k * 4 + 3, none⟩) := (hdep _ rfl ⟨5, .data⟩ (by simp) rfl).2
          refine wpOp_step rfl (fun K hK => ?_)
          clear hdep
          go_simp
          exact hK _ _ ⟨.slice aK x.sels.len cK, by simp [G.upd, d5], fun _ _ h => h, rfl, HBJ.out⟩
        · have d0 : u 11 = .agg #[.slice (some ⟨b, o, none⟩) l.length c] := (hdep _ rfl ⟨0, .data⟩ (by simp) rfl).2
          have d6 : u 17 = .slice aK x.sels.len cK := (hdep _ rfl ⟨6, .data⟩ (by simp) rfl).2
          have HQ : Hid _ := HQ.out W (HBW.out.trans (HBJ.out.mono HBW.out.size))
          refine wpOp_step rfl (fun K hK => ?_)
          clear hdep
          go_simp
          refine Calls.mono HQ.out ?_
          rintro e w8 ⟨rfl, hb8⟩
          exact hK _ _ ⟨.bool mb, by simp [G.upd, d0, d6], fun _ _ h => h, rfl, HBJ.out.trans (hb8.mono HBJ.out.size)⟩
        · have d7 : u 18 = .bool mb := (hdep _ rfl ⟨7, .data⟩ (by simp) rfl).2
          refine wpOp_step rfl (fun K hK => ?_)
          clear hdep
          go_simp
          exact hK _ _ ⟨.bool (!mb), by simp [G.upd, d7], fun _ _ h => h, rfl, HBJ.out⟩
      case last =>
        intro D u W hLs hD hbW hp
        have HBL : Hid (Below wo.heap.size wo W) := hbW
        have d8 : u 19 = .bool (!mb) := hp 8 (by omega)
        clear hp hbW
        go_wp2_with fail
        go_meet
        exact ⟨by first | rfl | exact d8, HBL⟩
    obtain ⟨rfl, HBX⟩ := hcut
    obtain ⟨wz, rfl⟩ : ∃ z, z = wc := ⟨_, rfl⟩
    have BWZ : Hid (Below V.heap.size V wz) := HBW.out.trans (HBX.out.mono HBW.out.size)
    have GBZ : Hid (Below w.heap.size w wz) := HB0.out.trans (BWZ.out.mono HB0.out.size)
    cases mb with
    | true =>
      have HT2 : Hid _ := HNX.out rfl
      go_wp2_with fail
      exact ⟨⟨k + 1, by omega, by go_num, BWZ, HT2⟩, by simp [intOf]; omega⟩
    | false =>
      have HE : Hid (MrgC l 15) := HBD.out rfl
      go_wp2_with fail
      go_ret
      exact ⟨⟨15, rfl, HE.out⟩, GBZ.out⟩
end Go.Proofs.YtkjndghkimnjeaaGreat
namespace Go.Proofs.YtkjndghkimnjeaaGreat
open Go.ChangeShapes Go.WideShapes Go.ChangeAt Go.RowKit Go.Maps
set_option linter.unusedVariables false
/-- Where the region 'w.setFault(w.by.within(x), within)' stands: 5 loads the selection, 6 asks what is within, 8 goes through it. -/
structure SfJ (U W0 : World) (p B : Nat) (R : Int → Nat → Prop) (D : Array Bool) (u : Nat → Value) (W : World) : Prop where
  lo : D.getD 8 false = false → Below U.heap.size U W
  hi : D.getD 8 false = true → ∃ (y : Int) (q : Nat), u 45 = .int .i64 y ∧ R y q ∧ W.heap[p]? = some (.cells #[.map (some B), .int .i64 q] 159 (0, 0)) ∧ Below W0.heap.size W0 W
  o6 : D.getD 6 false = true → D.getD 5 false = true
  o8 : D.getD 8 false = true → D.getD 6 false = true
theorem SfJ.start {U W0 : World} {p B m : Nat} {R : Int → Nat → Prop} {u : Nat → Value} : SfJ U W0 p B R (Array.replicate m false) u U.drew := by
  have no : ∀ j, (Array.replicate m false).getD j false = true → False := fun j hj => by
    by_cases hx : j < m
    · simp [hx] at hj
    · simp [hx] at hj
  exact ⟨fun _ => (Below.refl _ _).drew, fun h => (no _ h).elim, fun h => (no _ h).elim, fun h => (no _ h).elim⟩
theorem SfJ.step {U W0 W : World} {p B i d : Nat} {R : Int → Nat → Prop} {D : Array Bool} {u : Nat → Value} {val : Value} (h : SfJ U W0 p B R D u W) (h5 : i ≠ 5) (h6 : i ≠ 6) (h8 : i ≠ 8) (hd : 45 ≠ d) : SfJ U W0 p B R (D.setIfInBounds i true) (G.upd u d val) W := by
  refine ⟨?_, ?_, ?_, ?_⟩
  · rw [gD_ne h8]; exact h.lo
  · rw [gD_ne h8, G.upd_ne _ _ hd]; exact h.hi
  · rw [gD_ne h6, gD_ne h5]; exact h.o6
  · rw [gD_ne h8, gD_ne h6]; exact h.o8
theorem SfJ.no8 {U W0 W : World} {p B : Nat} {R : Int → Nat → Prop} {D : Array Bool} {u : Nat → Value} (h : SfJ U W0 p B R D u W) (hs : D.size = 10) (hi : D.getD 5 true = false ∨ D.getD 6 true = false) : D.getD 8 false = false := by
  cases h8 : D.getD 8 false with
  | false => rfl
  | true =>
    have a6 := h.o8 h8
    have a5 := h.o6 a6
    rcases hi with hi | hi
    · rw [gD_no (by omega) hi] at a5; cases a5
    · rw [gD_no (by omega) hi] at a6; cases a6
theorem SfJ.five {U W0 W : World} {p B : Nat} {R : Int → Nat → Prop} {D : Array Bool} {u : Nat → Value} {val : Value} (h : SfJ U W0 p B R D u W) (hs : D.size = 10) : SfJ U W0 p B R (D.setIfInBounds 5 true) (G.upd u 42 val) W := by
  refine ⟨?_, ?_, fun _ => gD_at (by omega), ?_⟩
  · rw [gD_ne (by decide)]; exact h.lo
  · rw [gD_ne (by decide), G.upd_ne _ _ (by decide)]; exact h.hi
  · rw [gD_ne (by decide), gD_ne (by decide)]; exact h.o8
theorem SfJ.six {U W0 W W' : World} {p B : Nat} {R : Int → Nat → Prop} {D : Array Bool} {u : Nat → Value} {val : Value} (h : SfJ U W0 p B R D u W) (hs : D.size = 10) (h5 : D.getD 5 false = true) (h8 : D.getD 8 false = false) (hb : Below W.heap.size W W') : SfJ U W0 p B R (D.setIfInBounds 6 true) (G.upd u 43 val) W' := by
  have e8 : (D.setIfInBounds 6 true).getD 8 false = false := by rw [gD_ne (by decide)]; exact h8
  refine ⟨fun _ => (h.lo h8).trans (hb.mono (h.lo h8).size), fun hc => (by rw [e8] at hc; cases hc), fun _ => by rw [gD_ne (by decide)]; exact h5, fun hc => (by rw [e8] at hc; cases hc)⟩
theorem SfJ.eight {U W0 W W' : World} {p B : Nat} {R : Int → Nat → Prop} {D : Array Bool} {u : Nat → Value} (h : SfJ U W0 p B R D u W) (hs : D.size = 10) (h6 : D.getD 6 false = true) {y : Int} {q : Nat} (hR : R y q) (hc : W'.heap[p]? = some (.cells #[.map (some B), .int .i64 q] 159 (0, 0))) (hb : Below W0.heap.size W0 W') : SfJ U W0 p B R (D.setIfInBounds 8 true) (G.upd u 45 (.int .i64 y)) W' := by
  have e8 : (D.setIfInBounds 8 true).getD 8 false = true := gD_at (by omega)
  refine ⟨fun hx => (by rw [e8] at hx; cases hx), fun _ => ⟨y, q, G.upd_at _ _ _, hR, hc, hb⟩, ?_, fun _ => by rw [gD_ne (by decide)]; exact h6⟩
  rw [gD_ne (by decide), gD_ne (by decide)]; exact h.o6
/-- What setFault tells, and leaves in its counter. -/
def WcP (w0 W0 : World) (B p : Nat) (l : List De) (n : Nat) : Prop := ∀ (s : List (Hd × Sels)) (a1 : Option Addr) (c1 d : Nat) (w : World), d ≤ 12 → FRow w0 0 W0.heap.size W0 a1 s → LB s → Below W0.heap.size W0 w → w.heap[p]? = some (.cells #[.map (some B), .int .i64 n] 159 (0, 0)) →
    Calls Tryz.prog 100 #[.pointer (some ⟨p, 0, none⟩), .slice a1 s.length c1, .int .i64 d] w fun e w' => (∃ (y : Int) (m : Nat), Lim l s d n y m ∧ e = .returned (.int .i64 y) ∧ w'.heap[p]? = some (.cells #[.map (some B), .int .i64 m] 159 (0, 0))) ∧ Below W0.heap.size W0 w'
set_option maxHeartbeats 8000000 in
set_option maxRecDepth 40000 in
theorem lim_set_fault (w0 W0 : World) (B p : Nat) (l : List De) (hdb : DefsBd 1048576 l) (hF : FrHeld w0 W0 B (frsOf l)) (h00 : Below w0.heap.size w0 W0) (hp : W0.heap.size ≤ p) (n : Nat) (hn : n ≤ 400) : WcP w0 W0 B p l n := by
  induction hN : 400 - n using Nat.strongRecOn generalizing n with
  | _ N ih =>
  subst hN
  intro s a1 c1 d w hd hr hlb hbw hcp
  have IH : Hid (∀ n', n < n' → n' ≤ 400 → WcP w0 W0 B p l n') := fun n' h1 h2 => ih (400 - n') (by omega) n' h2 rfl
  have HDB : Hid (DefsBd 1048576 l) := hdb
  have HLB : Hid (LB s) := hlb
  have HFH : Hid (FrHeld w0 W0 B (frsOf l)) := hF
  have HR : Hid (FRow w0 0 W0.heap.size W0 a1 s) := hr
  have H00 : Hid (Below w0.heap.size w0 W0) := h00
  have HBW : Hid (Below W0.heap.size W0 w) := hbw
  have HCP : Hid (w.heap[p]? = some (.cells #[.map (some B), .int .i64 n] 159 (0, 0))) := hcp
  have hsl : s.length ≤ 1048576 := hlb.1
  have hBl : B < W0.heap.size := hF.lt
  have HCT : Hid (s.length = 0 ∨ ∃ b o, a1 = some ⟨b, o, none⟩) := by
    rcases hr with rfl | ⟨b, o, rfl, _⟩
    · exact .inl rfl
    · exact .inr ⟨b, o, rfl⟩
  clear hr ih hdb hlb hF h00 hbw hcp
  go_enter Tryz.func100, Tryz.ntmps100
  go_wp2_with fail
  go_loopw [13] (fun i w' => ∃ (k m : Nat), i = .int .i64 k ∧ k ≤ s.length ∧ n ≤ m ∧ m ≤ 400 ∧ Hid (Below W0.heap.size W0 w') ∧ Hid (w'.heap[p]? = some (.cells #[.map (some B), .int .i64 m] 159 (0, 0))) ∧ Hid (∀ y q, Lim l (s.drop k) d m y q → Lim l s d n y q)) (fun i _ => s.length - (intOf i).toNat)
  case atStart => exact ⟨0, n, rfl, Nat.zero_le _, Nat.le_refl _, hn, HBW, HCP, fun y q h => by simpa using h⟩
  case round =>
    obtain ⟨k, m, rfl, hk, hnm, hm, HB, HC, HTO⟩ := hrel
    obtain ⟨wo, rfl⟩ : ∃ z, z = wr := ⟨_, rfl⟩
    by_cases hlt : k < s.length
    case neg =>
      have hlt' : ¬ (k : Int) < s.length := by omega
      have HE : Hid (Lim l s d n 0 m) := HTO.out 0 m (by rw [List.drop_of_length_le (by omega)]; exact .nil)
      clear HTO
      go_wp2_with fail
      go_ret
      exact ⟨⟨0, m, HE.out, rfl, HC.out⟩, HB.out⟩
    have hlt' : (k : Int) < s.length := by omega
    have HDR : Hid (s.drop k = s[k] :: s.drop (k + 1)) := List.drop_eq_getElem_cons hlt
    obtain ⟨b, o, b1, e1, b2, e2, b3, e3, ha, hbl, d0, d1, d2, d3, d4, d5, r1, q1, r2, r3⟩ := FRow.cells HR.out k hlt
    subst ha
    have HR3 : Hid (SelRow 0 w0.heap.size w0 b3 s[k].2) := r3
    have HXB : Hid (HdBd 1048576 s[k].1 ∧ s[k].2.len ≤ 1048576 ∧ SelsBd 1048576 s[k].2) := HLB.out.2 _ (List.getElem_mem hlt)
    replace d0 := (HB.out.cell (p := ⟨b, o + k * 6, none⟩) hbl).trans d0
    replace d1 := (HB.out.cell (p := ⟨b, o + k * 6 + 1, none⟩) hbl).trans d1
    replace d2 := (HB.out.cell (p := ⟨b, o + k * 6 + 2, none⟩) hbl).trans d2
    replace d3 := (HB.out.cell (p := ⟨b, o + k * 6 + 3, none⟩) hbl).trans d3
    replace d4 := (HB.out.cell (p := ⟨b, o + k * 6 + 4, none⟩) hbl).trans d4
    replace d5 := (HB.out.cell (p := ⟨b, o + k * 6 + 5, none⟩) hbl).trans d5
    have HDEEP : Hid (11 < d → Lim l s d n 8 m) := fun h => HTO.out 8 m (by rw [HDR.out]; exact .deep h)
    have HMANY : Hid (d ≤ 11 → 400 ≤ m → Lim l s d n 6 (m + 1)) := fun h h' => HTO.out 6 _ (by rw [HDR.out]; exact .many h h')
    have HSUB : Hid (d ≤ 11 → m < 400 → ∀ y q, Lim l (toL (inS l s[k])) (d + if (s[k].1.k == 1) = true then 1 else 0) (m + 1) y q → y ≠ 0 → Lim l s d n y q) := fun h h' y q h2 hy => HTO.out y q (by rw [HDR.out]; exact .bad h h' h2 hy)
    have HNXT : Hid (d ≤ 11 → m < 400 → ∀ q, Lim l (toL (inS l s[k])) (d + if (s[k].1.k == 1) = true then 1 else 0) (m + 1) 0 q → ∀ y m', Lim l (s.drop (k + 1)) d q y m' → Lim l s d n y m') := fun h h' q h2 y m' h3 => HTO.out y m' (by rw [HDR.out]; exact .ok h h' h2 h3)
    obtain ⟨x, hx⟩ : ∃ x, x = s[k] := ⟨_, rfl⟩
    rw [← hx] at d0 d1 d2 d3 d4 d5 HR3 HXB HSUB HNXT
    clear HTO HDR hx r1 q1 r2 r3
    have hpw : p < wo.heap.size := (Array.getElem?_eq_some_iff.1 HC.out).1
    obtain ⟨V, hV⟩ : ∃ V, V = wo.alloc (.cells #[.int .i64 x.1.k, .string x.1.al, .string x.1.nm, .slice b1 x.1.args.length e1, .slice b2 x.1.dirs.length e2, .slice b3 x.2.len e3] 115) := ⟨_, rfl⟩
    have BV : Below wo.heap.size wo V := by rw [hV]; exact (Below.refl _ _).alloc (Nat.le_refl _) _
    have c0 : V.heap[wo.heap.size]? = some (.cells #[.int .i64 x.1.k, .string x.1.al, .string x.1.nm, .slice b1 x.1.args.length e1, .slice b2 x.1.dirs.length e2, .slice b3 x.2.len e3] 115 (0, 0)) := by rw [hV]; exact heap_alloc_new _ _
    have cp := (BV.block _ hpw).trans HC.out
    have zV := (Array.getElem?_eq_some_iff.1 c0).1
    have HBV : Hid (Below W0.heap.size W0 V) := HB.out.trans (BV.mono HB.out.size)
    have HCV : Hid (V.heap[p]? = some (.cells #[.map (some B), .int .i64 m] 159 (0, 0))) := cp
    have x0 := fun o => row_cell c0 o
    have xp := fun o => row_cell cp o
    have yp := fun o => row_frozen cp o
    have HC0 : Hid _ := c0
    clear BV cp c0
    go_upto_region 4 with fail
    rw [← hV]
    clear hV d0 d1 d2 d3 d4 d5
    by_cases hd11 : 11 < d
    · have hd' : (11 : Int) < d := by omega
      have HE : Hid _ := HDEEP.out hd11
      go_wp2_with fail
      go_ret
      exact ⟨⟨8, m, HE.out, rfl, HCV.out⟩, HBV.out⟩
    have hd' : ¬ (11 : Int) < d := by omega
    obtain ⟨U, hU⟩ : ∃ U, U = V.setCell ⟨p, 1, none⟩ (.int .i64 ((m : Int) + 1)) := ⟨_, rfl⟩
    have cu : U.heap[p]? = some (.cells #[.map (some B), .int .i64 ((m : Int) + 1)] 159 (0, 0)) := by
      rw [hU]
      have := row_set HCV.out 1 (.int .i64 ((m : Int) + 1))
      simpa using this
    have cs : U.heap[wo.heap.size]? = _ := (by rw [hU, heap_setV _ _ _ _ _ (by omega)] : U.heap[wo.heap.size]? = V.heap[wo.heap.size]?).trans HC0.out
    have HBU : Hid (Below W0.heap.size W0 U) := by rw [Hid, hU]; exact HBV.out.setCell hp _
    have HCU : Hid (U.heap[p]? = some (.cells #[.map (some B), .int .i64 ((m + 1 : Nat) : Int)] 159 (0, 0))) := by rw [Hid, show ((m + 1 : Nat) : Int) = (m : Int) + 1 from rfl]; exact cu
    have HCS : Hid _ := cs
    go_upto_region 7 with fail
    rw [← hU]
    have hzU : wo.heap.size < U.heap.size := (Array.getElem?_eq_some_iff.1 cs).1
    have u0 := fun o => row_cell cs o
    have up := fun o => row_cell cu o
    clear hU xp yp x0 cs cu
    by_cases hm4 : m = 400
    · have HE : Hid (Lim l s d n 6 (m + 1)) := HMANY.out (by omega) (by omega)
      have hm5 : (400 : Int) < (m : Int) + 1 := by omega
      clear hm4
      go_wp2_with fail
      go_ret
      exact ⟨⟨6, m + 1, HE.out, rfl, HCU.out⟩, HBU.out⟩
    have hm3 : m < 400 := by omega
    have hm3' : ¬ (400 : Int) < (m : Int) + 1 := by omega
    obtain ⟨dq, hdq, HDQ⟩ : ∃ dq : Nat, dq ≤ 12 ∧ Hid (dq = d + if (x.1.k == 1) = true then 1 else 0) := ⟨_, by split <;> omega, rfl⟩
    go_upto_if 34 with fail
    go_cut [9] from 14 to 49 (fun v wx => v = .int .i64 (dq : Int) ∧ wx = U)
    case first =>
      cases hk1 : (x.1.k == 1) with
      | true =>
        have hdd : (dq : Int) = (d : Int) + 1 := by have := HDQ.out; rw [hk1] at this; simp at this; omega
        go_wp2_with fail
        go_meet
        exact ⟨by rw [hdd], rfl⟩
      | false =>
        have hdd : (dq : Int) = (d : Int) := by have := HDQ.out; rw [hk1] at this; simp at this; omega
        go_wp2_with fail
        go_meet
        exact ⟨by rw [hdd], rfl⟩
    obtain ⟨rfl, hwc⟩ := hcut
    have hwc' := hwc.symm
    clear hwc
    subst hwc'
    go_upto_region 12 with fail
    have hsx : x.1.nm.size ≤ maxLen := by have := HXB.out.1.2.1; unfold maxLen; omega
    have hB0 : U.heap[B]? = W0.heap[B]? := HBU.out.block _ hBl
    obtain ⟨bx, cx, hrx, hwi⟩ := within_any w0 B l x b1 b2 b3 e1 e2 e3 U (HFH.out.keep hB0) hsx HR3.out
    have HRX : Hid (FRow w0 0 W0.heap.size W0 bx (toL (inS l x))) := SelRow.fr2 hrx H00.out
    have HWI : Hid _ := hwi
    have HXL : Hid _ := (LB.inS HDB.out (x := x) HXB.out.2).1
    have hBU : B < U.heap.size := by have := HBU.out.size; omega
    have hpU : p < U.heap.size := (Array.getElem?_eq_some_iff.1 HCU.out).1
    clear hrx hwi hB0 u0 up
    refine G.region_rel5 (n := 9) (k := 1) (by omega) (by kernel_rfl) (by kernel_rfl) (by kernel_rfl) (fun u => ⟨#[.pointer (some ⟨p, 0, none⟩), .slice (some ⟨b, o, none⟩) s.length c1, .int .i64 d, undef, undef, undef, u6, undef, .pointer (some ⟨wo.heap.size, 0, none⟩), .int .i64 dq, u 10, .slice (some ⟨b, o, none⟩) s.length c1, .int .i64 s.length, .int .i64 k, u14, u15, u16, u17, u18, u19, u20, u21, u22, u23, u24, u25, u26, u27, u28, u29, u30, u31, u32, u33, u34, u35, u36, u 37, u 38, u 39, u 40, u 41, u 42, u 43, u 44, u 45, u46, u47, u48, u49], []⟩) (fun n => match n with | 37 => u37 | 38 => u38 | 39 => u39 | 40 => u40 | 41 => u41 | 42 => u42 | 43 => u43 | 44 => u44 | 45 => u45 | 10 => u10 | _ => undef) (fun i => [37, 38, 39, 40, 41, 42, 43, 44, 45].getD i 0) (fun i j hi hj h => (by decide : ∀ i, i < 9 → ∀ j, j < 9 → [37, 38, 39, 40, 41, 42, 43, 44, 45].getD i 0 = [37, 38, 39, 40, 41, 42, 43, 44, 45].getD j 0 → i = j) i hi j hj h)
      (fun i v _ => match i with | 0 => v = .pointer (some ⟨p, 0, none⟩) | 1 => v = .pointer (some ⟨p, 0, none⟩) | 2 => v = .pointer (some ⟨p, 0, none⟩) | 3 => v = .pointer (some ⟨p, 0, none⟩) | 4 => v = .map (some B) | 5 => v = .agg #[.int .i64 x.1.k, .string x.1.al, .string x.1.nm, .slice b1 x.1.args.length e1, .slice b2 x.1.dirs.length e2, .slice b3 x.2.len e3] | 6 => v = .slice bx (inS l x).len cx | 7 => v = .int .i64 (dq : Int) | _ => True) (SfJ U W0 p B (fun y q => Lim l (toL (inS l x)) dq (m + 1) y q)) SfJ.start ?step ?last
    case step =>
      intro D u W i hi hLs hLi hj hdep
      have HJ : Hid _ := hj
      have HL : Hid _ := hLi
      have HCP2 : Hid (∃ q : Nat, W.heap[p]? = some (.cells #[.map (some B), .int .i64 (q : Int)] 159 (0, 0))) := by
        cases h8 : D.getD 8 false with
        | false => exact ⟨m + 1, ((hj.lo h8).block _ hpU).trans HCU.out⟩
        | true => obtain ⟨y, q, _, _, h, _⟩ := hj.hi h8; exact ⟨q, h⟩
      have hcase : i = 0 ∨ i = 1 ∨ i = 2 ∨ i = 3 ∨ i = 4 ∨ i = 5 ∨ i = 6 ∨ i = 7 ∨ i = 8 := by omega
      clear hj hLi
      rcases hcase with rfl | rfl | rfl | rfl | rfl | rfl | rfl | rfl | rfl
      · refine wpOp_step rfl (fun K hK => ?_)
        clear hdep
        go_simp
        exact hK _ _ ⟨.pointer (some ⟨p, 0, none⟩), by simp [G.upd], fun _ _ h => h, rfl, HJ.out.step (by decide) (by decide) (by decide) (by decide)⟩
      · refine wpOp_step rfl (fun K hK => ?_)
        clear hdep
        go_simp
        exact hK _ _ ⟨.pointer (some ⟨p, 0, none⟩), by simp [G.upd], fun _ _ h => h, rfl, HJ.out.step (by decide) (by decide) (by decide) (by decide)⟩
      · have d1 : u 38 = .pointer (some ⟨p, 0, none⟩) := (hdep _ rfl ⟨1, .data⟩ (by simp) rfl).2
        refine wpOp_step rfl (fun K hK => ?_)
        clear hdep
        go_simp
        exact hK _ _ ⟨.pointer (some ⟨p, 0, none⟩), by simp [G.upd, d1], fun _ _ h => h, rfl, HJ.out.step (by decide) (by decide) (by decide) (by decide)⟩
      · have d2 : u 39 = .pointer (some ⟨p, 0, none⟩) := (hdep _ rfl ⟨2, .data⟩ (by simp) rfl).2
        refine wpOp_step rfl (fun K hK => ?_)
        clear hdep
        go_simp
        exact hK _ _ ⟨.pointer (some ⟨p, 0, none⟩), by simp [G.upd, d2], fun _ _ h => h, rfl, HJ.out.step (by decide) (by decide) (by decide) (by decide)⟩
      · have d3 : u 40 = .pointer (some ⟨p, 0, none⟩) := (hdep _ rfl ⟨3, .data⟩ (by simp) rfl).2
        obtain ⟨qq, hqq⟩ := HCP2.out
        have yp := fun o => row_cell hqq o
        clear hqq
        refine wpOp_step rfl (fun K hK => ?_)
        clear hdep
        go_simp
        exact hK _ _ ⟨.map (some B), by simp [G.upd, d3], fun _ _ h => h, rfl, HJ.out.step (by decide) (by decide) (by decide) (by decide)⟩
      · have h8 := HJ.out.no8 hLs (.inl HL.out)
        have y0 := fun o => row_cell (((HJ.out.lo h8).block _ hzU).trans HCS.out) o
        refine wpOp_step rfl (fun K hK => ?_)
        clear hdep
        go_simp
        exact hK _ _ ⟨.agg #[.int .i64 x.1.k, .string x.1.al, .string x.1.nm, .slice b1 x.1.args.length e1, .slice b2 x.1.dirs.length e2, .slice b3 x.2.len e3], by simp [G.upd], fun _ _ h => h, rfl, HJ.out.five hLs⟩
      · have d4 : u 41 = .map (some B) := (hdep _ rfl ⟨4, .data⟩ (by simp) rfl).2
        have d5 : u 42 = .agg #[.int .i64 x.1.k, .string x.1.al, .string x.1.nm, .slice b1 x.1.args.length e1, .slice b2 x.1.dirs.length e2, .slice b3 x.2.len e3] := (hdep _ rfl ⟨5, .data⟩ (by simp) rfl).2
        have l5 := (hdep _ rfl ⟨5, .data⟩ (by simp) rfl).1
        have h8 := HJ.out.no8 hLs (.inr HL.out)
        have HQ : Hid _ := HWI.out W ((HJ.out.lo h8).block _ hBU)
        refine wpOp_step rfl (fun K hK => ?_)
        clear hdep
        go_simp
        refine Calls.mono HQ.out ?_
        rintro e w8 ⟨rfl, hb8⟩
        exact hK _ _ ⟨.slice bx (inS l x).len cx, by simp [G.upd, d4, d5], fun _ _ h => h, rfl, HJ.out.six hLs l5 h8 hb8⟩
      · refine wpOp_step rfl (fun K hK => ?_)
        clear hdep
        go_simp
        exact hK _ _ ⟨.int .i64 (dq : Int), by simp [G.upd], fun _ _ h => h, rfl, HJ.out.step (by decide) (by decide) (by decide) (by decide)⟩
      · have d0 : u 37 = .pointer (some ⟨p, 0, none⟩) := (hdep _ rfl ⟨0, .data⟩ (by simp) rfl).2
        have d6 : u 43 = .slice bx (inS l x).len cx := (hdep _ rfl ⟨6, .data⟩ (by simp) rfl).2
        have d7 : u 44 = .int .i64 (dq : Int) := (hdep _ rfl ⟨7, .data⟩ (by simp) rfl).2
        have l6 := (hdep _ rfl ⟨6, .data⟩ (by simp) rfl).1
        have h8 : D.getD 8 false = false := gD_no (by omega) HL.out
        have hq := IH.out (m + 1) (by omega) (by omega) (toL (inS l x)) bx cx dq W hdq HRX.out HXL.out (HBU.out.trans ((HJ.out.lo h8).mono HBU.out.size)) (((HJ.out.lo h8).block _ hpU).trans HCU.out)
        rw [toL_len] at hq
        have HQ : Hid _ := hq
        refine wpOp_step rfl (fun K hK => ?_)
        clear hdep hq
        go_simp
        refine Calls.mono HQ.out ?_
        rintro e w8 ⟨⟨y, q, hL, rfl, hc8⟩, hb8⟩
        exact hK _ _ ⟨.int .i64 y, by simp [G.upd, d0, d6, d7], fun _ _ h => h, trivial, HJ.out.eight hLs l6 hL hc8 hb8⟩
    case last =>
      intro D u W hLs hD hj hpv
      obtain ⟨y, q, e45, hL, hc8, hb8⟩ := hj.hi (hD 8 (by omega))
      have HLM : Hid (Lim l (toL (inS l x)) dq (m + 1) y q) := hL
      have HC8 : Hid (W.heap[p]? = some (.cells #[.map (some B), .int .i64 q] 159 (0, 0))) := hc8
      have HB8 : Hid (Below W0.heap.size W0 W) := hb8
      have hup := hL.up
      have HTP : Hid _ := hL.top (by omega)
      clear hj hpv hL hc8 hb8
      rw [← HDQ.out] at HSUB HNXT
      unfold G.wpTail
      refine wpOp_step rfl (fun K hK => ?_)
      go_simp
      refine hK _ _ ?_
      clear hK
      unfold G.wpTail
      by_cases hy : y = 0
      · subst hy
        have hq4 : q ≤ 400 := HTP.out.2.1 rfl
        have HT2 : Hid (∀ y' q', Lim l (s.drop (k + 1)) d q y' q' → Lim l s d n y' q') := HNXT.out (by omega) hm3 q HLM.out
        go_wp2_with fail
        exact ⟨⟨k + 1, q, by go_num, by omega, by omega, hq4, HB8, HC8, HT2⟩, by simp [intOf]; omega⟩
      · have hyb : (y != 0) = true := by simpa using hy
        have HE : Hid (Lim l s d n y q) := HSUB.out (by omega) hm3 y q HLM.out hy
        clear hy
        go_wp2_with fail
        go_ret
        exact ⟨⟨y, q, HE.out, rfl, HC8.out⟩, HB8.out⟩
end Go.Proofs.YtkjndghkimnjeaaGreat
namespace Go.Proofs.YtkjndghkimnjeaaGreat
open Go.ChangeShapes Go.WideShapes Go.ChangeAt Go.RowKit Go.Maps
set_option linter.unusedVariables false

theorem Lim.total (l : List De) : ∀ (N n : Nat), 400 - n ≤ N → n ≤ 400 → ∀ (s : List (Hd × Sels)) (d : Nat), ∃ y m, Lim l s d n y m := by
  intro N
  induction N with
  | zero =>
    intro n h1 h2 s d
    cases s with
    | nil => exact ⟨0, n, .nil⟩
    | cons x r =>
      by_cases hd : 11 < d
      · exact ⟨8, n, .deep hd⟩
      · exact ⟨6, n + 1, .many (by omega) (by omega)⟩
  | succ N ih =>
    intro n h1 h2 s d
    cases s with
    | nil => exact ⟨0, n, .nil⟩
    | cons x r =>
      by_cases hd : 11 < d
      · exact ⟨8, n, .deep hd⟩
      by_cases hn : 400 ≤ n
      · exact ⟨6, n + 1, .many (by omega) hn⟩
      obtain ⟨y, m, h⟩ := ih (n + 1) (by omega) (by omega) (toL (inS l x)) (d + if (x.1.k == 1) = true then 1 else 0)
      by_cases hy : y = 0
      · subst hy
        have h3 := h.up
        have h4 := (h.top (by omega)).2.1 rfl
        obtain ⟨y', m', h'⟩ := ih m (by omega) h4 r d
        exact ⟨y', m', .ok (by omega) (by omega) h h'⟩
      · exact ⟨y, m, .bad (by omega) (by omega) h hy⟩
/-- The code of all definitions, one by one. -/
inductive Lims (l : List De) : List De → Int → Prop
  | nil : Lims l [] 0
  | bad {x : De} {r : List De} {y : Int} {m : Nat} : Lim l (toL x.sels) 0 0 y m → y ≠ 0 → Lims l (x :: r) y
  | ok {x : De} {r : List De} {y : Int} {m : Nat} : Lim l (toL x.sels) 0 0 0 m → Lims l r y → Lims l (x :: r) y
theorem Lims.det {l r : List De} {y : Int} (h : Lims l r y) : ∀ {y' : Int}, Lims l r y' → y = y' := by
  induction h with
  | nil => intro y' h'; cases h'; rfl
  | bad h1 h2 =>
    intro y' h'
    cases h' with
    | bad h3 _ => exact (h1.det h3).1
    | ok h3 _ => exact absurd (h1.det h3).1 h2
  | ok h1 h2 ih =>
    intro y' h'
    cases h' with
    | bad h3 h4 => exact absurd (h1.det h3).1.symm h4
    | ok h3 h4 => exact ih h4
theorem Lims.ex {l r : List De} {y : Int} (h : Lims l r y) : y = 0 → ∀ x ∈ r, ∃ a, Ex l (toL x.sels) a ∧ a ≤ 400 := by
  induction h with
  | nil => exact fun _ x hx => by simp at hx
  | bad _ h2 => exact fun h => absurd h h2
  | ok h1 h2 ih =>
    intro hy x hx
    rcases List.mem_cons.1 hx with rfl | hx
    · obtain ⟨a, ha, e⟩ := h1.ex rfl
      exact ⟨a, ha, by have := (h1.top (by omega)).2.1 rfl; omega⟩
    · exact ih hy x hx
set_option maxHeartbeats 4000000 in
set_option maxRecDepth 40000 in
theorem limits_fault (a : Option Addr) (c : Nat) (l : List De) (w : World) (hr : DeRow 0 w.heap.size w a l) (hb : DefsBd 1048576 l) :
    Calls Tryz.prog 60 #[.agg #[.slice a l.length c]] w fun e w' => (∃ y, e = .returned (.int .i64 y) ∧ Lims l l y) ∧ Below w.heap.size w w' := by
  obtain ⟨V, hV⟩ : ∃ V, V = w.alloc (.cells #[.slice a l.length c] 33) := ⟨_, rfl⟩
  have B0 : Below w.heap.size w V := by rw [hV]; exact (Below.refl _ _).alloc (Nat.le_refl _) _
  have c0 : V.heap[w.heap.size]? = some (.cells #[.slice a l.length c] 33 (0, 0)) := by rw [hV]; exact heap_alloc_new _ _
  have z0 := (Array.getElem?_eq_some_iff.1 c0).1
  have HR : Hid (DeRow 0 V.heap.size V a l) := DeRow.up hr B0
  have HB : Hid (DefsBd 1048576 l) := hb
  have HB0 : Hid (Below w.heap.size w V) := B0
  have HC0 : Hid _ := c0
  have hll : l.length ≤ 1048576 := hb.1
  have x0 := fun o => row_cell c0 o
  clear hr hb c0 B0
  go_enter Tryz.func60, Tryz.ntmps60
  go_upto_region 1 with fail
  rw [← hV]
  clear hV
  go_wp2_with (first | (go_at_call 98; revert hll) | fail)
  intro hll
  refine (frs_of a c l V HR.out HB.out).mono ?_
  rintro e w1 ⟨B, rfl, hB, hF, bq⟩
  have HF : Hid (FrHeld V w1 B (frsOf l)) := hF
  have Q1 : Hid (Below V.heap.size V w1) := bq
  have x1 := fun o => row_cell ((bq.block _ z0).trans HC0.out) o
  have hBl := hF.lt
  clear hF bq x0
  go_wp2_with fail
  go_loopw [13] (fun i w' => ∃ (k : Nat), k ≤ l.length ∧ i = .int .i64 k ∧ Hid (Below w1.heap.size w1 w') ∧ Hid (∀ y, Lims l (l.drop k) y → Lims l l y)) (fun i _ => l.length - (intOf i).toNat)
  case atStart => exact ⟨0, Nat.zero_le _, rfl, Below.refl _ _, fun y h => by simpa using h⟩
  case round =>
    obtain ⟨k, hk, rfl, HBW, HT⟩ := hrel
    obtain ⟨wo, rfl⟩ : ∃ z, z = wr := ⟨_, rfl⟩
    have GV : Hid (Below V.heap.size V wo) := Q1.out.trans (HBW.out.mono Q1.out.size)
    have GB : Hid (Below w.heap.size w wo) := HB0.out.trans (GV.out.mono HB0.out.size)
    by_cases hlt : k < l.length
    case neg =>
      have hlt' : ¬ (k : Int) < l.length := by omega
      have HE : Hid (Lims l l 0) := HT.out 0 (by rw [List.drop_of_length_le (by omega)]; exact .nil)
      clear HT
      go_wp2_with fail
      go_ret
      exact ⟨⟨0, rfl, HE.out⟩, GB.out⟩
    have hlt' : (k : Int) < l.length := by omega
    have HDR : Hid (l.drop k = l[k] :: l.drop (k + 1)) := List.drop_eq_getElem_cons hlt
    obtain ⟨b, o, a3, c3, ha, _, hbl, d0, d1, d2, d3, r3⟩ := DeRow.cells HR.out k hlt
    subst ha
    replace d0 := (GV.out.cell (p := ⟨b, o + k * 4, none⟩) hbl).trans d0
    replace d1 := (GV.out.cell (p := ⟨b, o + k * 4 + 1, none⟩) hbl).trans d1
    replace d2 := (GV.out.cell (p := ⟨b, o + k * 4 + 2, none⟩) hbl).trans d2
    replace d3 := (GV.out.cell (p := ⟨b, o + k * 4 + 3, none⟩) hbl).trans d3
    have HR3 : Hid (SelRow 0 V.heap.size V a3 l[k].sels) := r3
    have HXB : Hid (DeBd 1048576 l[k]) := HB.out.2 _ (List.getElem_mem hlt)
    have HBAD : Hid (∀ y m, Lim l (toL l[k].sels) 0 0 y m → y ≠ 0 → Lims l l y) := fun y m h hy => HT.out y (by rw [HDR.out]; exact .bad h hy)
    have HNXT : Hid (∀ m, Lim l (toL l[k].sels) 0 0 0 m → ∀ y, Lims l (l.drop (k + 1)) y → Lims l l y) := fun m h y h' => HT.out y (by rw [HDR.out]; exact .ok h h')
    clear r3 HT HDR
    obtain ⟨x, hx⟩ : ∃ x, x = l[k] := ⟨_, rfl⟩
    rw [← hx] at d0 d1 d2 d3 HR3 HXB HBAD HNXT
    clear hx
    obtain ⟨U, hU⟩ : ∃ U, U = wo.alloc (.cells #[.int .i64 x.k, .string x.nm, .string x.on, .slice a3 x.sels.len c3] 78) := ⟨_, rfl⟩
    have BU : Below wo.heap.size wo U := by rw [hU]; exact (Below.refl _ _).alloc (Nat.le_refl _) _
    have cu : U.heap[wo.heap.size]? = some (.cells #[.int .i64 x.k, .string x.nm, .string x.on, .slice a3 x.sels.len c3] 78 (0, 0)) := by rw [hU]; exact heap_alloc_new _ _
    obtain ⟨U2, hU2⟩ : ∃ U2, U2 = U.alloc (.cells #[.map (some B), .int .i64 0] 159) := ⟨_, rfl⟩
    have BU2 : Below U.heap.size U U2 := by rw [hU2]; exact (Below.refl _ _).alloc (Nat.le_refl _) _
    have cu2 : U2.heap[U.heap.size]? = some (.cells #[.map (some B), .int .i64 0] 159 (0, 0)) := by rw [hU2]; exact heap_alloc_new _ _
    have y0 := fun o => row_cell ((BU2.block _ (Array.getElem?_eq_some_iff.1 cu).1).trans cu) o
    have y1 := fun o => row_cell cu o
    have HVU : Hid (Below V.heap.size V U) := GV.out.trans (BU.mono GV.out.size)
    have HWU : Hid (Below w1.heap.size w1 U) := HBW.out.trans (BU.mono HBW.out.size)
    have HC2 : Hid _ := cu2
    have HB2 : Hid (Below U.heap.size U U2) := BU2
    have hq := lim_set_fault V U B U.heap.size l HB.out (HF.out.keep (HWU.out.block _ hBl)) HVU.out (Nat.le_refl _) 0 (by omega) (toL x.sels) a3 c3 0 U2 (by omega) (SelRow.fr2 HR3.out HVU.out) (SelsBd.lb HXB.out.2.2.2 HXB.out.2.2.1) BU2 cu2
    rw [toL_len] at hq
    have HQ : Hid _ := hq
    have HZE : Hid (wo.heap.size + 1 = U.heap.size) := by rw [Hid, hU]; simp
    clear hq BU cu BU2 cu2
    go_upto_region 6 with fail
    rw [← hU, ← hU2]
    try rw [HZE.out]
    clear hU2 hU d0 d1 d2 d3 y1
    go_wp2_with fail
    refine Calls.mono HQ.out ?_
    rintro e w2 ⟨⟨y, m, hL, rfl, _⟩, b2⟩
    have HLM : Hid (Lim l (toL x.sels) 0 0 y m) := hL
    have BW2 : Hid (Below w1.heap.size w1 w2) := HWU.out.trans (b2.mono HWU.out.size)
    have GB2 : Hid (Below w.heap.size w w2) := HB0.out.trans ((Q1.out.trans (BW2.out.mono Q1.out.size)).mono HB0.out.size)
    clear hL b2 y0 HQ
    by_cases hy : y = 0
    · subst hy
      have HT2 : Hid _ := HNXT.out m HLM.out
      go_wp2_with fail
      exact ⟨⟨k + 1, by omega, by go_num, BW2, HT2⟩, by simp [intOf]; omega⟩
    · have hyb : (y != 0) = true := by simpa using hy
      have HE : Hid (Lims l l y) := HBAD.out y m HLM.out hy
      clear hy
      go_wp2_with fail
      go_ret
      exact ⟨⟨y, rfl, HE.out⟩, GB2.out⟩
end Go.Proofs.YtkjndghkimnjeaaGreat
