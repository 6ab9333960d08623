/- CheckTypes: the specification's going through a set. -/
import Derived.Test.YtkjndghkimnjeaaGreatTySelSpec
namespace Go.Proofs.YtkjndghkimnjeaaGreat
open Go.ChangeShapes Go.WideShapes Go.ChangeAt Go.RowKit
set_option linter.unusedVariables false

set_option maxHeartbeats 8000000 in
set_option maxRecDepth 60000 in
theorem spec_set (S : List G.Td) (D : List De) (hSOK : G.SchOK S) (hSB : G.TdsBd 1048576 S) (hDB : DefsBd 1048576 D) (s : Sels) : SpS S D s := by
  induction hN : s.size using Nat.strongRecOn generalizing s with
  | _ N ih =>
  subst hN
  intro d nn t a' c' aS cS aD cD w hp hsd hs hn hbd hok
  have IH : Hid (∀ sub : Sels, sub.size < s.size → SpS S D sub) := fun sub hsub => ih sub.size hsub sub rfl
  have HSOK : Hid (G.SchOK S) := hSOK
  have HSB : Hid (G.TdsBd 1048576 S) := hSB
  have HDB : Hid (DefsBd 1048576 D) := hDB
  have HP : Hid (s.isNil = true ∨ (nn = t.nm ∧ tdIn S t.nm = some t)) := hp
  have K0 : Hid (∀ W0, Below w.heap.size w W0 → Sd W0 aS S aD D) := fun W0 hB => hsd.up hB
  have HS : Hid (SelFrom 0 w.heap.size w a' 0 s) := hs.from_
  have HB : Hid (SelsBd 1048576 s) := hbd
  have HOK : Hid (okS d s = true) := hok
  clear hs ih hbd hok hp hsd hSOK hSB hDB
  go_enter Tryz.func77, Tryz.ntmps77
  go_wp2_with fail
  obtain ⟨W, hW⟩ : ∃ W, W = (w.alloc (.cells #[.slice aS S.length cS] 59)).alloc (.cells #[.slice aD D.length cD] 33) := ⟨_, rfl⟩
  rw [← hW]
  have zW : W.heap.size = w.heap.size + 2 := by rw [hW]; simp
  have B0 : Hid (Below w.heap.size w W) := by rw [hW]; exact ((Below.refl _ _).alloc (Nat.le_refl _) _).alloc (by simp) _
  have A0 : Hid (W.heap[w.heap.size]? = some (.cells #[.slice aS S.length cS] 59 (0, 0))) := by rw [Hid, hW, Below.heap_alloc _ _ _ (by simp)]; exact heap_alloc_new _ _
  have A1 : Hid (W.heap[w.heap.size + 1]? = some (.cells #[.slice aD D.length cD] 33 (0, 0))) := by
    rw [Hid, hW]
    have := heap_alloc_new (w.alloc (.cells #[.slice aS S.length cS] 59)) (.cells #[.slice aD D.length cD] 33)
    simpa using this
  clear hW
  go_loopw [9] (fun i w' => ∃ (k : Nat) (rest : Sels), Hid (s.len = k + rest.len) ∧ i = .int .i64 k ∧ Hid (Below W.heap.size W w') ∧ Hid (rest.size ≤ s.size) ∧ Hid (SelsBd 1048576 rest) ∧ Hid (okS d rest = true) ∧ Hid (SelFrom 0 w.heap.size w a' k rest) ∧ Hid (setC S D t s = setC S D t rest)) (fun i _ => s.len - (intOf i).toNat)
  case atStart => exact ⟨0, s, by simp [Hid], rfl, Below.refl _ _, Nat.le_refl _, HB, HOK, HS, rfl⟩
  case round =>
    obtain ⟨k, rest, HK, rfl, HW, HZ, HD, HOR, HF, HE⟩ := hrel
    have hzr := HW.out.size
    have QR : Hid (Below w.heap.size w wr) := B0.out.trans (HW.out.mono (by omega))
    cases rest with
    | nil =>
      have hk' : ¬ k < s.len := by rw [HK.out]; simp only [Sels.len]; omega
      have NE : Hid (0 = setC S D t s) := by rw [Hid, HE.out]; rfl
      clear HE
      go_wp2_with fail
      go_ret
      exact ⟨ret_i NE.out, QR.out⟩
    | cons h sub rest =>
      have hlt : k < s.len := by rw [HK.out]; simp only [Sels.len]; omega
      obtain ⟨rfl, ht⟩ : nn = t.nm ∧ tdIn S t.nm = some t := by
        rcases HP.out with h1 | h1
        · rw [Sels.isNil_len, decide_eq_true_eq] at h1; omega
        · exact h1
      have HT : Hid (tdIn S t.nm = some t) := ht
      have HK2 : Hid (s.len = k + 1 + rest.len) := by rw [Hid, HK.out]; simp only [Sels.len]; omega
      obtain ⟨b, o, a1, c1, a2, c2, a3, c3, ha, _, hbl, d0, d1, d2, d3, d4, d5, r1, r2, r3, _⟩ := (HF.out.keep (Below.agree QR.out (Nat.le_refl _))).step
      have HF2 : Hid (SelFrom 0 w.heap.size w a' (k + 1) rest) := SelFrom.next HF.out
      have HA' : Hid (a' = some ⟨b, o, none⟩) := ha
      have R1 : Hid (ArRow 0 w.heap.size wr a1 h.args) := r1
      have R2 : Hid (DiRow 0 w.heap.size wr a2 h.dirs) := r2
      have R3 : Hid (SelRow 0 w.heap.size wr a3 sub) := r3
      obtain ⟨e1, e2, e3, e4⟩ := HD.out
      have E1 : Hid (HdBd 1048576 h) := e1
      have E3 : Hid (SelsBd 1048576 sub) := e3
      have E4 : Hid (SelsBd 1048576 rest) := e4
      have hor := HOR.out
      simp only [okS, Bool.and_eq_true, decide_eq_true_eq] at hor
      obtain ⟨⟨⟨o1, o2⟩, o3⟩, o4⟩ := hor
      have O2 : Hid (hdB h sub.isNil = true) := o2
      have O3 : Hid (okS (d - 1) sub = true) := o3
      have O4 : Hid (okS d rest = true) := o4
      have HZ2 : Hid (rest.size ≤ s.size) := by have := HZ.out; simp only [Sels.size] at this; unfold Hid; omega
      have IS : Hid (SpS S D sub) := IH.out sub (by have := HZ.out; simp only [Sels.size] at this; omega)
      obtain ⟨y, hy⟩ : ∃ y, y = oneC S D t h sub := ⟨_, rfl⟩
      have HY : Hid (y = oneC S D t h sub) := hy
      have HEX : Hid (setC S D t s = if y = 0 then setC S D t rest else y) := by rw [Hid, HE.out, setC_one, hy]
      have hkI : (k : Int) < s.len := by omega
      clear r1 r2 r3 e1 e3 e4 o2 o3 o4 HE HOR HD ha ht hy HP
      go_wp2_with fail
      have HR1 : Hid (∀ W0, Below wr.heap.size wr W0 → ArRow 0 W0.heap.size W0 a1 h.args) := fun W0 hB => Row.up (Row.wide R1.out (Nat.le_refl _) (by omega)) hB
      have HR2 : Hid (∀ W0, Below wr.heap.size wr W0 → DiRow 0 W0.heap.size W0 a2 h.dirs) := fun W0 hB => Row.up (Row.wide R2.out (Nat.le_refl _) (by omega)) hB
      have HR3 : Hid (∀ W0, Below wr.heap.size wr W0 → SelRow 0 W0.heap.size W0 a3 sub) := fun W0 hB => SelRow.up (SelRow.wide R3.out (Nat.le_refl _) (by omega)) hB
      refine G.region_rel (n := 8) (by kernel_rfl) (by kernel_rfl) (by kernel_rfl) (fun u => ⟨#[.agg #[.slice aS S.length cS], .agg #[.slice aD D.length cD], .string t.nm, .slice a' s.len c', .pointer (some ⟨w.heap.size, 0, none⟩), .pointer (some ⟨w.heap.size + 1, 0, none⟩), undef, undef, u8, .int .i64 k, u10, .int .i64 k, .slice a' s.len c', .int .i64 s.len, .bool true, u15, u16, u 17, u 18, u 19, u 20, u 21, u 22, u 23, u 24, u25, u26, u27], []⟩) (fun n => match n with | 17 => u17 | 18 => u18 | 19 => u19 | 20 => u20 | 21 => u21 | 22 => u22 | 23 => u23 | 24 => u24 | _ => undef) (fun i => 17 + i) (fun i j _ _ h => by omega) (PEq (fun i => match i with | 0 => .agg #[.slice aS S.length cS] | 1 => .agg #[.slice aD D.length cD] | 2 => .string t.nm | 3 => (.slice a' s.len c') | 4 => .int .i64 k | 5 => .pointer (some ⟨b, o + k * 6, none⟩) | 6 => .agg #[.int .i64 h.k, .string h.al, .string h.nm, .slice a1 h.args.length c1, .slice a2 h.dirs.length c2, .slice a3 sub.len c3] | 7 => .int .i64 y | _ => undef)) (fun _ _ => True) (PEq.up _) trivial ?step ?last
      case step =>
        intro u w2 i hi hbw _ hdep
        have zw2 := hbw.size
        have y0 := fun o => row_cell ((hbw.block w.heap.size (by omega)).trans ((HW.out.block w.heap.size (by omega)).trans A0.out)) o
        have y1 := fun o => row_cell ((hbw.block (w.heap.size + 1) (by omega)).trans ((HW.out.block (w.heap.size + 1) (by omega)).trans A1.out)) o
        have v0 := (hbw.cell (p := ⟨b, o + k * 6, none⟩) (show b < wr.heap.size by omega)).trans d0
        have v1 := (hbw.cell (p := ⟨b, o + k * 6 + 1, none⟩) (show b < wr.heap.size by omega)).trans d1
        have v2 := (hbw.cell (p := ⟨b, o + k * 6 + 2, none⟩) (show b < wr.heap.size by omega)).trans d2
        have v3 := (hbw.cell (p := ⟨b, o + k * 6 + 3, none⟩) (show b < wr.heap.size by omega)).trans d3
        have v4 := (hbw.cell (p := ⟨b, o + k * 6 + 4, none⟩) (show b < wr.heap.size by omega)).trans d4
        have v5 := (hbw.cell (p := ⟨b, o + k * 6 + 5, none⟩) (show b < wr.heap.size by omega)).trans d5
        have HBw : Hid (Below w.heap.size w w2) := QR.out.trans (hbw.mono (by omega))
        have HBx : Hid (Below wr.heap.size wr w2) := hbw
        clear d0 d1 d2 d3 d4 d5
        clear hbw
        have hcase : i = 0 ∨ i = 1 ∨ i = 2 ∨ i = 3 ∨ i = 4 ∨ i = 5 ∨ i = 6 ∨ i = 7 := by omega
        rcases hcase with rfl | rfl | rfl | rfl | rfl | rfl | rfl | rfl
        · refine wpOp_step rfl (fun K hK => ?_)
          clear hdep
          go_simp
          exact hK _ _ ⟨_, rfl, Below.refl _ _, rfl, trivial⟩
        · refine wpOp_step rfl (fun K hK => ?_)
          clear hdep
          go_simp
          exact hK _ _ ⟨_, rfl, Below.refl _ _, rfl, trivial⟩
        · refine wpOp_step rfl (fun K hK => ?_)
          clear hdep
          go_simp
          exact hK _ _ ⟨_, rfl, Below.refl _ _, rfl, trivial⟩
        · refine wpOp_step rfl (fun K hK => ?_)
          clear hdep
          go_simp
          exact hK _ _ ⟨_, rfl, Below.refl _ _, rfl, trivial⟩
        · refine wpOp_step rfl (fun K hK => ?_)
          clear hdep
          go_simp
          exact hK _ _ ⟨_, rfl, Below.refl _ _, rfl, trivial⟩
        · have d3 : u 20 = (.slice a' s.len c') := hdep _ rfl ⟨3, .data⟩ (by simp) rfl
          have d4 : u 21 = .int .i64 k := hdep _ rfl ⟨4, .data⟩ (by simp) rfl
          rw [HA'.out] at d3
          refine wpOp_step rfl (fun K hK => ?_)
          clear hdep
          go_simp
          exact hK _ _ ⟨.pointer (some ⟨b, o + k * 6, none⟩), by simp [G.upd, d3, d4], Below.refl _ _, rfl, trivial⟩
        · have d5 : u 22 = .pointer (some ⟨b, o + k * 6, none⟩) := hdep _ rfl ⟨5, .data⟩ (by simp) rfl
          refine wpOp_step rfl (fun K hK => ?_)
          clear hdep
          go_simp
          exact hK _ _ ⟨_, by simp [G.upd, d5], Below.refl _ _, rfl, trivial⟩
        · have d0 : u 17 = .agg #[.slice aS S.length cS] := hdep _ rfl ⟨0, .data⟩ (by simp) rfl
          have d1 : u 18 = .agg #[.slice aD D.length cD] := hdep _ rfl ⟨1, .data⟩ (by simp) rfl
          have d2 : u 19 = .string t.nm := hdep _ rfl ⟨2, .data⟩ (by simp) rfl
          have d6 : u 23 = .agg #[.int .i64 h.k, .string h.al, .string h.nm, .slice a1 h.args.length c1, .slice a2 h.dirs.length c2, .slice a3 sub.len c3] := hdep _ rfl ⟨6, .data⟩ (by simp) rfl
          refine wpOp_step rfl (fun K hK => ?_)
          clear hdep
          go_simp
          refine (spec_one S D HSOK.out HSB.out HDB.out h sub IS.out (d - 1) t a1 a2 a3 c1 c2 c3 aS cS aD cD _ HT.out (K0.out _ HBw.out) (HR1.out _ HBx.out) (HR2.out _ HBx.out) (HR3.out _ HBx.out) E1.out e2 E3.out O2.out O3.out).mono ?_
          rintro e w8 ⟨rfl, hb8⟩
          rw [← HY.out]
          exact hK _ _ ⟨.int .i64 y, by simp [G.upd, d0, d1, d2, d6], hb8, rfl, trivial⟩
      case last =>
        intro u w2 hbw _ hp
        have d7 : u 24 = .int .i64 y := hp 7 (by omega)
        have QL : Hid (Below w.heap.size w w2) := QR.out.trans (hbw.mono (by omega))
        have WL : Hid (Below W.heap.size W w2) := HW.out.trans (hbw.mono (by omega))
        clear hp hbw d0 d1 d2 d3 d4 d5
        refine wpOp_step rfl (fun K hK => ?_)
        go_simp
        refine hK _ _ ?_
        clear hK K
        by_cases hz : y = 0
        · have HN : Hid (setC S D t s = setC S D t rest) := by rw [Hid, HEX.out, if_pos hz]
          subst hz
          clear HEX
          go_wp2_with fail
          exact ⟨⟨k + 1, rest, HK2, by go_num, WL, HZ2, E4, O4, HF2, HN⟩, by simp [intOf]; omega⟩
        · have HN : Hid (y = setC S D t s) := by rw [Hid, HEX.out, if_neg hz]
          have hz' : (y == 0) = false := by rw [beq_eq_false_iff_ne]; exact hz
          clear HEX
          go_wp2_with fail
          go_ret
          exact ⟨ret_i HN.out, QL.out⟩
end Go.Proofs.YtkjndghkimnjeaaGreat
