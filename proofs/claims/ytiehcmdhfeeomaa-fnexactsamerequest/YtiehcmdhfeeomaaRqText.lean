/- The specification's text of a request: written by wip/tools/rqtext.py. -/
import Derived.Test.YtiehcmdhfeeomaaRqMath
import Derived.Test.YtiehcmdhfeeomaaGRegionFive
namespace Go.Proofs.Ytiehcmdhfeeomaa
open Go.ChangeShapes Go.WideShapes Go.ChangeAt Go.RowKit
set_option linter.unusedVariables false

theorem docR_tail : ∀ {l : List De}, (∀ x ∈ l, DeGood x ∧ x.sels.size ≤ 60) → (docT l).length ≤ 61001 * l.length
  | [], _ => by simp [docT]
  | x :: l, h => by
    have h1 := defP_len (h x (List.mem_cons_self ..)).1 (h x (List.mem_cons_self ..)).2
    have h2 := docR_tail (l := l) (fun y hy => h y (List.mem_cons_of_mem _ hy))
    simp only [docT, List.length_cons, List.length_append]
    omega
theorem docR_len {l : List De} (h : ∀ x ∈ l, DeGood x ∧ x.sels.size ≤ 60) : (docP l).length ≤ 61001 * l.length := by
  cases l with
  | nil => simp [docP]
  | cons x l =>
    have h1 := defP_len (h x (List.mem_cons_self ..)).1 (h x (List.mem_cons_self ..)).2
    have h2 := docR_tail (l := l) (fun y hy => h y (List.mem_cons_of_mem _ hy))
    simp only [docP, List.length_cons, List.length_append]
    omega
set_option maxHeartbeats 8000000 in
set_option maxRecDepth 40000 in
theorem spec_reqText (a b : Option Addr) (c d : Nat) (l : List De) (v : List Ar) (w : World) (hr : DeRow 0 w.heap.size w a l) (hv : ArRow 0 w.heap.size w b v) (hl : l.length ≤ 6) (hg : ∀ x ∈ l, DeGood x ∧ x.sels.size ≤ 60) (hn : v.length ≤ 8) (hx : ∀ x ∈ v, valB x.v = true ∧ nameB x.nm = true) :
    Calls Try.prog 29 #[.agg #[.slice a l.length c, .slice b v.length d]] w fun e w' => e = .returned (.string (bl (reqP l v))) ∧ Below w.heap.size w w' := by
  obtain ⟨W0, hW⟩ : ∃ W, W = w.alloc (.cells #[.slice a l.length c, .slice b v.length d] 39) := ⟨_, rfl⟩
  have B0 : Below w.heap.size w W0 := by rw [hW]; exact (Below.refl _ _).alloc (Nat.le_refl _) _
  have zW : w.heap.size + 1 ≤ W0.heap.size := by rw [hW]; simp
  have R1 : Hid (DeRow 0 W0.heap.size W0 a l) := DeRow.up hr B0
  have R2 : Hid (ArRow 0 W0.heap.size W0 b v) := Row.up hv B0
  have QB : Hid (Below w.heap.size w W0) := B0
  have HG : Hid (∀ x ∈ l, DeGood x ∧ x.sels.size ≤ 60) := hg
  have HX0 : Hid (∀ x ∈ v, valB x.v = true ∧ nameB x.nm = true) := hx
  have HLL : Hid (l.length ≤ 6) := hl
  have hc0 : W0.heap[w.heap.size]? = some (.cells #[.slice a l.length c, .slice b v.length d] 39 (0, 0)) := by rw [hW]; exact heap_alloc_new _ _
  have HC : Hid (∀ W', Below W0.heap.size W0 W' → ∀ o, W'.cell? ⟨w.heap.size, o, none⟩ = (#[.slice a l.length c, .slice b v.length d] : Array Value)[o]?) := fun W' hB o => row_cell ((hB.block w.heap.size (by omega)).trans hc0) o
  have HDL : Hid ((docP l).length ≤ 400000) := by have := docR_len hg; rw [Hid]; omega
  clear hr hv B0 hc0 hg hx hl
  go_enter Try.func29, Try.ntmps29
  go_wp2_with fail
  rw [← hW]
  clear hW
  go_loopw [3, 4] (fun s i w' => ∃ k : Nat, k ≤ v.length ∧ i = .int .i64 k ∧ s = .string (bl (bnsP (v.take k))) ∧ Below W0.heap.size W0 w') (fun _ i _ => v.length - (intOf i).toNat)
  case atStart => exact ⟨0, by omega, rfl, rfl, Below.refl _ _⟩
  case round =>
    obtain ⟨wo, rfl⟩ : ∃ x, x = wr := ⟨_, rfl⟩
    obtain ⟨k, hk, rfl, rfl, hb⟩ := hrel
    have cw := HC.out _ hb
    by_cases hlt : k < v.length
    · obtain ⟨e, o, hbe, _, hbl, f0, f1, f2, f3⟩ := (R2.out.keep (Below.agree hb (Nat.le_refl _))).cells_ar k hlt
      subst hbe
      have HP := HX0.out v[k] (List.getElem_mem hlt)
      have HV : Hid (valB v[k].v = true) := HP.1
      have HB : Hid (Below W0.heap.size W0 wo) := hb
      have HE : Hid (e < W0.heap.size) := hbl
      have HS : Hid (bnsP (v.take (k + 1)) = bnsP (v.take k) ++ bnP v[k]) := bnsP_take hlt
      obtain ⟨S, hS⟩ : ∃ S, S = bl (bnsP (v.take k)) := ⟨_, rfl⟩
      have zS : S.size ≤ 664 := by
        rw [hS, bl_size]
        have := bnsP_len (v := v.take k) (fun x hx => HX0.out x (List.mem_of_mem_take hx))
        rw [List.length_take] at this
        omega
      have zN : v[k].nm.size ≤ 40 := name_len HP.2
      obtain ⟨T, hT⟩ : ∃ T, T = bl (valP v[k].v) := ⟨_, rfl⟩
      have zT : T.size ≤ 41 := by rw [hT, bl_size]; exact valP_len HP.1
      have HSS : Hid (S = bl (bnsP (v.take k))) := hS
      have HTT : Hid (T = bl (valP v[k].v)) := hT
      have HZ : Hid (S.size ≤ 664 ∧ v[k].nm.size ≤ 40 ∧ T.size ≤ 41) := ⟨zS, zN, zT⟩
      rw [← hS]
      clear HP hS hT zS zN zT hbl
      obtain ⟨x, hx⟩ : ∃ x, x = v[k] := ⟨_, rfl⟩
      rw [← hx] at f0 f1 f2 f3 HV HS HTT HZ
      have HXK : Hid (x = v[k]) := hx
      have HCK : Hid (wo.cell? ⟨e, o + k * 4, none⟩ = some (.string x.nm) ∧ wo.cell? ⟨e, o + k * 4 + 1, none⟩ = some (.int .i64 x.v.k) ∧ wo.cell? ⟨e, o + k * 4 + 2, none⟩ = some (.int .i64 x.v.n) ∧ wo.cell? ⟨e, o + k * 4 + 3, none⟩ = some (.string x.v.t)) := ⟨f0, f1, f2, f3⟩
      clear hx f0 f1 f2 f3
      go_upto_region 5 with fail
      refine G.region_rel5 (n := 18) (k := 1) (by omega) (by kernel_rfl) (by kernel_rfl) (by kernel_rfl) (fun u => ⟨#[.agg #[.slice a l.length c, .slice (some ⟨e, o, none⟩) v.length d], .pointer (some ⟨w.heap.size, 0, none⟩), .string ⟨#[]⟩, .string S, .int .i64 k, .int .i64 k, .pointer (some ⟨w.heap.size, 1, none⟩), .slice (some ⟨e, o, none⟩) v.length d, .int .i64 v.length, .bool true, u10, u11, u 12, u 13, u 14, u 15, u 16, u 17, u 18, u 19, u 20, u 21, u 22, u 23, u 24, u 25, u 26, u 27, u 28, u 29, undef, undef, undef, undef, undef, undef, undef, undef, undef], []⟩) (fun nz => match nz with | 12 => u12 | 13 => u13 | 14 => u14 | 15 => u15 | 16 => u16 | 17 => u17 | 18 => u18 | 19 => u19 | 20 => u20 | 21 => u21 | 22 => u22 | 23 => u23 | 24 => u24 | 25 => u25 | 26 => u26 | 27 => u27 | 28 => u28 | 29 => u29 | _ => undef) (fun iz => [12, 13, 14, 15, 16, 17, 18, 19, 20, 21, 22, 23, 24, 25, 26, 27, 28, 29].getD iz 0) (fun iz jz hi hj h => (by decide : ∀ i, i < 18 → ∀ j, j < 18 → [12, 13, 14, 15, 16, 17, 18, 19, 20, 21, 22, 23, 24, 25, 26, 27, 28, 29].getD i 0 = [12, 13, 14, 15, 16, 17, 18, 19, 20, 21, 22, 23, 24, 25, 26, 27, 28, 29].getD j 0 → i = j) iz hi jz hj h)
        (fun iz vq _ => match iz with | 0 => vq = .string S | 1 => vq = .pointer (some ⟨w.heap.size, 1, none⟩) | 2 => vq = .slice (some ⟨e, o, none⟩) v.length d | 3 => vq = .int .i64 k | 4 => vq = .pointer (some ⟨e, o + k * 4, none⟩) | 5 => vq = .pointer (some ⟨e, o + k * 4, none⟩) | 6 => vq = .string x.nm | 7 => vq = .string (x.nm ++ ⟨#[61]⟩) | 8 => vq = .pointer (some ⟨w.heap.size, 1, none⟩) | 9 => vq = .slice (some ⟨e, o, none⟩) v.length d | 10 => vq = .int .i64 k | 11 => vq = .pointer (some ⟨e, o + k * 4, none⟩) | 12 => vq = .pointer (some ⟨e, o + k * 4 + 1, none⟩) | 13 => vq = .agg #[.int .i64 x.v.k, .int .i64 x.v.n, .string x.v.t] | 14 => vq = .string T | 15 => vq = .string (x.nm ++ ⟨#[61]⟩ ++ T) | 16 => vq = .string (x.nm ++ ⟨#[61]⟩ ++ T ++ ⟨#[32]⟩) | 17 => vq = .string (S ++ (x.nm ++ ⟨#[61]⟩ ++ T ++ ⟨#[32]⟩)) | _ => True) (fun _ _ W => Below wo.heap.size wo W) (Below.refl _ _).drew ?step ?last
      case step =>
        intro D u W iq hi hLs hLi hbW hdep
        have HBJ : Hid (Below wo.heap.size wo W) := hbW
        have hW0 : Below W0.heap.size W0 W := HB.out.trans (hbW.mono HB.out.size)
        have cx := HC.out W hW0
        have g0 : W.cell? ⟨e, o + k * 4, none⟩ = some (.string x.nm) := (hbW.cell (p := ⟨e, o + k * 4, none⟩) (show e < wo.heap.size by have := HE.out; have := HB.out.size; omega)).trans HCK.out.1
        have g1 : W.cell? ⟨e, o + k * 4 + 1, none⟩ = some (.int .i64 x.v.k) := (hbW.cell (p := ⟨e, o + k * 4 + 1, none⟩) (show e < wo.heap.size by have := HE.out; have := HB.out.size; omega)).trans HCK.out.2.1
        have g2 : W.cell? ⟨e, o + k * 4 + 2, none⟩ = some (.int .i64 x.v.n) := (hbW.cell (p := ⟨e, o + k * 4 + 2, none⟩) (show e < wo.heap.size by have := HE.out; have := HB.out.size; omega)).trans HCK.out.2.2.1
        have g3 : W.cell? ⟨e, o + k * 4 + 3, none⟩ = some (.string x.v.t) := (hbW.cell (p := ⟨e, o + k * 4 + 3, none⟩) (show e < wo.heap.size by have := HE.out; have := HB.out.size; omega)).trans HCK.out.2.2.2
        have l1 : (⟨#[61]⟩ : ByteArray).size = 1 := rfl
        have l2 : (⟨#[32]⟩ : ByteArray).size = 1 := rfl
        obtain ⟨zS, zN, zT⟩ := HZ.out
        have n1 : ¬ (9223372036854775807 < x.nm.size + 1) := by omega
        have n1b : ¬ (9223372036854775807 < x.nm.size + (⟨#[61]⟩ : ByteArray).size) := by omega
        have n2 : ¬ (9223372036854775807 < x.nm.size + 1 + T.size) := by omega
        have n2b : ¬ (9223372036854775807 < (x.nm ++ ⟨#[61]⟩).size + T.size) := by rw [ByteArray.size_append]; omega
        have n2c : ¬ (9223372036854775807 < x.nm.size + (⟨#[61]⟩ : ByteArray).size + T.size) := by omega
        have n3 : ¬ (9223372036854775807 < x.nm.size + 1 + T.size + 1) := by omega
        have n3b : ¬ (9223372036854775807 < (x.nm ++ ⟨#[61]⟩ ++ T).size + (⟨#[32]⟩ : ByteArray).size) := by rw [ByteArray.size_append, ByteArray.size_append]; omega
        have n3c : ¬ (9223372036854775807 < x.nm.size + (⟨#[61]⟩ : ByteArray).size + T.size + (⟨#[32]⟩ : ByteArray).size) := by omega
        have n4 : ¬ (9223372036854775807 < S.size + (x.nm.size + 1 + T.size + 1)) := by omega
        have n4b : ¬ (9223372036854775807 < S.size + (x.nm ++ ⟨#[61]⟩ ++ T ++ ⟨#[32]⟩).size) := by rw [ByteArray.size_append, ByteArray.size_append, ByteArray.size_append]; omega
        have n4c : ¬ (9223372036854775807 < S.size + (x.nm.size + (⟨#[61]⟩ : ByteArray).size + T.size + (⟨#[32]⟩ : ByteArray).size)) := by omega
        clear zS zN zT l1 l2 hW0
        have hcase : iq = 0 ∨ iq = 1 ∨ iq = 2 ∨ iq = 3 ∨ iq = 4 ∨ iq = 5 ∨ iq = 6 ∨ iq = 7 ∨ iq = 8 ∨ iq = 9 ∨ iq = 10 ∨ iq = 11 ∨ iq = 12 ∨ iq = 13 ∨ iq = 14 ∨ iq = 15 ∨ iq = 16 ∨ iq = 17 := by omega
        clear hbW hLi hi
        rcases hcase with rfl | rfl | rfl | rfl | rfl | rfl | rfl | rfl | rfl | rfl | rfl | rfl | rfl | rfl | rfl | rfl | rfl | rfl
        · refine wpOp_step rfl (fun K hK => ?_)
          clear hdep
          go_simp
          exact hK _ _ ⟨.string S, by simp [G.upd], fun _ _ h => h, rfl, HBJ.out⟩
        · refine wpOp_step rfl (fun K hK => ?_)
          clear hdep
          go_simp
          exact hK _ _ ⟨.pointer (some ⟨w.heap.size, 1, none⟩), by simp [G.upd], fun _ _ h => h, rfl, HBJ.out⟩
        · have d1 : u 13 = .pointer (some ⟨w.heap.size, 1, none⟩) := (hdep _ rfl ⟨1, .data⟩ (by simp) rfl).2
          refine wpOp_step rfl (fun K hK => ?_)
          clear hdep
          go_simp
          exact hK _ _ ⟨.slice (some ⟨e, o, none⟩) v.length d, by simp [G.upd, d1], fun _ _ h => h, rfl, HBJ.out⟩
        · refine wpOp_step rfl (fun K hK => ?_)
          clear hdep
          go_simp
          exact hK _ _ ⟨.int .i64 k, by simp [G.upd], fun _ _ h => h, rfl, HBJ.out⟩
        · have d2 : u 14 = .slice (some ⟨e, o, none⟩) v.length d := (hdep _ rfl ⟨2, .data⟩ (by simp) rfl).2
          have d3 : u 15 = .int .i64 k := (hdep _ rfl ⟨3, .data⟩ (by simp) rfl).2
          refine wpOp_step rfl (fun K hK => ?_)
          clear hdep
          go_simp
          exact hK _ _ ⟨.pointer (some ⟨e, o + k * 4, none⟩), by simp [G.upd, d2, d3], fun _ _ h => h, rfl, HBJ.out⟩
        · have d4 : u 16 = .pointer (some ⟨e, o + k * 4, none⟩) := (hdep _ rfl ⟨4, .data⟩ (by simp) rfl).2
          refine wpOp_step rfl (fun K hK => ?_)
          clear hdep
          go_simp
          exact hK _ _ ⟨.pointer (some ⟨e, o + k * 4, none⟩), by simp [G.upd, d4], fun _ _ h => h, rfl, HBJ.out⟩
        · have d5 : u 17 = .pointer (some ⟨e, o + k * 4, none⟩) := (hdep _ rfl ⟨5, .data⟩ (by simp) rfl).2
          refine wpOp_step rfl (fun K hK => ?_)
          clear hdep
          go_simp
          exact hK _ _ ⟨.string x.nm, by simp [G.upd, d5], fun _ _ h => h, rfl, HBJ.out⟩
        · have d6 : u 18 = .string x.nm := (hdep _ rfl ⟨6, .data⟩ (by simp) rfl).2
          refine wpOp_step rfl (fun K hK => ?_)
          clear hdep
          go_simp
          exact hK _ _ ⟨.string (x.nm ++ ⟨#[61]⟩), by simp [G.upd, d6], fun _ _ h => h, rfl, HBJ.out⟩
        · refine wpOp_step rfl (fun K hK => ?_)
          clear hdep
          go_simp
          exact hK _ _ ⟨.pointer (some ⟨w.heap.size, 1, none⟩), by simp [G.upd], fun _ _ h => h, rfl, HBJ.out⟩
        · have d8 : u 20 = .pointer (some ⟨w.heap.size, 1, none⟩) := (hdep _ rfl ⟨8, .data⟩ (by simp) rfl).2
          refine wpOp_step rfl (fun K hK => ?_)
          clear hdep
          go_simp
          exact hK _ _ ⟨.slice (some ⟨e, o, none⟩) v.length d, by simp [G.upd, d8], fun _ _ h => h, rfl, HBJ.out⟩
        · refine wpOp_step rfl (fun K hK => ?_)
          clear hdep
          go_simp
          exact hK _ _ ⟨.int .i64 k, by simp [G.upd], fun _ _ h => h, rfl, HBJ.out⟩
        · have d9 : u 21 = .slice (some ⟨e, o, none⟩) v.length d := (hdep _ rfl ⟨9, .data⟩ (by simp) rfl).2
          have d10 : u 22 = .int .i64 k := (hdep _ rfl ⟨10, .data⟩ (by simp) rfl).2
          refine wpOp_step rfl (fun K hK => ?_)
          clear hdep
          go_simp
          exact hK _ _ ⟨.pointer (some ⟨e, o + k * 4, none⟩), by simp [G.upd, d9, d10], fun _ _ h => h, rfl, HBJ.out⟩
        · have d11 : u 23 = .pointer (some ⟨e, o + k * 4, none⟩) := (hdep _ rfl ⟨11, .data⟩ (by simp) rfl).2
          refine wpOp_step rfl (fun K hK => ?_)
          clear hdep
          go_simp
          exact hK _ _ ⟨.pointer (some ⟨e, o + k * 4 + 1, none⟩), by simp [G.upd, d11], fun _ _ h => h, rfl, HBJ.out⟩
        · have d12 : u 24 = .pointer (some ⟨e, o + k * 4 + 1, none⟩) := (hdep _ rfl ⟨12, .data⟩ (by simp) rfl).2
          refine wpOp_step rfl (fun K hK => ?_)
          clear hdep
          go_simp
          exact hK _ _ ⟨.agg #[.int .i64 x.v.k, .int .i64 x.v.n, .string x.v.t], by simp [G.upd, d12], fun _ _ h => h, rfl, HBJ.out⟩
        · have d13 : u 25 = .agg #[.int .i64 x.v.k, .int .i64 x.v.n, .string x.v.t] := (hdep _ rfl ⟨13, .data⟩ (by simp) rfl).2
          have HQ : Hid _ := (by have := spec_value x.v W HV.out; rw [← HTT.out] at this; exact this : Calls Try.prog 49 #[.agg #[.int .i64 x.v.k, .int .i64 x.v.n, .string x.v.t]] W fun e w' => e = .returned (.string T) ∧ Below W.heap.size W w')
          refine wpOp_step rfl (fun K hK => ?_)
          clear hdep
          go_simp
          refine Calls.mono HQ.out ?_
          rintro e w8 ⟨rfl, hb8⟩
          exact hK _ _ ⟨.string T, by simp [G.upd, d13], fun _ _ h => h, rfl, HBJ.out.trans (hb8.mono HBJ.out.size)⟩
        · have d7 : u 19 = .string (x.nm ++ ⟨#[61]⟩) := (hdep _ rfl ⟨7, .data⟩ (by simp) rfl).2
          have d14 : u 26 = .string T := (hdep _ rfl ⟨14, .data⟩ (by simp) rfl).2
          refine wpOp_step rfl (fun K hK => ?_)
          clear hdep
          go_simp
          exact hK _ _ ⟨.string (x.nm ++ ⟨#[61]⟩ ++ T), by simp [G.upd, d7, d14], fun _ _ h => h, rfl, HBJ.out⟩
        · have d15 : u 27 = .string (x.nm ++ ⟨#[61]⟩ ++ T) := (hdep _ rfl ⟨15, .data⟩ (by simp) rfl).2
          refine wpOp_step rfl (fun K hK => ?_)
          clear hdep
          go_simp
          exact hK _ _ ⟨.string (x.nm ++ ⟨#[61]⟩ ++ T ++ ⟨#[32]⟩), by simp [G.upd, d15], fun _ _ h => h, rfl, HBJ.out⟩
        · have d0 : u 12 = .string S := (hdep _ rfl ⟨0, .data⟩ (by simp) rfl).2
          have d16 : u 28 = .string (x.nm ++ ⟨#[61]⟩ ++ T ++ ⟨#[32]⟩) := (hdep _ rfl ⟨16, .data⟩ (by simp) rfl).2
          refine wpOp_step rfl (fun K hK => ?_)
          clear hdep
          go_simp
          exact hK _ _ ⟨.string (S ++ (x.nm ++ ⟨#[61]⟩ ++ T ++ ⟨#[32]⟩)), by simp [G.upd, d0, d16], fun _ _ h => h, rfl, HBJ.out⟩
      case last =>
        intro D u W hLs hD hbW hp
        have HBL : Hid (Below wo.heap.size wo W) := hbW
        have d17 : u 29 = .string (S ++ (x.nm ++ ⟨#[61]⟩ ++ T ++ ⟨#[32]⟩)) := hp 17 (by omega)
        have HBO : Hid (Below W0.heap.size W0 W) := HB.out.trans (HBL.out.mono HB.out.size)
        have HR : Hid ((S ++ (x.nm ++ ⟨#[61]⟩ ++ T ++ ⟨#[32]⟩)) = bl (bnsP (v.take (k + 1)))) := by
          refine bl_of ?_
          rw [nl_app, nl_app, nl_app, nl_app, HSS.out, HTT.out, nl_bl, nl_bl, HS.out]
          unfold bnP
          simp [nl_lit]
        clear hp hbW
        unfold G.wpTail
        refine wpOp_step rfl (fun K hK => ?_)
        go_simp
        refine hK _ _ ?_
        clear hK
        unfold G.wpTail
        go_wp2_with fail
        exact ⟨⟨k + 1, by omega, by go_num, by rw [HR.out], HBO.out⟩, by simp [intOf]; omega⟩
    · have hke : k = v.length := by omega
      subst hke
      rw [List.take_length]
      have HB : Hid (Below W0.heap.size W0 wo) := hb
      have HQ : Hid (Below w.heap.size w wo) := QB.out.trans (hb.mono (by omega))
      have HRW : Hid (DeRow 0 wo.heap.size wo a l) := DeRow.wide (DeRow.keep R1.out (Below.agree hb (Nat.le_refl _))) (Nat.le_refl _) hb.size
      have zS : (bl (bnsP v)).size ≤ 664 := by
        rw [bl_size]
        have := bnsP_len (v := v) HX0.out
        omega
      have zD : (bl (docP l)).size ≤ 400000 := by rw [bl_size]; exact HDL.out
      have l1 : (⟨#[124, 32]⟩ : ByteArray).size = 2 := rfl
      by_cases hv0 : v = []
      · have hne : ((bl (bnsP v)).toList == []) = true := (beq_no _).trans (noB_iff.2 (by rw [hv0]; rfl))
        have hne2 : ((bl (bnsP v)).toList != []) = false := by rw [bne, hne]; rfl
        have HR : Hid (bl (bnsP v) ++ bl (docP l) = bl (reqP l v)) := by
          refine bl_of ?_
          rw [nl_app, nl_bl, nl_bl]; unfold reqP; rw [if_pos hv0, hv0]; rfl
        generalize bl (bnsP v) = S at *
        have n1 : ¬ (9223372036854775807 < S.size + (bl (docP l)).size) := by omega
        clear hv0 hb
        go_wp2_with fail
        refine (spec_docPrint a c l _ HRW.out HLL.out HG.out).mono ?_
        rintro e w3 ⟨rfl, hb3⟩
        have q3 : Hid (Below w.heap.size w w3) := HQ.out.trans (hb3.mono HQ.out.size)
        clear hb3
        go_wp2_with fail
        go_ret
        exact ⟨ret_str HR.out, q3.out⟩
      · have hno : noB (bl (bnsP v)) = false := by
          cases hq : noB (bl (bnsP v))
          · rfl
          · have h3 := congrArg nl (noB_iff.1 hq)
            rw [nl_bl] at h3
            cases v with
            | nil => exact absurd rfl hv0
            | cons x v => simp [bnsP, bnP, nl] at h3
        have hne : ((bl (bnsP v)).toList == []) = false := (beq_no _).trans hno
        have hne2 : ((bl (bnsP v)).toList != []) = true := by rw [bne, hne]; rfl
        have hnn : ¬ (bl (bnsP v)).toList = [] := fun h => by rw [h] at hne; exact absurd hne (by decide)
        clear hno
        have HR : Hid (bl (bnsP v) ++ (⟨#[124, 32]⟩ : ByteArray) ++ bl (docP l) = bl (reqP l v)) := by
          refine bl_of ?_
          rw [nl_app, nl_app, nl_bl, nl_bl]; unfold reqP; rw [if_neg hv0]; simp [nl_lit]
        generalize bl (bnsP v) = S at *
        have n1 : ¬ (9223372036854775807 < S.size + (⟨#[124, 32]⟩ : ByteArray).size) := by omega
        have n2 : ¬ (9223372036854775807 < S.size + 2) := by omega
        have n3 : ¬ (9223372036854775807 < (S ++ (⟨#[124, 32]⟩ : ByteArray)).size + (bl (docP l)).size) := by rw [ByteArray.size_append]; omega
        have n4 : ¬ (9223372036854775807 < S.size + (⟨#[124, 32]⟩ : ByteArray).size + (bl (docP l)).size) := by omega
        have n5 : ¬ (9223372036854775807 < S.size + 2 + (bl (docP l)).size) := by omega
        clear hv0 hb
        go_wp2_with fail
        refine (spec_docPrint a c l _ HRW.out HLL.out HG.out).mono ?_
        rintro e w3 ⟨rfl, hb3⟩
        have q3 : Hid (Below w.heap.size w w3) := HQ.out.trans (hb3.mono HQ.out.size)
        clear hb3
        go_wp2_with fail
        go_ret
        exact ⟨ret_str HR.out, q3.out⟩
end Go.Proofs.Ytiehcmdhfeeomaa
