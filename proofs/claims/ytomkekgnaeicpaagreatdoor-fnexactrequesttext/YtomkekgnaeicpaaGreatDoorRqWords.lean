/- The program's text of a request: written by wip/tools/rqwords.py. -/
import Derived.Test.YtomkekgnaeicpaaGreatDoorRqText
import Derived.Test.YtomkekgnaeicpaaGreatDoorRqTo
import Derived.Test.YtomkekgnaeicpaaGreatDoorDocWordsSix
namespace Go.Proofs.YtomkekgnaeicpaaGreatDoor
open Go.ChangeShapes Go.WideShapes Go.ChangeAt Go.RowKit
set_option linter.unusedVariables false

def bindT (v : List Ar) : List UInt8 := if v = [] then [] else bnsP v ++ [124, 32]
set_option maxHeartbeats 8000000 in
set_option maxRecDepth 40000 in
theorem impl_bindT (b : Option Addr) (d : Nat) (v : List Ar) (w : World) (hv : ArRow 0 w.heap.size w b v) (hn : v.length ≤ 8) (hx : ∀ x ∈ v, valB x.v = true ∧ nameB x.nm = true) (hp : Pow w) :
    Calls Tryz.prog 17 #[.slice b v.length d] w fun e w' => e = .returned (.string (bl (bindT v))) ∧ Below w.heap.size w w' := by
  by_cases h0 : v.length = 0
  · have hv0 : v = [] := List.length_eq_zero_iff.1 h0
    have HE : Hid ((⟨#[]⟩ : ByteArray) = bl (bindT v)) := by rw [hv0]; rfl
    subst hv0
    clear hv hx hp h0
    show Calls Tryz.prog 17 #[.slice b 0 d] w _
    go_enter Tryz.func17, Tryz.ntmps17
    go_wp2_with fail
    go_ret
    exact ⟨ret_str HE.out, Below.refl _ _⟩
  have HV0 : Hid (ArRow 0 w.heap.size w b v) := hv
  have HX0 : Hid (∀ x ∈ v, valB x.v = true ∧ nameB x.nm = true) := hx
  have HPW : Hid (∀ W, Below w.heap.size w W → Pow W) := fun W h => hp.up h
  have hz : ((v.length : Int) == 0) = false := by rw [beq_eq_false_iff_ne]; omega
  have H0 : Hid (¬ v.length = 0) := h0
  clear hv hx hp h0
  go_enter Tryz.func17, Tryz.ntmps17
  go_wp2_with fail
  clear hz
  go_loopw [3, 11] (fun s i w' => ∃ k : Nat, k ≤ v.length ∧ i = .int .i64 k ∧ s = .string (bl (bnsP (v.take k))) ∧ Below w.heap.size w w') (fun _ i _ => v.length - (intOf i).toNat)
  case atStart => exact ⟨0, by omega, rfl, rfl, Below.refl _ _⟩
  case round =>
    obtain ⟨wo, rfl⟩ : ∃ x, x = wr := ⟨_, rfl⟩
    obtain ⟨k, hk, rfl, rfl, hb⟩ := hrel
    have HB : Hid (Below w.heap.size w wo) := hb
    have hbz := hb.size
    by_cases hlt : k < v.length
    · obtain ⟨e, o, hbe, _, hbl, f0, f1, f2, f3⟩ := (HV0.out.keep (Below.agree hb (Nat.le_refl _))).cells_ar k hlt
      subst hbe
      have HP := HX0.out v[k] (List.getElem_mem hlt)
      have HV : Hid (valB v[k].v = true) := HP.1
      have HS : Hid (bnsP (v.take (k + 1)) = bnsP (v.take k) ++ bnP v[k]) := bnsP_take hlt
      obtain ⟨S, hS⟩ : ∃ S, S = bl (bnsP (v.take k)) := ⟨_, rfl⟩
      have zS : S.size ≤ 664 := by
        rw [hS, bl_size]
        have := bnsP_len (v := v.take k) (fun x hx => HX0.out x (List.mem_of_mem_take hx))
        rw [List.length_take] at this
        omega
      have zN : v[k].nm.size ≤ 40 := name_len HP.2
      obtain ⟨T, hT⟩ : ∃ T, T = bl (valP v[k].v) := ⟨_, rfl⟩
      have zT : T.size ≤ 41 := by rw [hT, bl_size]; exact valP_len HP.1
      have HSS : Hid (S = bl (bnsP (v.take k))) := hS
      have HTT : Hid (T = bl (valP v[k].v)) := hT
      have HZ : Hid (S.size ≤ 664 ∧ v[k].nm.size ≤ 40 ∧ T.size ≤ 41) := ⟨zS, zN, zT⟩
      rw [← hS]
      clear HP hS hT zS zN zT hbl hb
      obtain ⟨x, hx⟩ : ∃ x, x = v[k] := ⟨_, rfl⟩
      rw [← hx] at f0 f1 f2 f3 HV HS HTT HZ
      have HXK : Hid (x = v[k]) := hx
      clear hx
      go_upto_region 7 with fail
      obtain ⟨U, hU⟩ : ∃ V, V = wo.alloc (.cells #[.string x.nm, .int .i64 x.v.k, .int .i64 x.v.n, .string x.v.t] 60) := ⟨_, rfl⟩
      rw [← hU]
      have BU : Hid (Below wo.heap.size wo U) := by rw [Hid, hU]; exact (Below.refl _ _).alloc (Nat.le_refl _) _
      have XU : Hid (U.heap[wo.heap.size]? = some (.cells #[.string x.nm, .int .i64 x.v.k, .int .i64 x.v.n, .string x.v.t] 60 (0, 0))) := by rw [Hid, hU]; exact heap_alloc_new _ _
      have zU : wo.heap.size < U.heap.size := by rw [hU]; simp
      clear hU f0 f1 f2 f3
      refine G.region_rel5 (n := 10) (k := 1) (by omega) (by kernel_rfl) (by kernel_rfl) (by kernel_rfl) (fun u => ⟨#[.slice (some ⟨e, o, none⟩) v.length d, undef, .string ⟨#[]⟩, .string S, undef, .pointer (some ⟨wo.heap.size, 0, none⟩), .slice (some ⟨e, o, none⟩) v.length d, .int .i64 v.length, .bool false, .slice (some ⟨e, o, none⟩) v.length d, .int .i64 v.length, .int .i64 k, .bool true, .pointer (some ⟨e, o + k * 4, none⟩), .agg #[.string x.nm, .int .i64 x.v.k, .int .i64 x.v.n, .string x.v.t], u 15, u 16, u 17, u 18, u 19, u 20, u 21, u 22, u 23, u 24, u25, undef, undef, undef], []⟩) (fun nz => match nz with | 15 => u15 | 16 => u16 | 17 => u17 | 18 => u18 | 19 => u19 | 20 => u20 | 21 => u21 | 22 => u22 | 23 => u23 | 24 => u24 | _ => undef) (fun iz => [15, 16, 17, 18, 19, 20, 21, 22, 23, 24].getD iz 0) (fun iz jz hi hj h => (by decide : ∀ i, i < 10 → ∀ j, j < 10 → [15, 16, 17, 18, 19, 20, 21, 22, 23, 24].getD i 0 = [15, 16, 17, 18, 19, 20, 21, 22, 23, 24].getD j 0 → i = j) iz hi jz hj h)
        (fun iz vq _ => match iz with | 0 => vq = .string S | 1 => vq = .pointer (some ⟨wo.heap.size, 0, none⟩) | 2 => vq = .string x.nm | 3 => vq = .string (x.nm ++ ⟨#[61]⟩) | 4 => vq = .pointer (some ⟨wo.heap.size, 1, none⟩) | 5 => vq = .agg #[.int .i64 x.v.k, .int .i64 x.v.n, .string x.v.t] | 6 => vq = .string T | 7 => vq = .string (x.nm ++ ⟨#[61]⟩ ++ T) | 8 => vq = .string (x.nm ++ ⟨#[61]⟩ ++ T ++ ⟨#[32]⟩) | 9 => vq = .string (S ++ (x.nm ++ ⟨#[61]⟩ ++ T ++ ⟨#[32]⟩)) | _ => True) (fun _ _ W => Below U.heap.size U W) (Below.refl _ _).drew ?step ?last
      case step =>
        intro D u W iq hi hLs hLi hbW hdep
        have HBJ : Hid (Below U.heap.size U W) := hbW
        have hW0 : Hid (Below w.heap.size w W) := HB.out.trans ((BU.out.trans (hbW.mono BU.out.size)).mono HB.out.size)
        have cx := fun o => row_cell ((hbW.block _ zU).trans XU.out) o
        have l1 : (⟨#[61]⟩ : ByteArray).size = 1 := rfl
        have l2 : (⟨#[32]⟩ : ByteArray).size = 1 := rfl
        obtain ⟨zS, zN, zT⟩ := HZ.out
        have n1 : ¬ (9223372036854775807 < x.nm.size + 1) := by omega
        have n1b : ¬ (9223372036854775807 < x.nm.size + (⟨#[61]⟩ : ByteArray).size) := by omega
        have n2 : ¬ (9223372036854775807 < x.nm.size + 1 + T.size) := by omega
        have n2b : ¬ (9223372036854775807 < (x.nm ++ ⟨#[61]⟩).size + T.size) := by rw [ByteArray.size_append]; omega
        have n2c : ¬ (9223372036854775807 < x.nm.size + (⟨#[61]⟩ : ByteArray).size + T.size) := by omega
        have n3 : ¬ (9223372036854775807 < x.nm.size + 1 + T.size + 1) := by omega
        have n3b : ¬ (9223372036854775807 < (x.nm ++ ⟨#[61]⟩ ++ T).size + (⟨#[32]⟩ : ByteArray).size) := by rw [ByteArray.size_append, ByteArray.size_append]; omega
        have n3c : ¬ (9223372036854775807 < x.nm.size + (⟨#[61]⟩ : ByteArray).size + T.size + (⟨#[32]⟩ : ByteArray).size) := by omega
        have n4 : ¬ (9223372036854775807 < S.size + (x.nm.size + 1 + T.size + 1)) := by omega
        have n4b : ¬ (9223372036854775807 < S.size + (x.nm ++ ⟨#[61]⟩ ++ T ++ ⟨#[32]⟩).size) := by rw [ByteArray.size_append, ByteArray.size_append, ByteArray.size_append]; omega
        have n4c : ¬ (9223372036854775807 < S.size + (x.nm.size + (⟨#[61]⟩ : ByteArray).size + T.size + (⟨#[32]⟩ : ByteArray).size)) := by omega
        clear zS zN zT l1 l2
        have hcase : iq = 0 ∨ iq = 1 ∨ iq = 2 ∨ iq = 3 ∨ iq = 4 ∨ iq = 5 ∨ iq = 6 ∨ iq = 7 ∨ iq = 8 ∨ iq = 9 := by omega
        clear hbW hLi hi
        rcases hcase with rfl | rfl | rfl | rfl | rfl | rfl | rfl | rfl | rfl | rfl
        · refine wpOp_step rfl (fun K hK => ?_)
          clear hdep
          go_simp
          exact hK _ _ ⟨.string S, by simp [G.upd], fun _ _ h => h, rfl, HBJ.out⟩
        · refine wpOp_step rfl (fun K hK => ?_)
          clear hdep
          go_simp
          exact hK _ _ ⟨.pointer (some ⟨wo.heap.size, 0, none⟩), by simp [G.upd], fun _ _ h => h, rfl, HBJ.out⟩
        · have d1 : u 16 = .pointer (some ⟨wo.heap.size, 0, none⟩) := (hdep _ rfl ⟨1, .data⟩ (by simp) rfl).2
          refine wpOp_step rfl (fun K hK => ?_)
          clear hdep
          go_simp
          exact hK _ _ ⟨.string x.nm, by simp [G.upd, d1], fun _ _ h => h, rfl, HBJ.out⟩
        · have d2 : u 17 = .string x.nm := (hdep _ rfl ⟨2, .data⟩ (by simp) rfl).2
          refine wpOp_step rfl (fun K hK => ?_)
          clear hdep
          go_simp
          exact hK _ _ ⟨.string (x.nm ++ ⟨#[61]⟩), by simp [G.upd, d2], fun _ _ h => h, rfl, HBJ.out⟩
        · refine wpOp_step rfl (fun K hK => ?_)
          clear hdep
          go_simp
          exact hK _ _ ⟨.pointer (some ⟨wo.heap.size, 1, none⟩), by simp [G.upd], fun _ _ h => h, rfl, HBJ.out⟩
        · have d4 : u 19 = .pointer (some ⟨wo.heap.size, 1, none⟩) := (hdep _ rfl ⟨4, .data⟩ (by simp) rfl).2
          refine wpOp_step rfl (fun K hK => ?_)
          clear hdep
          go_simp
          exact hK _ _ ⟨.agg #[.int .i64 x.v.k, .int .i64 x.v.n, .string x.v.t], by simp [G.upd, d4], fun _ _ h => h, rfl, HBJ.out⟩
        · have d5 : u 20 = .agg #[.int .i64 x.v.k, .int .i64 x.v.n, .string x.v.t] := (hdep _ rfl ⟨5, .data⟩ (by simp) rfl).2
          have HQ : Hid _ := (by have := impl_valueT x.v W HV.out (HPW.out _ hW0.out); rw [← HTT.out] at this; exact this : Calls Tryz.prog 32 #[.agg #[.int .i64 x.v.k, .int .i64 x.v.n, .string x.v.t]] W fun e w' => e = .returned (.string T) ∧ Below W.heap.size W w')
          refine wpOp_step rfl (fun K hK => ?_)
          clear hdep
          go_simp
          refine Calls.mono HQ.out ?_
          rintro e w8 ⟨rfl, hb8⟩
          exact hK _ _ ⟨.string T, by simp [G.upd, d5], fun _ _ h => h, rfl, HBJ.out.trans (hb8.mono HBJ.out.size)⟩
        · have d3 : u 18 = .string (x.nm ++ ⟨#[61]⟩) := (hdep _ rfl ⟨3, .data⟩ (by simp) rfl).2
          have d6 : u 21 = .string T := (hdep _ rfl ⟨6, .data⟩ (by simp) rfl).2
          refine wpOp_step rfl (fun K hK => ?_)
          clear hdep
          go_simp
          exact hK _ _ ⟨.string (x.nm ++ ⟨#[61]⟩ ++ T), by simp [G.upd, d3, d6], fun _ _ h => h, rfl, HBJ.out⟩
        · have d7 : u 22 = .string (x.nm ++ ⟨#[61]⟩ ++ T) := (hdep _ rfl ⟨7, .data⟩ (by simp) rfl).2
          refine wpOp_step rfl (fun K hK => ?_)
          clear hdep
          go_simp
          exact hK _ _ ⟨.string (x.nm ++ ⟨#[61]⟩ ++ T ++ ⟨#[32]⟩), by simp [G.upd, d7], fun _ _ h => h, rfl, HBJ.out⟩
        · have d0 : u 15 = .string S := (hdep _ rfl ⟨0, .data⟩ (by simp) rfl).2
          have d8 : u 23 = .string (x.nm ++ ⟨#[61]⟩ ++ T ++ ⟨#[32]⟩) := (hdep _ rfl ⟨8, .data⟩ (by simp) rfl).2
          refine wpOp_step rfl (fun K hK => ?_)
          clear hdep
          go_simp
          exact hK _ _ ⟨.string (S ++ (x.nm ++ ⟨#[61]⟩ ++ T ++ ⟨#[32]⟩)), by simp [G.upd, d0, d8], fun _ _ h => h, rfl, HBJ.out⟩
      case last =>
        intro D u W hLs hD hbW hp
        have HBL : Hid (Below U.heap.size U W) := hbW
        have d9 : u 24 = .string (S ++ (x.nm ++ ⟨#[61]⟩ ++ T ++ ⟨#[32]⟩)) := hp 9 (by omega)
        have HBO : Hid (Below w.heap.size w W) := HB.out.trans ((BU.out.trans (HBL.out.mono BU.out.size)).mono HB.out.size)
        have HR : Hid ((S ++ (x.nm ++ ⟨#[61]⟩ ++ T ++ ⟨#[32]⟩)) = bl (bnsP (v.take (k + 1)))) := by
          refine bl_of ?_
          rw [nl_app, nl_app, nl_app, nl_app, HSS.out, HTT.out, nl_bl, nl_bl, HS.out]
          unfold bnP
          simp [nl_lit]
        clear hp hbW
        unfold G.wpTail
        refine wpOp_step rfl (fun K hK => ?_)
        go_simp
        refine hK _ _ ?_
        clear hK
        unfold G.wpTail
        go_wp2_with fail
        exact ⟨⟨k + 1, by omega, by go_num, by rw [HR.out], HBO.out⟩, by simp [intOf]; omega⟩
    · have hke : k = v.length := by omega
      subst hke
      rw [List.take_length]
      have zS : (bl (bnsP v)).size ≤ 664 := by
        rw [bl_size]
        have := bnsP_len (v := v) HX0.out
        omega
      have l1 : (⟨#[124]⟩ : ByteArray).size = 1 := rfl
      have l2 : (⟨#[32]⟩ : ByteArray).size = 1 := rfl
      have hv0 : ¬ v = [] := fun h => H0.out (by rw [h]; rfl)
      have HR : Hid (bl (bnsP v) ++ (⟨#[124]⟩ : ByteArray) ++ (⟨#[32]⟩ : ByteArray) = bl (bindT v)) := by
        refine bl_of ?_
        rw [nl_app, nl_app, nl_bl]; unfold bindT; rw [if_neg hv0]; simp [nl_lit]
      generalize bl (bnsP v) = S at *
      have n1 : ¬ (9223372036854775807 < S.size + (⟨#[124]⟩ : ByteArray).size) := by omega
      have n2 : ¬ (9223372036854775807 < S.size + 1) := by omega
      have n3 : ¬ (9223372036854775807 < (S ++ (⟨#[124]⟩ : ByteArray)).size + (⟨#[32]⟩ : ByteArray).size) := by rw [ByteArray.size_append]; omega
      have n4 : ¬ (9223372036854775807 < S.size + (⟨#[124]⟩ : ByteArray).size + (⟨#[32]⟩ : ByteArray).size) := by omega
      have n5 : ¬ (9223372036854775807 < S.size + 1 + 1) := by omega
      clear hv0 hb
      go_wp2_with fail
      go_ret
      exact ⟨ret_str HR.out, HB.out⟩

def rqS (l : List De) (v : List Ar) : ByteArray := if reqB l v = true then bl (reqP l v) else ⟨#[]⟩
def rqC (l : List De) (v : List Ar) : Int := if reqB l v = true then 0 else 1
theorem rq_yes {l : List De} {v : List Ar} (h : reqB l v = true) : rqS l v = bl (reqP l v) ∧ rqC l v = 0 := by unfold rqS rqC; rw [h]; exact ⟨rfl, rfl⟩
theorem rq_no {l : List De} {v : List Ar} (h : reqB l v = false) : rqS l v = ⟨#[]⟩ ∧ rqC l v = 1 := by unfold rqS rqC; rw [h]; exact ⟨rfl, rfl⟩
theorem rq_parts {l : List De} {v : List Ar} (h : reqB l v = true) : docB l = true ∧ bindB v = true := by
  unfold reqB at h; rw [Bool.and_eq_true] at h; exact h
theorem reqP_bindT (l : List De) (v : List Ar) : reqP l v = bindT v ++ docP l := by
  unfold reqP bindT; split <;> simp
set_option maxHeartbeats 4000000 in
theorem spec_requestText (a b : Option Addr) (c d : Nat) (l : List De) (v : List Ar) (w : World) (hr : DeRow 0 w.heap.size w a l) (hv : ArRow 0 w.heap.size w b v) (hbd : RqBd 1048576 l v) :
    Calls Tryz.prog 5 #[.agg #[.slice a l.length c, .slice b v.length d]] w fun e w' => e = .returned (.tuple #[.string (rqS l v), .int .i64 (rqC l v)]) ∧ Below w.heap.size w w' := by
  have K0 : Hid (∀ W0, Below w.heap.size w W0 → DeRow 0 W0.heap.size W0 a l ∧ ArRow 0 W0.heap.size W0 b v) := fun W0 hB => ⟨DeRow.up hr hB, Row.up hv hB⟩
  have HD : Hid (RqBd 1048576 l v) := hbd
  clear hr hv hbd
  have B0 : Hid (Below w.heap.size w (w.alloc (.cells #[.slice a l.length c, .slice b v.length d] 36))) := (Below.refl _ _).alloc (Nat.le_refl _) _
  go_enter Tryz.func5, Tryz.ntmps5
  go_wp2_with fail
  refine (spec_req a b c d l v _ (K0.out _ B0.out).1 (K0.out _ B0.out).2 HD.out).mono ?_
  rintro e w1 ⟨rfl, hb1⟩
  have q1 : Hid (Below w.heap.size w w1) := B0.out.trans (hb1.mono (by simp))
  have c1 := fun o => (hb1.cell (p := ⟨w.heap.size, o, none⟩) (by simp)).trans (row_cell (heap_alloc_new _ _) o)
  clear hb1
  cases hdb : reqB l v
  · have HN : Hid _ := rq_no hdb
    clear hdb
    go_wp2_with fail
    go_ret2
    exact ⟨ret_pr HN.out.1.symm HN.out.2.symm, q1.out⟩
  have HN : Hid _ := rq_yes hdb
  have HP := rq_parts hdb
  have HA : Hid _ := doc_all HP.1
  have HBA : Hid _ := bind_all HP.2
  clear hdb HP
  go_wp2_with fail
  refine (spec_reqText a b c d l v _ (K0.out _ q1.out).1 (K0.out _ q1.out).2 HA.out.1 HA.out.2 HBA.out.1 HBA.out.2).mono ?_
  rintro e w2 ⟨rfl, hb2⟩
  have q2 : Hid (Below w.heap.size w w2) := q1.out.trans (hb2.mono (by have := q1.out.size; omega))
  go_wp2_with fail
  go_ret2
  exact ⟨ret_pr HN.out.1.symm HN.out.2.symm, q2.out⟩
set_option maxHeartbeats 4000000 in
theorem impl_requestText (a b : Option Addr) (c d : Nat) (l : List De) (v : List Ar) (w : World) (hr : DeRow 0 w.heap.size w a l) (hv : ArRow 0 w.heap.size w b v) (hbd : RqBd 1048576 l v) (hp : Pow w) :
    Calls Tryz.prog 7 #[.agg #[.slice a l.length c, .slice b v.length d]] w fun e w' => e = .returned (.tuple #[.string (rqS l v), .int .i64 (rqC l v)]) ∧ Below w.heap.size w w' := by
  have K0 : Hid (∀ W0, Below w.heap.size w W0 → DeRow 0 W0.heap.size W0 a l ∧ ArRow 0 W0.heap.size W0 b v) := fun W0 hB => ⟨DeRow.up hr hB, Row.up hv hB⟩
  have HD : Hid (RqBd 1048576 l v) := hbd
  have HPW : Hid (∀ W, Below w.heap.size w W → Pow W) := fun W h => hp.up h
  clear hr hv hbd hp
  have B0 : Hid (Below w.heap.size w (w.alloc (.cells #[.slice a l.length c, .slice b v.length d] 36))) := (Below.refl _ _).alloc (Nat.le_refl _) _
  go_enter Tryz.func7, Tryz.ntmps7
  go_wp2_with fail
  refine (impl_req a b c d l v _ (K0.out _ B0.out).1 (K0.out _ B0.out).2 HD.out).mono ?_
  rintro e w1 ⟨rfl, hb1⟩
  have q1 : Hid (Below w.heap.size w w1) := B0.out.trans (hb1.mono (by simp))
  have c1 := fun o => (hb1.cell (p := ⟨w.heap.size, o, none⟩) (by simp)).trans (row_cell (heap_alloc_new _ _) o)
  have z1 : w.heap.size < w1.heap.size := by have := size_one hb1; omega
  clear hb1
  cases hdb : reqB l v
  · have HN : Hid _ := rq_no hdb
    clear hdb
    go_wp2_with fail
    go_ret2
    exact ⟨ret_pr HN.out.1.symm HN.out.2.symm, q1.out⟩
  have HN : Hid _ := rq_yes hdb
  have HP := rq_parts hdb
  have HPR := pr_yes HP.1
  have zD : (bl (docP l)).size ≤ 400000 := by
    rw [bl_size]
    have h1 := docR_len (doc_all HP.1).2
    have h2 := (doc_all HP.1).1
    omega
  have HBA : Hid _ := bind_all HP.2
  have zB : (bl (bindT v)).size ≤ 700 := by
    rw [bl_size]
    have h1 := bnsP_len HBA.out.2
    have h2 := HBA.out.1
    unfold bindT
    split
    · simp
    · simp only [List.length_append, List.length_cons, List.length_nil]; omega
  have HPS : Hid (prS l = bl (docP l)) := HPR.1
  have HPC : Hid (prC l = 0) := HPR.2
  clear hdb HP HPR
  go_wp2_with fail
  refine (impl_printDoc a c l _ (K0.out _ q1.out).1 HD.out.1 (HPW.out _ q1.out)).mono ?_
  rw [HPS.out, HPC.out]
  rintro e w2 ⟨rfl, hb2⟩
  have q2 : Hid (Below w.heap.size w w2) := q1.out.trans (hb2.mono (by omega))
  have c2 := fun o => (hb2.cell (p := ⟨w.heap.size, o, none⟩) z1).trans (c1 o)
  clear hb2 c1
  go_wp2_with fail
  refine (impl_bindT b d v _ (K0.out _ q2.out).2 HBA.out.1 HBA.out.2 (HPW.out _ q2.out)).mono ?_
  rintro e w3 ⟨rfl, hb3⟩
  have q3 : Hid (Below w.heap.size w w3) := q2.out.trans (hb3.mono (by have := q2.out.size; omega))
  have HR : Hid (bl (bindT v) ++ bl (docP l) = bl (reqP l v)) := by
    refine bl_of ?_
    rw [nl_app, nl_bl, nl_bl, reqP_bindT]
  have n1 : ¬ (9223372036854775807 < (bl (bindT v)).size + (bl (docP l)).size) := by omega
  clear hb3 zD zB
  go_wp2_with fail
  go_ret2
  exact ⟨ret_pr (HR.out.trans HN.out.1.symm) HN.out.2.symm, q3.out⟩
end Go.Proofs.YtomkekgnaeicpaaGreatDoor
