/- The specification's TxnOK and Conflicts, whole. -/
import Derived.Test.YtlfcjhiojbcijaaStTxSpec
import Derived.Test.YtlfcjhiojbcijaaStReadSpec
import Derived.Test.YtlfcjhiojbcijaaGRegionSix
import Derived.Test.YtlfcjhiojbcijaaStSpecTwo
import Derived.Deep.CutBlock
import Derived.Deep.CutRange
namespace Go.Proofs.Ytlfcjhiojbcijaa.G
open Go.ChangeShapes Go.WideShapes Go.ChangeAt Go.RowKit
set_option linter.unusedVariables false

set_option maxHeartbeats 2000000 in
theorem spec_txnOK (a ra wa : Option Addr) (c rc wc : Nat) (l : Chs) (now st : Int) (rs : List Int) (ws : List Ve) (w : World) (hs : ChRow 0 w.heap.size w a l) (hsb : ChsBd 1048576 l) (hr : TxRow 0 w.heap.size w ra wa rs ws) (hbd : TxBd 1048576 rs ws) (hcap : rs.length ≤ rc) :
    Calls Try.prog 21 #[.agg #[.slice a l.length c, .int .i64 now], .agg #[.int .i64 st, .slice ra rs.length rc, .slice wa ws.length wc]] w fun e w' => e = .returned (.bool (txnB l now st rs ws)) ∧ Below w.heap.size w w' := by
  obtain ⟨V, hV⟩ : ∃ V, V = (w.alloc (.cells #[.slice a l.length c, .int .i64 now] 38)).alloc (.cells #[.int .i64 st, .slice ra rs.length rc, .slice wa ws.length wc] 33) := ⟨_, rfl⟩
  have bV : Below w.heap.size w V := by
    rw [hV]
    repeat (first | exact Below.refl _ _ | refine Below.alloc ?_ (by first | omega | (simp <;> omega)) _)
  have zV : V.heap.size = w.heap.size + 2 := by rw [hV]; simp
  have c0 : V.heap[w.heap.size]? = some (.cells #[.slice a l.length c, .int .i64 now] 38 (0, 0)) := by
    rw [hV, Below.heap_alloc _ _ _ (by simp)]; exact heap_alloc_new _ _
  have c1 : V.heap[w.heap.size + 1]? = some (.cells #[.int .i64 st, .slice ra rs.length rc, .slice wa ws.length wc] 33 (0, 0)) := by
    rw [hV]
    have := heap_alloc_new (w.alloc (.cells #[.slice a l.length c, .int .i64 now] 38)) (.cells #[.int .i64 st, .slice ra rs.length rc, .slice wa ws.length wc] 33)
    simpa using this
  have KV : Hid (∀ W, Below V.heap.size V W → W.heap[w.heap.size]? = some (.cells #[.slice a l.length c, .int .i64 now] 38 (0, 0)) ∧ W.heap[w.heap.size + 1]? = some (.cells #[.int .i64 st, .slice ra rs.length rc, .slice wa ws.length wc] 33 (0, 0)) ∧ ChRow 0 W.heap.size W a l ∧ TxRow 0 W.heap.size W ra wa rs ws ∧ Below w.heap.size w W) := fun W h =>
    have hw := bV.trans (h.mono (by omega))
    ⟨(h.block _ (by omega)).trans c0, (h.block _ (by omega)).trans c1, ChRow.up hs hw, TxRow.up hr hw, hw⟩
  have HE : Hid (ChsBd 1048576 l) := hsb
  have HD : Hid (TxBd 1048576 rs ws) := hbd
  have x0 := fun o => row_cell c0 o
  have x1 := fun o => row_cell c1 o
  clear hs hr hbd hsb c0 c1 bV
  go_enter Try.func21, Try.ntmps21
  go_upto_region 1 with fail
  rw [← hV]
  clear hV
  go_wp2_with fail
  refine (spec_storeOK a c l now _ (KV.out _ (Below.refl _ _)).2.2.1 HE.out).mono ?_
  rintro e w1 ⟨rfl, b1⟩
  have B1 : Hid (Below V.heap.size V w1) := b1
  obtain ⟨t0, t1, _, t3, t4⟩ := KV.out _ b1
  have e0 := fun o => row_cell t0 o
  have e1 := fun o => row_cell t1 o
  have T3 : Hid _ := t3
  have T4 : Hid _ := t4
  clear t0 t1 t3 t4 b1 x0 x1
  cases hS : storeB l now
  · have HN : Hid (false = txnB l now st rs ws) := by rw [Hid, txnB, hS]; rfl
    go_wp2_with fail
    go_ret
    exact ⟨ret_b HN.out, T4.out⟩
  · have HN : Hid (txB now st rs ws = txnB l now st rs ws) := by rw [Hid, txnB, hS]; rfl
    go_wp2_with fail
    refine (spec_txOK a ra wa c rc wc l now st rs ws _ T3.out HD.out hcap).mono ?_
    rintro e w2 ⟨rfl, b2⟩
    have Q2 : Hid _ := (KV.out _ (B1.out.trans (b2.mono B1.out.size))).2.2.2.2
    clear b2 e0 e1
    go_wp2_with fail
    go_ret
    exact ⟨ret_b HN.out, Q2.out⟩
theorem any_take_no {p : Int → Bool} {rs : List Int} (h : ∀ i (hi : i < rs.length), p rs[i] = false) : rs.any p = false := by
  rw [List.any_eq_false]; intro x hx
  obtain ⟨i, hi, rfl⟩ := List.getElem_of_mem hx
  simp [h i hi]
theorem any_yes {p : Int → Bool} {rs : List Int} {i : Nat} (hi : i < rs.length) (h : p rs[i] = true) : rs.any p = true := by
  rw [List.any_eq_true]; exact ⟨rs[i], List.getElem_mem hi, h⟩
set_option maxHeartbeats 8000000 in
set_option maxRecDepth 40000 in
theorem spec_conf (a ra wa : Option Addr) (c rc wc : Nat) (l : Chs) (now st : Int) (rs : List Int) (ws : List Ve) (w : World) (hs : ChRow 0 w.heap.size w a l) (hsb : ChsBd 1048576 l) (hr : TxRow 0 w.heap.size w ra wa rs ws) (hbd : TxBd 1048576 rs ws) (hcap : rs.length ≤ rc) (h16 : l.length = 16) (hk : readsB rs = true) :
    Calls Try.prog 42 #[.agg #[.slice a l.length c, .int .i64 now], .agg #[.int .i64 st, .slice ra rs.length rc, .slice wa ws.length wc]] w fun e w' => e = .returned (.bool (confB l st rs ws)) ∧ Below w.heap.size w w' := by
  have HK : Hid (readsB rs = true) := hk
  have H16 : Hid (l.length = 16) := h16
  clear h16
  have hl1 := hbd.1
  have hl2 := hbd.2
  clear hk
  obtain ⟨V, hV⟩ : ∃ V, V = (w.alloc (.cells #[.slice a l.length c, .int .i64 now] 38)).alloc (.cells #[.int .i64 st, .slice ra rs.length rc, .slice wa ws.length wc] 33) := ⟨_, rfl⟩
  have bV : Below w.heap.size w V := by
    rw [hV]
    repeat (first | exact Below.refl _ _ | refine Below.alloc ?_ (by first | omega | (simp <;> omega)) _)
  have zV : V.heap.size = w.heap.size + 2 := by rw [hV]; simp
  have c0 : V.heap[w.heap.size]? = some (.cells #[.slice a l.length c, .int .i64 now] 38 (0, 0)) := by
    rw [hV, Below.heap_alloc _ _ _ (by simp)]; exact heap_alloc_new _ _
  have c1 : V.heap[w.heap.size + 1]? = some (.cells #[.int .i64 st, .slice ra rs.length rc, .slice wa ws.length wc] 33 (0, 0)) := by
    rw [hV]
    have := heap_alloc_new (w.alloc (.cells #[.slice a l.length c, .int .i64 now] 38)) (.cells #[.int .i64 st, .slice ra rs.length rc, .slice wa ws.length wc] 33)
    simpa using this
  have KV : Hid (∀ W, Below V.heap.size V W → W.heap[w.heap.size]? = some (.cells #[.slice a l.length c, .int .i64 now] 38 (0, 0)) ∧ W.heap[w.heap.size + 1]? = some (.cells #[.int .i64 st, .slice ra rs.length rc, .slice wa ws.length wc] 33 (0, 0)) ∧ ChRow 0 W.heap.size W a l ∧ TxRow 0 W.heap.size W ra wa rs ws ∧ Below w.heap.size w W) := fun W h =>
    have hw := bV.trans (h.mono (by omega))
    ⟨(h.block _ (by omega)).trans c0, (h.block _ (by omega)).trans c1, ChRow.up hs hw, TxRow.up hr hw, hw⟩
  have HE : Hid (ChsBd 1048576 l) := hsb
  have HD : Hid (TxBd 1048576 rs ws) := hbd
  have x0 := fun o => row_cell c0 o
  have x1 := fun o => row_cell c1 o
  clear hs hr hbd hsb c0 c1 bV
  go_enter Try.func42, Try.ntmps42
  go_upto_region 1 with fail
  rw [← hV]
  clear hV
  go_wp2_with fail
  clear x0 x1
  go_loopw [5] (fun i w' => ∃ (k : Nat), k ≤ rs.length ∧ i = .int .i64 k ∧ Hid (Below V.heap.size V w') ∧ Hid (∀ i (hi : i < rs.length), i < k → chgB (chAt l rs[i].toNat) st = false)) (fun i _ => rs.length - (intOf i).toNat)
  case atStart => exact ⟨0, by omega, rfl, Below.refl _ _, fun i _ h => by omega⟩
  case round =>
    obtain ⟨wo, rfl⟩ : ∃ x, x = wr := ⟨_, rfl⟩
    obtain ⟨k, hk, rfl, HB, HN⟩ := hrel
    obtain ⟨t0, t1, t2, t3, t4⟩ := KV.out _ HB.out
    have x0 := fun o => row_cell t0 o
    have x1 := fun o => row_cell t1 o
    have Q : Hid _ := t4
    have RW : Hid _ := t3
    clear t0 t1 t2 t3 t4
    by_cases hlt : k < rs.length
    case neg =>
      have HF : Hid (false = confB l st rs ws) := by
        rw [Hid, confB, any_take_no (p := fun k => chgB (chAt l k.toNat) st) (fun i hi => HN.out i hi (by omega))]; rfl
      go_wp2_with fail
      go_ret
      exact ⟨ret_b HF.out, Q.out⟩
    obtain ⟨b, o, ha, _, hbl, d0⟩ := NuRow.cells RW.out.1 k hlt
    obtain ⟨q, hq⟩ : ∃ q : Nat, rs[k] = q := ⟨rs[k].toNat, by have := (readsB_at HK.out hlt).1; omega⟩
    have hq16 : q < l.length := by have := (readsB_at HK.out hlt).1; have := H16.out; omega
    have HCH : Hid (chAt l rs[k].toNat = l[q]) := by rw [Hid, hq, Int.toNat_natCast, chAt_eq hq16]
    have HCQ : Hid _ := hq
    subst ha
    rw [hq] at d0
    have hlt' : (k : Int) < rs.length := by omega
    have D0 : Hid _ := d0
    clear d0 hq
    go_upto_region 4 with fail
    have J0 : Below wo.heap.size wo wo.drew := (Below.refl _ _).drew
    obtain ⟨B, hB⟩ : ∃ B, B = chgB l[q] st := ⟨_, rfl⟩
    have HBB : Hid (B = chgB l[q] st) := hB
    clear hB x0 x1
    refine region_rel6 (n := 9) (by kernel_rfl) (by kernel_rfl) rfl (fun u => ⟨#[.agg #[.slice a l.length c, .int .i64 now], .agg #[.int .i64 st, .slice (some ⟨b, o, none⟩) rs.length rc, .slice wa ws.length wc], .pointer (some ⟨w.heap.size, 0, none⟩), .pointer (some ⟨w.heap.size + 1, 0, none⟩), u4, .int .i64 k, .int .i64 k, .pointer (some ⟨w.heap.size + 1, 1, none⟩), .slice (some ⟨b, o, none⟩) rs.length rc, .int .i64 rs.length, .bool true, u11, u12, u 13, u 14, u 15, u 16, u 17, u 18, u 19, u 20, u 21, u22, u23, u24, u25], []⟩) (fun n => match n with | 13 => u13 | 14 => u14 | 15 => u15 | 16 => u16 | 17 => u17 | 18 => u18 | 19 => u19 | 20 => u20 | 21 => u21 | _ => undef) (fun i => 13 + i) (fun i j _ _ h => by omega)
      (fun i v _ => match i with | 0 => v = .agg #[.slice a l.length c, .int .i64 now] | 1 => v = .pointer (some ⟨w.heap.size + 1, 1, none⟩) | 2 => v = .slice (some ⟨b, o, none⟩) rs.length rc | 3 => v = .int .i64 k | 4 => v = .pointer (some ⟨b, o + k, none⟩) | 5 => v = .int .i64 q | 6 => v = .pointer (some ⟨w.heap.size + 1, 0, none⟩) | 7 => v = .int .i64 st | _ => v = .bool B) (fun _ _ W => Below wo.heap.size wo W) J0 ?step ?last
    case step =>
      intro L u W i hi hLs hLi hj hdep
      have QW : Hid (Below V.heap.size V W) := HB.out.trans (hj.mono HB.out.size)
      obtain ⟨t0, t1, t2, t3, t4⟩ := KV.out _ QW.out
      have e0 := fun o => row_cell t0 o
      have e1 := fun o => row_cell t1 o
      have eb := (hj.cell (p := ⟨b, o + k, none⟩) hbl).trans D0.out
      have RS : Hid _ := t2
      have hzj := hj.size
      clear t0 t1 t2 t3 t4
      have hcase : i = 0 ∨ i = 1 ∨ i = 2 ∨ i = 3 ∨ i = 4 ∨ i = 5 ∨ i = 6 ∨ i = 7 ∨ i = 8 := by omega
      rcases hcase with rfl | rfl | rfl | rfl | rfl | rfl | rfl | rfl | rfl
      · refine wpOp_step rfl (fun K hK => ?_)
        clear hdep
        go_simp
        exact hK _ _ ⟨_, rfl, fun _ _ h => h, rfl, hj⟩
      · refine wpOp_step rfl (fun K hK => ?_)
        clear hdep
        go_simp
        exact hK _ _ ⟨_, rfl, fun _ _ h => h, rfl, hj⟩
      · have d1 : u 14 = .pointer (some ⟨w.heap.size + 1, 1, none⟩) := (hdep _ rfl ⟨1, .data⟩ (by simp) rfl).2
        refine wpOp_step rfl (fun K hK => ?_)
        clear hdep
        go_simp
        exact hK _ _ ⟨_, by simp [upd, d1], fun _ _ h => h, rfl, hj⟩
      · refine wpOp_step rfl (fun K hK => ?_)
        clear hdep
        go_simp
        exact hK _ _ ⟨_, rfl, fun _ _ h => h, rfl, hj⟩
      · have d2 : u 15 = .slice (some ⟨b, o, none⟩) rs.length rc := (hdep _ rfl ⟨2, .data⟩ (by simp) rfl).2
        have d3 : u 16 = .int .i64 k := (hdep _ rfl ⟨3, .data⟩ (by simp) rfl).2
        refine wpOp_step rfl (fun K hK => ?_)
        clear hdep
        go_simp
        exact hK _ _ ⟨_, by simp [upd, d2, d3], fun _ _ h => h, rfl, hj⟩
      · have d4 : u 17 = .pointer (some ⟨b, o + k, none⟩) := (hdep _ rfl ⟨4, .data⟩ (by simp) rfl).2
        refine wpOp_step rfl (fun K hK => ?_)
        clear hdep
        go_simp
        exact hK _ _ ⟨_, by simp [upd, d4], fun _ _ h => h, rfl, hj⟩
      · refine wpOp_step rfl (fun K hK => ?_)
        clear hdep
        go_simp
        exact hK _ _ ⟨_, rfl, fun _ _ h => h, rfl, hj⟩
      · have d6 : u 19 = .pointer (some ⟨w.heap.size + 1, 0, none⟩) := (hdep _ rfl ⟨6, .data⟩ (by simp) rfl).2
        refine wpOp_step rfl (fun K hK => ?_)
        clear hdep
        go_simp
        exact hK _ _ ⟨_, by simp [upd, d6], fun _ _ h => h, rfl, hj⟩
      · have d0 : u 13 = .agg #[.slice a l.length c, .int .i64 now] := (hdep _ rfl ⟨0, .data⟩ (by simp) rfl).2
        have d5 : u 18 = .int .i64 q := (hdep _ rfl ⟨5, .data⟩ (by simp) rfl).2
        have d7 : u 20 = .int .i64 st := (hdep _ rfl ⟨7, .data⟩ (by simp) rfl).2
        refine wpOp_step rfl (fun K hK => ?_)
        clear hdep e0 e1 eb
        go_simp
        refine (spec_changed a c l now st q _ RS.out HE.out hq16).mono ?_
        rintro e w8 ⟨rfl, hb8⟩
        exact hK _ _ ⟨.bool (chgB l[q] st), by simp [upd, d0, d5, d7], fun _ _ h => h, (by show Value.bool (chgB l[q] st) = .bool B; rw [HBB.out]), hj.trans (hb8.mono hzj)⟩
    case last =>
      intro L u W hLs hL hj hp
      have d8 : u 21 = .bool B := hp 8 (by omega)
      have QW : Hid (Below V.heap.size V W) := HB.out.trans (hj.mono HB.out.size)
      obtain ⟨t0, t1, t2, t3, t4⟩ := KV.out _ QW.out
      have e1 := fun o => row_cell t1 o
      have Q4 : Hid _ := t4
      clear t0 t1 t2 t3 t4 hp hj
      rw [d8]
      clear d8
      cases B
      · have HN2 : Hid (∀ i (hi : i < rs.length), i < k + 1 → chgB (chAt l rs[i].toNat) st = false) := fun i hi h2 => by
          by_cases e : i = k
          · subst e; rw [HCH.out, ← HBB.out]
          · exact HN.out i hi (by omega)
        go_wp2_with fail
        exact ⟨⟨k + 1, by omega, by go_num, QW, HN2⟩, by simp [intOf]; omega⟩
      · have HT : Hid (decide ((0 : Int) < ws.length) = confB l st rs ws) := by
          rw [Hid, confB, any_yes (p := fun k => chgB (chAt l k.toNat) st) hlt (by show chgB (chAt l rs[k].toNat) st = true; rw [HCH.out, ← HBB.out])]
          rw [Bool.true_and]
          by_cases h : 0 < ws.length
          · rw [decide_eq_true h, decide_eq_true (by omega)]
          · rw [decide_eq_false h, decide_eq_false (by omega)]
        go_wp2_with fail
        go_ret
        exact ⟨ret_b (by first | exact HT.out | (rw [← HT.out]; simp)), Q4.out⟩
def confR (l : Chs) (now st : Int) (rs : List Int) (ws : List Ve) : Bool := txnB l now st rs ws && confB l st rs ws
def txC (l : Chs) (now st : Int) (rs : List Int) (ws : List Ve) : Int := if txnB l now st rs ws = true then 0 else 1
set_option maxHeartbeats 2000000 in
theorem spec_conflicts (a ra wa : Option Addr) (c rc wc : Nat) (l : Chs) (now st : Int) (rs : List Int) (ws : List Ve) (w : World) (hs : ChRow 0 w.heap.size w a l) (hsb : ChsBd 1048576 l) (hr : TxRow 0 w.heap.size w ra wa rs ws) (hbd : TxBd 1048576 rs ws) (hcap : rs.length ≤ rc) :
    Calls Try.prog 16 #[.agg #[.slice a l.length c, .int .i64 now], .agg #[.int .i64 st, .slice ra rs.length rc, .slice wa ws.length wc]] w fun e w' => e = .returned (.tuple #[.bool (confR l now st rs ws), .int .i64 (txC l now st rs ws)]) ∧ Below w.heap.size w w' := by
  obtain ⟨V, hV⟩ : ∃ V, V = (w.alloc (.cells #[.slice a l.length c, .int .i64 now] 38)).alloc (.cells #[.int .i64 st, .slice ra rs.length rc, .slice wa ws.length wc] 33) := ⟨_, rfl⟩
  have bV : Below w.heap.size w V := by
    rw [hV]
    repeat (first | exact Below.refl _ _ | refine Below.alloc ?_ (by first | omega | (simp <;> omega)) _)
  have zV : V.heap.size = w.heap.size + 2 := by rw [hV]; simp
  have c0 : V.heap[w.heap.size]? = some (.cells #[.slice a l.length c, .int .i64 now] 38 (0, 0)) := by
    rw [hV, Below.heap_alloc _ _ _ (by simp)]; exact heap_alloc_new _ _
  have c1 : V.heap[w.heap.size + 1]? = some (.cells #[.int .i64 st, .slice ra rs.length rc, .slice wa ws.length wc] 33 (0, 0)) := by
    rw [hV]
    have := heap_alloc_new (w.alloc (.cells #[.slice a l.length c, .int .i64 now] 38)) (.cells #[.int .i64 st, .slice ra rs.length rc, .slice wa ws.length wc] 33)
    simpa using this
  have KV : Hid (∀ W, Below V.heap.size V W → W.heap[w.heap.size]? = some (.cells #[.slice a l.length c, .int .i64 now] 38 (0, 0)) ∧ W.heap[w.heap.size + 1]? = some (.cells #[.int .i64 st, .slice ra rs.length rc, .slice wa ws.length wc] 33 (0, 0)) ∧ ChRow 0 W.heap.size W a l ∧ TxRow 0 W.heap.size W ra wa rs ws ∧ Below w.heap.size w W) := fun W h =>
    have hw := bV.trans (h.mono (by omega))
    ⟨(h.block _ (by omega)).trans c0, (h.block _ (by omega)).trans c1, ChRow.up hs hw, TxRow.up hr hw, hw⟩
  have HE : Hid (ChsBd 1048576 l) := hsb
  have HD : Hid (TxBd 1048576 rs ws) := hbd
  have x0 := fun o => row_cell c0 o
  have x1 := fun o => row_cell c1 o
  clear hs hr hbd hsb c0 c1 bV
  go_enter Try.func16, Try.ntmps16
  go_upto_region 1 with fail
  rw [← hV]
  clear hV
  go_wp2_with fail
  refine (spec_txnOK a ra wa c rc wc l now st rs ws _ (KV.out _ (Below.refl _ _)).2.2.1 HE.out (KV.out _ (Below.refl _ _)).2.2.2.1 HD.out hcap).mono ?_
  rintro e w1 ⟨rfl, b1⟩
  have B1 : Hid (Below V.heap.size V w1) := b1
  obtain ⟨t0, t1, t2, t3, t4⟩ := KV.out _ b1
  have e0 := fun o => row_cell t0 o
  have e1 := fun o => row_cell t1 o
  have T2 : Hid _ := t2
  have T3 : Hid _ := t3
  have T4 : Hid _ := t4
  clear t0 t1 t2 t3 t4 b1 x0 x1
  cases hS : txnB l now st rs ws
  · have H1 : Hid (false = confR l now st rs ws) := by rw [Hid, confR, hS]; rfl
    have H2 : Hid (1 = txC l now st rs ws) := by rw [Hid, txC, hS]; rfl
    go_wp2_with fail
    go_ret2
    exact ⟨ret_b2 H1.out H2.out, T4.out⟩
  · have hal := txnB_all hS
    have H16 : Hid (l.length = 16) := (storeB_all hal.1).1
    have HK : Hid (readsB rs = true) := hal.2.2.2
    have H1 : Hid (confB l st rs ws = confR l now st rs ws) := by rw [Hid, confR, hS]; rfl
    have H2 : Hid (0 = txC l now st rs ws) := by rw [Hid, txC, hS]; rfl
    clear hal
    go_wp2_with fail
    refine (spec_conf a ra wa c rc wc l now st rs ws _ T2.out HE.out T3.out HD.out hcap H16.out HK.out).mono ?_
    rintro e w2 ⟨rfl, b2⟩
    have Q2 : Hid _ := (KV.out _ (B1.out.trans (b2.mono B1.out.size))).2.2.2.2
    clear b2 e0 e1
    go_wp2_with fail
    go_ret2
    exact ⟨ret_b2 H1.out H2.out, Q2.out⟩
end Go.Proofs.Ytlfcjhiojbcijaa.G
