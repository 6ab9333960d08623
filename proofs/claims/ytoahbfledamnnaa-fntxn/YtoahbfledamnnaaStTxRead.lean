/- The specification's Begin, l07Read and ReadTxn. -/
import Derived.Test.YtoahbfledamnnaaGRegionFive
import Derived.Test.YtoahbfledamnnaaStKids
import Derived.Test.YtoahbfledamnnaaStFgMath
import Derived.Test.YtoahbfledamnnaaStSpecTwo
import Derived.Deep.CutBlock
import Derived.Deep.CutRange
import Derived.Test.YtoahbfledamnnaaStTxOwn
namespace Go.Proofs.Ytoahbfledamnnaa.G
open Go.ChangeShapes Go.WideShapes Go.ChangeAt Go.RowKit
set_option linter.unusedVariables false

theorem region_rel6 {P : Program} {ops : Array Oper} {Q : Exit → Act → World → Prop} {id : Nat} {W0 : World} {n : Nat} (hm : P.follows .mixedOrders = true) (hback : back3B ops = true) (hsz : ops.size = n)
    (fr : (Nat → Value) → Act) (u0 : Nat → Value) (dst : Nat → Nat) (hdst : ∀ i j, i < n → j < n → dst i = dst j → i = j)
    (Pv : Nat → Value → World → Prop) (J : Array Bool → (Nat → Value) → World → Prop)
    (hJ0 : J (Array.replicate ops.size false) u0 W0.drew)
    (hstep : ∀ L u w i, i < n → L.size = n → L.getD i true = false → J L u w → (∀ o, ops[i]? = some o → ∀ e ∈ o.after, Region.binds .any e = true → L.getD e.on false = true ∧ Pv e.on (u (dst e.on)) w) →
      wpOp P ops Q i (fun a' w' => ∃ v, a' = fr (upd u (dst i) v) ∧ (∀ j x, Pv j x w → Pv j x w') ∧ Pv i v w' ∧ J (L.setIfInBounds i true) (upd u (dst i) v) w') (fr u) w)
    (hend : ∀ L u w, L.size = n → (∀ i, i < n → L.getD i false = true) → J L u w → (∀ i, i < n → Pv i (u (dst i)) w) → Q .normal (fr u) w) :
    (Code.region id ops true).wp P Q (fr u0) W0 := by
  refine wp_region_any hm ?_
  have key : ∀ (fuel : Nat) (L : Array Bool) (u : Nat → Value) (w : World), L.size = n → L.toList.count false ≤ fuel → J L u w →
      (∀ i, i < n → L.getD i false = true → Pv i (u (dst i)) w) → wpAny P .any ops Q fuel L (fr u) w := by
    intro fuel
    induction fuel with
    | zero =>
      intro L u w hs hc hj hp
      have hdone : ∀ i, i < n → L.getD i false = true := fun i hi => by
        by_cases h : L.getD i false = true
        · exact h
        · have h1 := cntF L.toList i (getD_get (getD_other (by omega) h))
          omega
      refine wpAny_done ?_ (hend L u w hs hdone hj (fun j hj2 => hp j hj2 (hdone j hj2))) 0
      rw [List.eq_nil_iff_forall_not_mem]
      intro g hg
      rw [mem_ready] at hg
      obtain ⟨g1, -⟩ := hg
      have hgl := getD_lt g1
      rw [getD_both (by omega) (hdone g (by omega))] at g1
      cases g1
    | succ fuel ih =>
      intro L u w hs hc hj hp
      by_cases hall : ∀ i, i < n → L.getD i false = true
      · refine wpAny_done ?_ (hend L u w hs hall hj (fun j hj2 => hp j hj2 (hall j hj2))) _
        rw [List.eq_nil_iff_forall_not_mem]
        intro g hg
        rw [mem_ready] at hg
        obtain ⟨g1, -⟩ := hg
        have hgl := getD_lt g1
        rw [getD_both (by omega) (hall g (by omega))] at g1
        cases g1
      refine ⟨fun h0 => ?_, fun i hi => ?_⟩
      · simp only [Classical.not_forall] at hall
        obtain ⟨i, hi, hne⟩ := hall
        obtain ⟨j, hj'⟩ := some_ready3 hback (hs.trans hsz.symm) (i + 1) i (by omega) (getD_other (by omega) hne)
        rw [h0] at hj'
        cases hj'
      · rw [mem_ready] at hi
        obtain ⟨hL, o, ho, hdep⟩ := hi
        have hlt := getD_lt hL
        refine wpOp_mono ?_ (hstep L u w i (by omega) hs hL hj (fun o' ho' e he hbi => ?_))
        · rintro a' w' ⟨v, rfl, hk2, hp2, hj2⟩
          refine ih _ _ _ (by rw [Array.size_setIfInBounds]; exact hs) ?_ hj2 ?_
          · have h1 := cntF L.toList i (getD_get hL)
            rw [Array.toList_setIfInBounds]
            omega
          · intro j hjn hjl
            by_cases hji : j = i
            · subst hji
              rw [upd_at]
              exact hp2
            · rw [getD_set_ne false (Ne.symm hji)] at hjl
              rw [upd_ne _ _ (fun h => hji (hdst j i hjn (by omega) h))]
              exact hk2 _ _ (hp j hjn hjl)
        · rw [ho] at ho'
          simp only [Option.some.injEq] at ho'
          subst ho'
          have h1 := hdep e he hbi
          unfold back3B at hback
          rw [List.all_eq_true] at hback
          have h2 := hback i (by rw [List.mem_range]; omega)
          rw [ho] at h2
          simp only [Array.all_eq_true_iff_forall_mem, Bool.or_eq_true, Bool.not_eq_true', decide_eq_true_eq] at h2
          have h3 : e.on < i := by
            rcases h2 e he with h4 | h4
            · rw [hbi] at h4; cases h4
            · exact h4
          exact ⟨h1, hp e.on (by omega) h1⟩
  have hrep : (Array.replicate ops.size false).toList.count false = ops.size := by simp
  exact key ops.size _ u0 _ (by rw [Array.size_replicate]; exact hsz) (by rw [hrep]; exact Nat.le_refl _) hJ0 (fun i hi h => by
    rw [hsz] at h
    simp [hi] at h)
end Go.Proofs.Ytoahbfledamnnaa.G
namespace Go.Proofs.Ytoahbfledamnnaa.G
open Go.ChangeShapes Go.WideShapes Go.ChangeAt Go.RowKit
set_option linter.unusedVariables false

set_option maxHeartbeats 2000000 in
theorem spec_txnOK (a ra wa : Option Addr) (c rc wc : Nat) (l : Chs) (now st : Int) (rs : List Int) (ws : List Ve) (w : World) (hs : ChRow 0 w.heap.size w a l) (hsb : ChsBd 1048576 l) (hr : TxRow 0 w.heap.size w ra wa rs ws) (hbd : TxBd 1048576 rs ws) (hcap : rs.length ≤ rc) :
    Calls Try.prog 37 #[.agg #[.slice a l.length c, .int .i64 now], .agg #[.int .i64 st, .slice ra rs.length rc, .slice wa ws.length wc]] w fun e w' => e = .returned (.bool (txnB l now st rs ws)) ∧ Below w.heap.size w w' := by
  obtain ⟨V, hV⟩ : ∃ V, V = (w.alloc (.cells #[.slice a l.length c, .int .i64 now] 25)).alloc (.cells #[.int .i64 st, .slice ra rs.length rc, .slice wa ws.length wc] 30) := ⟨_, rfl⟩
  have bV : Below w.heap.size w V := by
    rw [hV]
    repeat (first | exact Below.refl _ _ | refine Below.alloc ?_ (by first | omega | (simp <;> omega)) _)
  have zV : V.heap.size = w.heap.size + 2 := by rw [hV]; simp
  have c0 : V.heap[w.heap.size]? = some (.cells #[.slice a l.length c, .int .i64 now] 25 (0, 0)) := by
    rw [hV, Below.heap_alloc _ _ _ (by simp)]; exact heap_alloc_new _ _
  have c1 : V.heap[w.heap.size + 1]? = some (.cells #[.int .i64 st, .slice ra rs.length rc, .slice wa ws.length wc] 30 (0, 0)) := by
    rw [hV]
    have := heap_alloc_new (w.alloc (.cells #[.slice a l.length c, .int .i64 now] 25)) (.cells #[.int .i64 st, .slice ra rs.length rc, .slice wa ws.length wc] 30)
    simpa using this
  have KV : Hid (∀ W, Below V.heap.size V W → W.heap[w.heap.size]? = some (.cells #[.slice a l.length c, .int .i64 now] 25 (0, 0)) ∧ W.heap[w.heap.size + 1]? = some (.cells #[.int .i64 st, .slice ra rs.length rc, .slice wa ws.length wc] 30 (0, 0)) ∧ ChRow 0 W.heap.size W a l ∧ TxRow 0 W.heap.size W ra wa rs ws ∧ Below w.heap.size w W) := fun W h =>
    have hw := bV.trans (h.mono (by omega))
    ⟨(h.block _ (by omega)).trans c0, (h.block _ (by omega)).trans c1, ChRow.up hs hw, TxRow.up hr hw, hw⟩
  have HE : Hid (ChsBd 1048576 l) := hsb
  have HD : Hid (TxBd 1048576 rs ws) := hbd
  have x0 := fun o => row_cell c0 o
  have x1 := fun o => row_cell c1 o
  clear hs hr hbd hsb c0 c1 bV
  go_enter Try.func37, Try.ntmps37
  go_upto_region 1 with fail
  rw [← hV]
  clear hV
  go_wp2_with fail
  refine (spec_storeOK a c l now _ (KV.out _ (Below.refl _ _)).2.2.1 HE.out).mono ?_
  rintro e w1 ⟨rfl, b1⟩
  have B1 : Hid (Below V.heap.size V w1) := b1
  obtain ⟨t0, t1, _, t3, t4⟩ := KV.out _ b1
  have e0 := fun o => row_cell t0 o
  have e1 := fun o => row_cell t1 o
  have T3 : Hid _ := t3
  have T4 : Hid _ := t4
  clear t0 t1 t3 t4 b1 x0 x1
  cases hS : storeB l now
  · have HN : Hid (false = txnB l now st rs ws) := by rw [Hid, txnB, hS]; rfl
    go_wp2_with fail
    go_ret
    exact ⟨ret_b HN.out, T4.out⟩
  · have HN : Hid (txB now st rs ws = txnB l now st rs ws) := by rw [Hid, txnB, hS]; rfl
    go_wp2_with fail
    refine (spec_txOK a ra wa c rc wc l now st rs ws _ T3.out HD.out hcap).mono ?_
    rintro e w2 ⟨rfl, b2⟩
    have Q2 : Hid _ := (KV.out _ (B1.out.trans (b2.mono B1.out.size))).2.2.2.2
    clear b2 e0 e1
    go_wp2_with fail
    go_ret
    exact ⟨ret_b HN.out, Q2.out⟩
theorem any_take_no {p : Int → Bool} {rs : List Int} (h : ∀ i (hi : i < rs.length), p rs[i] = false) : rs.any p = false := by
  rw [List.any_eq_false]; intro x hx
  obtain ⟨i, hi, rfl⟩ := List.getElem_of_mem hx
  simp [h i hi]
theorem any_yes {p : Int → Bool} {rs : List Int} {i : Nat} (hi : i < rs.length) (h : p rs[i] = true) : rs.any p = true := by
  rw [List.any_eq_true]; exact ⟨rs[i], List.getElem_mem hi, h⟩
set_option maxHeartbeats 8000000 in
set_option maxRecDepth 40000 in
theorem spec_conf (a ra wa : Option Addr) (c rc wc : Nat) (l : Chs) (now st : Int) (rs : List Int) (ws : List Ve) (w : World) (hs : ChRow 0 w.heap.size w a l) (hsb : ChsBd 1048576 l) (hr : TxRow 0 w.heap.size w ra wa rs ws) (hbd : TxBd 1048576 rs ws) (hcap : rs.length ≤ rc) (h16 : l.length = 16) (hk : readsB rs = true) :
    Calls Try.prog 38 #[.agg #[.slice a l.length c, .int .i64 now], .agg #[.int .i64 st, .slice ra rs.length rc, .slice wa ws.length wc]] w fun e w' => e = .returned (.bool (confB l st rs ws)) ∧ Below w.heap.size w w' := by
  have HK : Hid (readsB rs = true) := hk
  have H16 : Hid (l.length = 16) := h16
  clear h16
  have hl1 := hbd.1
  have hl2 := hbd.2
  clear hk
  obtain ⟨V, hV⟩ : ∃ V, V = (w.alloc (.cells #[.slice a l.length c, .int .i64 now] 25)).alloc (.cells #[.int .i64 st, .slice ra rs.length rc, .slice wa ws.length wc] 30) := ⟨_, rfl⟩
  have bV : Below w.heap.size w V := by
    rw [hV]
    repeat (first | exact Below.refl _ _ | refine Below.alloc ?_ (by first | omega | (simp <;> omega)) _)
  have zV : V.heap.size = w.heap.size + 2 := by rw [hV]; simp
  have c0 : V.heap[w.heap.size]? = some (.cells #[.slice a l.length c, .int .i64 now] 25 (0, 0)) := by
    rw [hV, Below.heap_alloc _ _ _ (by simp)]; exact heap_alloc_new _ _
  have c1 : V.heap[w.heap.size + 1]? = some (.cells #[.int .i64 st, .slice ra rs.length rc, .slice wa ws.length wc] 30 (0, 0)) := by
    rw [hV]
    have := heap_alloc_new (w.alloc (.cells #[.slice a l.length c, .int .i64 now] 25)) (.cells #[.int .i64 st, .slice ra rs.length rc, .slice wa ws.length wc] 30)
    simpa using this
  have KV : Hid (∀ W, Below V.heap.size V W → W.heap[w.heap.size]? = some (.cells #[.slice a l.length c, .int .i64 now] 25 (0, 0)) ∧ W.heap[w.heap.size + 1]? = some (.cells #[.int .i64 st, .slice ra rs.length rc, .slice wa ws.length wc] 30 (0, 0)) ∧ ChRow 0 W.heap.size W a l ∧ TxRow 0 W.heap.size W ra wa rs ws ∧ Below w.heap.size w W) := fun W h =>
    have hw := bV.trans (h.mono (by omega))
    ⟨(h.block _ (by omega)).trans c0, (h.block _ (by omega)).trans c1, ChRow.up hs hw, TxRow.up hr hw, hw⟩
  have HE : Hid (ChsBd 1048576 l) := hsb
  have HD : Hid (TxBd 1048576 rs ws) := hbd
  have x0 := fun o => row_cell c0 o
  have x1 := fun o => row_cell c1 o
  clear hs hr hbd hsb c0 c1 bV
  go_enter Try.func38, Try.ntmps38
  go_upto_region 1 with fail
  rw [← hV]
  clear hV
  go_wp2_with fail
  clear x0 x1
  go_loopw [5] (fun i w' => ∃ (k : Nat), k ≤ rs.length ∧ i = .int .i64 k ∧ Hid (Below V.heap.size V w') ∧ Hid (∀ i (hi : i < rs.length), i < k → chgB (chAt l rs[i].toNat) st = false)) (fun i _ => rs.length - (intOf i).toNat)
  case atStart => exact ⟨0, by omega, rfl, Below.refl _ _, fun i _ h => by omega⟩
  case round =>
    obtain ⟨wo, rfl⟩ : ∃ x, x = wr := ⟨_, rfl⟩
    obtain ⟨k, hk, rfl, HB, HN⟩ := hrel
    obtain ⟨t0, t1, t2, t3, t4⟩ := KV.out _ HB.out
    have x0 := fun o => row_cell t0 o
    have x1 := fun o => row_cell t1 o
    have Q : Hid _ := t4
    have RW : Hid _ := t3
    clear t0 t1 t2 t3 t4
    by_cases hlt : k < rs.length
    case neg =>
      have HF : Hid (false = confB l st rs ws) := by
        rw [Hid, confB, any_take_no (p := fun k => chgB (chAt l k.toNat) st) (fun i hi => HN.out i hi (by omega))]; rfl
      go_wp2_with fail
      go_ret
      exact ⟨ret_b HF.out, Q.out⟩
    obtain ⟨b, o, ha, _, hbl, d0⟩ := NuRow.cells RW.out.1 k hlt
    obtain ⟨q, hq⟩ : ∃ q : Nat, rs[k] = q := ⟨rs[k].toNat, by have := (readsB_at HK.out hlt).1; omega⟩
    have hq16 : q < l.length := by have := (readsB_at HK.out hlt).1; have := H16.out; omega
    have HCH : Hid (chAt l rs[k].toNat = l[q]) := by rw [Hid, hq, Int.toNat_natCast, chAt_eq hq16]
    have HCQ : Hid _ := hq
    subst ha
    rw [hq] at d0
    have hlt' : (k : Int) < rs.length := by omega
    have D0 : Hid _ := d0
    clear d0 hq
    go_upto_region 4 with fail
    have J0 : Below wo.heap.size wo wo.drew := (Below.refl _ _).drew
    obtain ⟨B, hB⟩ : ∃ B, B = chgB l[q] st := ⟨_, rfl⟩
    have HBB : Hid (B = chgB l[q] st) := hB
    clear hB x0 x1
    refine region_rel6 (n := 9) (by kernel_rfl) (by kernel_rfl) rfl (fun u => ⟨#[.agg #[.slice a l.length c, .int .i64 now], .agg #[.int .i64 st, .slice (some ⟨b, o, none⟩) rs.length rc, .slice wa ws.length wc], .pointer (some ⟨w.heap.size, 0, none⟩), .pointer (some ⟨w.heap.size + 1, 0, none⟩), u4, .int .i64 k, .int .i64 k, .pointer (some ⟨w.heap.size + 1, 1, none⟩), .slice (some ⟨b, o, none⟩) rs.length rc, .int .i64 rs.length, .bool true, u11, u12, u 13, u 14, u 15, u 16, u 17, u 18, u 19, u 20, u 21, u22, u23, u24, u25], []⟩) (fun n => match n with | 13 => u13 | 14 => u14 | 15 => u15 | 16 => u16 | 17 => u17 | 18 => u18 | 19 => u19 | 20 => u20 | 21 => u21 | _ => undef) (fun i => 13 + i) (fun i j _ _ h => by omega)
      (fun i v _ => match i with | 0 => v = .agg #[.slice a l.length c, .int .i64 now] | 1 => v = .pointer (some ⟨w.heap.size + 1, 1, none⟩) | 2 => v = .slice (some ⟨b, o, none⟩) rs.length rc | 3 => v = .int .i64 k | 4 => v = .pointer (some ⟨b, o + k, none⟩) | 5 => v = .int .i64 q | 6 => v = .pointer (some ⟨w.heap.size + 1, 0, none⟩) | 7 => v = .int .i64 st | _ => v = .bool B) (fun _ _ W => Below wo.heap.size wo W) J0 ?step ?last
    case step =>
      intro L u W i hi hLs hLi hj hdep
      have QW : Hid (Below V.heap.size V W) := HB.out.trans (hj.mono HB.out.size)
      obtain ⟨t0, t1, t2, t3, t4⟩ := KV.out _ QW.out
      have e0 := fun o => row_cell t0 o
      have e1 := fun o => row_cell t1 o
      have eb := (hj.cell (p := ⟨b, o + k, none⟩) hbl).trans D0.out
      have RS : Hid _ := t2
      have hzj := hj.size
      clear t0 t1 t2 t3 t4
      have hcase : i = 0 ∨ i = 1 ∨ i = 2 ∨ i = 3 ∨ i = 4 ∨ i = 5 ∨ i = 6 ∨ i = 7 ∨ i = 8 := by omega
      rcases hcase with rfl | rfl | rfl | rfl | rfl | rfl | rfl | rfl | rfl
      · refine wpOp_step rfl (fun K hK => ?_)
        clear hdep
        go_simp
        exact hK _ _ ⟨_, rfl, fun _ _ h => h, rfl, hj⟩
      · refine wpOp_step rfl (fun K hK => ?_)
        clear hdep
        go_simp
        exact hK _ _ ⟨_, rfl, fun _ _ h => h, rfl, hj⟩
      · have d1 : u 14 = .pointer (some ⟨w.heap.size + 1, 1, none⟩) := (hdep _ rfl ⟨1, .data⟩ (by simp) rfl).2
        refine wpOp_step rfl (fun K hK => ?_)
        clear hdep
        go_simp
        exact hK _ _ ⟨_, by simp [upd, d1], fun _ _ h => h, rfl, hj⟩
      · refine wpOp_step rfl (fun K hK => ?_)
        clear hdep
        go_simp
        exact hK _ _ ⟨_, rfl, fun _ _ h => h, rfl, hj⟩
      · have d2 : u 15 = .slice (some ⟨b, o, none⟩) rs.length rc := (hdep _ rfl ⟨2, .data⟩ (by simp) rfl).2
        have d3 : u 16 = .int .i64 k := (hdep _ rfl ⟨3, .data⟩ (by simp) rfl).2
        refine wpOp_step rfl (fun K hK => ?_)
        clear hdep
        go_simp
        exact hK _ _ ⟨_, by simp [upd, d2, d3], fun _ _ h => h, rfl, hj⟩
      · have d4 : u 17 = .pointer (some ⟨b, o + k, none⟩) := (hdep _ rfl ⟨4, .data⟩ (by simp) rfl).2
        refine wpOp_step rfl (fun K hK => ?_)
        clear hdep
        go_simp
        exact hK _ _ ⟨_, by simp [upd, d4], fun _ _ h => h, rfl, hj⟩
      · refine wpOp_step rfl (fun K hK => ?_)
        clear hdep
        go_simp
        exact hK _ _ ⟨_, rfl, fun _ _ h => h, rfl, hj⟩
      · have d6 : u 19 = .pointer (some ⟨w.heap.size + 1, 0, none⟩) := (hdep _ rfl ⟨6, .data⟩ (by simp) rfl).2
        refine wpOp_step rfl (fun K hK => ?_)
        clear hdep
        go_simp
        exact hK _ _ ⟨_, by simp [upd, d6], fun _ _ h => h, rfl, hj⟩
      · have d0 : u 13 = .agg #[.slice a l.length c, .int .i64 now] := (hdep _ rfl ⟨0, .data⟩ (by simp) rfl).2
        have d5 : u 18 = .int .i64 q := (hdep _ rfl ⟨5, .data⟩ (by simp) rfl).2
        have d7 : u 20 = .int .i64 st := (hdep _ rfl ⟨7, .data⟩ (by simp) rfl).2
        refine wpOp_step rfl (fun K hK => ?_)
        clear hdep e0 e1 eb
        go_simp
        refine (spec_changed a c l now st q _ RS.out HE.out hq16).mono ?_
        rintro e w8 ⟨rfl, hb8⟩
        exact hK _ _ ⟨.bool (chgB l[q] st), by simp [upd, d0, d5, d7], fun _ _ h => h, (by show Value.bool (chgB l[q] st) = .bool B; rw [HBB.out]), hj.trans (hb8.mono hzj)⟩
    case last =>
      intro L u W hLs hL hj hp
      have d8 : u 21 = .bool B := hp 8 (by omega)
      have QW : Hid (Below V.heap.size V W) := HB.out.trans (hj.mono HB.out.size)
      obtain ⟨t0, t1, t2, t3, t4⟩ := KV.out _ QW.out
      have e1 := fun o => row_cell t1 o
      have Q4 : Hid _ := t4
      clear t0 t1 t2 t3 t4 hp hj
      rw [d8]
      clear d8
      cases B
      · have HN2 : Hid (∀ i (hi : i < rs.length), i < k + 1 → chgB (chAt l rs[i].toNat) st = false) := fun i hi h2 => by
          by_cases e : i = k
          · subst e; rw [HCH.out, ← HBB.out]
          · exact HN.out i hi (by omega)
        go_wp2_with fail
        exact ⟨⟨k + 1, by omega, by go_num, QW, HN2⟩, by simp [intOf]; omega⟩
      · have HT : Hid (decide ((0 : Int) < ws.length) = confB l st rs ws) := by
          rw [Hid, confB, any_yes (p := fun k => chgB (chAt l k.toNat) st) hlt (by show chgB (chAt l rs[k].toNat) st = true; rw [HCH.out, ← HBB.out])]
          rw [Bool.true_and]
          by_cases h : 0 < ws.length
          · rw [decide_eq_true h, decide_eq_true (by omega)]
          · rw [decide_eq_false h, decide_eq_false (by omega)]
        go_wp2_with fail
        go_ret
        exact ⟨ret_b (by first | exact HT.out | (rw [← HT.out]; simp)), Q4.out⟩
def confR (l : Chs) (now st : Int) (rs : List Int) (ws : List Ve) : Bool := txnB l now st rs ws && confB l st rs ws
def txC (l : Chs) (now st : Int) (rs : List Int) (ws : List Ve) : Int := if txnB l now st rs ws = true then 0 else 1
set_option maxHeartbeats 2000000 in
theorem spec_conflicts (a ra wa : Option Addr) (c rc wc : Nat) (l : Chs) (now st : Int) (rs : List Int) (ws : List Ve) (w : World) (hs : ChRow 0 w.heap.size w a l) (hsb : ChsBd 1048576 l) (hr : TxRow 0 w.heap.size w ra wa rs ws) (hbd : TxBd 1048576 rs ws) (hcap : rs.length ≤ rc) :
    Calls Try.prog 15 #[.agg #[.slice a l.length c, .int .i64 now], .agg #[.int .i64 st, .slice ra rs.length rc, .slice wa ws.length wc]] w fun e w' => e = .returned (.tuple #[.bool (confR l now st rs ws), .int .i64 (txC l now st rs ws)]) ∧ Below w.heap.size w w' := by
  obtain ⟨V, hV⟩ : ∃ V, V = (w.alloc (.cells #[.slice a l.length c, .int .i64 now] 25)).alloc (.cells #[.int .i64 st, .slice ra rs.length rc, .slice wa ws.length wc] 30) := ⟨_, rfl⟩
  have bV : Below w.heap.size w V := by
    rw [hV]
    repeat (first | exact Below.refl _ _ | refine Below.alloc ?_ (by first | omega | (simp <;> omega)) _)
  have zV : V.heap.size = w.heap.size + 2 := by rw [hV]; simp
  have c0 : V.heap[w.heap.size]? = some (.cells #[.slice a l.length c, .int .i64 now] 25 (0, 0)) := by
    rw [hV, Below.heap_alloc _ _ _ (by simp)]; exact heap_alloc_new _ _
  have c1 : V.heap[w.heap.size + 1]? = some (.cells #[.int .i64 st, .slice ra rs.length rc, .slice wa ws.length wc] 30 (0, 0)) := by
    rw [hV]
    have := heap_alloc_new (w.alloc (.cells #[.slice a l.length c, .int .i64 now] 25)) (.cells #[.int .i64 st, .slice ra rs.length rc, .slice wa ws.length wc] 30)
    simpa using this
  have KV : Hid (∀ W, Below V.heap.size V W → W.heap[w.heap.size]? = some (.cells #[.slice a l.length c, .int .i64 now] 25 (0, 0)) ∧ W.heap[w.heap.size + 1]? = some (.cells #[.int .i64 st, .slice ra rs.length rc, .slice wa ws.length wc] 30 (0, 0)) ∧ ChRow 0 W.heap.size W a l ∧ TxRow 0 W.heap.size W ra wa rs ws ∧ Below w.heap.size w W) := fun W h =>
    have hw := bV.trans (h.mono (by omega))
    ⟨(h.block _ (by omega)).trans c0, (h.block _ (by omega)).trans c1, ChRow.up hs hw, TxRow.up hr hw, hw⟩
  have HE : Hid (ChsBd 1048576 l) := hsb
  have HD : Hid (TxBd 1048576 rs ws) := hbd
  have x0 := fun o => row_cell c0 o
  have x1 := fun o => row_cell c1 o
  clear hs hr hbd hsb c0 c1 bV
  go_enter Try.func15, Try.ntmps15
  go_upto_region 1 with fail
  rw [← hV]
  clear hV
  go_wp2_with fail
  refine (spec_txnOK a ra wa c rc wc l now st rs ws _ (KV.out _ (Below.refl _ _)).2.2.1 HE.out (KV.out _ (Below.refl _ _)).2.2.2.1 HD.out hcap).mono ?_
  rintro e w1 ⟨rfl, b1⟩
  have B1 : Hid (Below V.heap.size V w1) := b1
  obtain ⟨t0, t1, t2, t3, t4⟩ := KV.out _ b1
  have e0 := fun o => row_cell t0 o
  have e1 := fun o => row_cell t1 o
  have T2 : Hid _ := t2
  have T3 : Hid _ := t3
  have T4 : Hid _ := t4
  clear t0 t1 t2 t3 t4 b1 x0 x1
  cases hS : txnB l now st rs ws
  · have H1 : Hid (false = confR l now st rs ws) := by rw [Hid, confR, hS]; rfl
    have H2 : Hid (1 = txC l now st rs ws) := by rw [Hid, txC, hS]; rfl
    go_wp2_with fail
    go_ret2
    exact ⟨ret_b2 H1.out H2.out, T4.out⟩
  · have hal := txnB_all hS
    have H16 : Hid (l.length = 16) := (storeB_all hal.1).1
    have HK : Hid (readsB rs = true) := hal.2.2.2
    have H1 : Hid (confB l st rs ws = confR l now st rs ws) := by rw [Hid, confR, hS]; rfl
    have H2 : Hid (0 = txC l now st rs ws) := by rw [Hid, txC, hS]; rfl
    clear hal
    go_wp2_with fail
    refine (spec_conf a ra wa c rc wc l now st rs ws _ T2.out HE.out T3.out HD.out hcap H16.out HK.out).mono ?_
    rintro e w2 ⟨rfl, b2⟩
    have Q2 : Hid _ := (KV.out _ (B1.out.trans (b2.mono B1.out.size))).2.2.2.2
    clear b2 e0 e1
    go_wp2_with fail
    go_ret2
    exact ⟨ret_b2 H1.out H2.out, Q2.out⟩
end Go.Proofs.Ytoahbfledamnnaa.G
namespace Go.Proofs.Ytoahbfledamnnaa.G
open Go.ChangeShapes Go.WideShapes Go.ChangeAt Go.RowKit
set_option linter.unusedVariables false

/-- Beside one block nothing has turned; that block holds one thing before an operation, another behind it. -/
def JT (R : Nat) (U : World) (x : Nat) (X0 X1 : Array Value) (T : TypeId) (L : Array Bool) (W : World) : Prop := KeptS R (R + 1) U W ∧ W.heap[R]? = some (.cells (if L.getD x false = true then X1 else X0) T (0, 0))
theorem JT.set {R : Nat} {U : World} {x : Nat} {X0 X1 : Array Value} {T : TypeId} {L : Array Bool} {W W' : World} (h : JT R U x X0 X1 T L W) {i : Nat} (hi : i ≠ x) (hR : R < U.heap.size) (hb : Below W.heap.size W W') : JT R U x X0 X1 T (L.setIfInBounds i true) W' := by
  refine ⟨h.1.trans (KeptS.of hb), ?_⟩
  rw [getD_set_ne false hi]
  exact (hb.block R (by have := h.1.size; omega)).trans h.2
theorem JT.block {R : Nat} {U : World} {x : Nat} {X0 X1 : Array Value} {T : TypeId} {L : Array Bool} {W : World} (h : JT R U x X0 X1 T L W) {b : Nat} (hb : b < U.heap.size) (hn : b ≠ R) : W.heap[b]? = U.heap[b]? := h.1.block b hb (by omega)
def beginN (l : Chs) (now : Int) : Int := if storeB l now = true then now else 0
theorem rdK_wrote {rs : List Int} {ws : List Ve} {key : Int} (h : wroteB ws key = true) : rdK rs ws key = rs := by
  unfold wroteB at h; unfold rdK; rw [if_pos (.inl h)]
theorem rdK_in {rs : List Int} {ws : List Ve} {key : Int} (h : decide (key ∈ rs) = true) : rdK rs ws key = rs := by
  unfold rdK; rw [if_pos (.inr (of_decide_eq_true h))]
theorem rdK_new {rs : List Int} {ws : List Ve} {key : Int} (h1 : wroteB ws key = false) (h2 : decide (key ∈ rs) = false) : rdK rs ws key = rs ++ [key] := by
  unfold wroteB at h1; unfold rdK
  rw [if_neg]
  rintro (h | h)
  · rw [h1] at h; cases h
  · exact of_decide_eq_false h2 h
theorem rdV_wrote {l : Chs} {st : Int} {ws : List Ve} {key : Int} (h : wroteB ws key = true) : rdV l st ws key = wroteV ws key := by
  unfold wroteB at h; unfold rdV wroteV
  cases hl : lastW key ws
  · rw [hl] at h; cases h
  · rfl
theorem rdV_not {l : Chs} {st : Int} {ws : List Ve} {k : Nat} (h : wroteB ws k = false) (hk : k < l.length) : rdV l st ws k = readV l[k] st := by
  unfold wroteB at h; unfold rdV
  cases hl : lastW (k : Int) ws
  · rw [Option.getD_none, Int.toNat_natCast, chAt_eq hk]
  · rw [hl] at h; cases h
set_option maxHeartbeats 8000000 in
set_option maxRecDepth 40000 in
theorem spec_rd (a ra wa : Option Addr) (c rq wq : Nat) (l : Chs) (now st : Int) (rs : List Int) (ws : List Ve) (k : Nat) (w : World) (hs : ChRow 0 w.heap.size w a l) (hsb : ChsBd 1048576 l) (hr : TxRow 0 w.heap.size w ra wa rs ws) (hbd : TxBd 1048576 rs ws) (hcap : rs.length ≤ rq) (h16 : l.length = 16) (hk : k < 16) :
    Calls Try.prog 56 #[.agg #[.slice a l.length c, .int .i64 now], .agg #[.int .i64 st, .slice ra rs.length rq, .slice wa ws.length wq], .int .i64 k] w fun e w' => (∃ ra' rq', e = .returned (.tuple #[.agg #[.int .i64 st, .slice ra' (rdK rs ws k).length rq', .slice wa ws.length wq], .int .i64 (rdV l st ws k)]) ∧ NuRow 0 w'.heap.size w' ra' (rdK rs ws k)) ∧ Below w.heap.size w w' := by
  have hkl : k < l.length := by omega
  clear h16
  obtain ⟨V, hV⟩ : ∃ V, V = ((w.alloc (.cells #[.slice a l.length c, .int .i64 now] 25)).alloc (.cells #[.int .i64 st, .slice ra rs.length rq, .slice wa ws.length wq] 30)).alloc (.cells #[.int .i64 0, .slice none 0 0, .slice none 0 0] 30) := ⟨_, rfl⟩
  have bV : Below w.heap.size w V := by
    rw [hV]
    repeat (first | exact Below.refl _ _ | refine Below.alloc ?_ (by first | omega | (simp <;> omega)) _)
  have zV : w.heap.size + 3 ≤ V.heap.size := by rw [hV]; simp
  have c0 : V.heap[w.heap.size]? = some (.cells #[.slice a l.length c, .int .i64 now] 25 (0, 0)) := by
    rw [hV, Below.heap_alloc _ _ _ (by simp <;> omega), Below.heap_alloc _ _ _ (by simp <;> omega)]; exact heap_alloc_new _ _
  have c1 : V.heap[w.heap.size + 1]? = some (.cells #[.int .i64 st, .slice ra rs.length rq, .slice wa ws.length wq] 30 (0, 0)) := by
    rw [hV, Below.heap_alloc _ _ _ (by simp <;> omega)]
    have := heap_alloc_new (w.alloc (.cells #[.slice a l.length c, .int .i64 now] 25)) (.cells #[.int .i64 st, .slice ra rs.length rq, .slice wa ws.length wq] 30)
    simpa using this
  have c2 : V.heap[w.heap.size + 1 + 1]? = some (.cells #[.int .i64 0, .slice none 0 0, .slice none 0 0] 30 (0, 0)) := by
    rw [hV]
    have := heap_alloc_new ((w.alloc (.cells #[.slice a l.length c, .int .i64 now] 25)).alloc (.cells #[.int .i64 st, .slice ra rs.length rq, .slice wa ws.length wq] 30)) (.cells #[.int .i64 0, .slice none 0 0, .slice none 0 0] 30)
    simpa using this
  have KV : Hid (∀ W, Below V.heap.size V W → W.heap[w.heap.size]? = some (.cells #[.slice a l.length c, .int .i64 now] 25 (0, 0)) ∧ W.heap[w.heap.size + 1]? = some (.cells #[.int .i64 st, .slice ra rs.length rq, .slice wa ws.length wq] 30 (0, 0)) ∧ W.heap[w.heap.size + 1 + 1]? = some (.cells #[.int .i64 0, .slice none 0 0, .slice none 0 0] 30 (0, 0)) ∧ ChRow 0 W.heap.size W a l ∧ TxRow 0 W.heap.size W ra wa rs ws ∧ Below w.heap.size w W) := fun W h =>
    have hw := bV.trans (h.mono (by omega))
    ⟨(h.block _ (by omega)).trans c0, (h.block _ (by omega)).trans c1, (h.block _ (by omega)).trans c2, ChRow.up hs hw, TxRow.up hr hw, hw⟩
  have HE : Hid (ChsBd 1048576 l) := hsb
  have HD : Hid (TxBd 1048576 rs ws) := hbd
  have HW0 : Hid (TxRow 0 w.heap.size w ra wa rs ws) := hr
  have HS0 : Hid (ChRow 0 w.heap.size w a l) := hs
  have x0 := fun o => row_cell c0 o
  have x1 := fun o => row_cell c1 o
  have x2 := fun o => row_cell c2 o
  have y2 := fun o => row_frozen c2 o
  clear hs hr hbd hsb c0 c1 c2 bV
  go_enter Try.func56, Try.ntmps56
  go_upto_region 1 with fail
  rw [← hV]
  clear hV
  go_wp2_with fail
  refine (spec_wrote wa wq ws k _ (KV.out _ (Below.refl _ _)).2.2.2.2.1.2 HD.out.2).mono ?_
  rintro e w1 ⟨rfl, hw1⟩
  rw [hw1]
  clear hw1 w1
  cases hW : wroteB ws k
  case true =>
    have H1 : Hid (rdK rs ws k = rs) := rdK_wrote hW
    have H2 : Hid (rdV l st ws k = wroteV ws k) := rdV_wrote hW
    have fin : ∀ (W' : World) (z : Int), z = wroteV ws k → Below w.heap.size w W' → (∃ ra' rq', Ending.returned (.tuple #[.agg #[.int .i64 st, .slice ra rs.length rq, .slice wa ws.length wq], .int .i64 z]) = .returned (.tuple #[.agg #[.int .i64 st, .slice ra' (rdK rs ws k).length rq', .slice wa ws.length wq], .int .i64 (rdV l st ws k)]) ∧ NuRow 0 W'.heap.size W' ra' (rdK rs ws k)) ∧ Below w.heap.size w W' := fun W' z hz hb => by
      refine ⟨⟨ra, rq, by rw [H1.out, H2.out, hz], ?_⟩, hb⟩
      rw [H1.out]
      exact NuRow.up HW0.out.1 hb
    have FIN : Hid _ := fin
    clear fin
    obtain ⟨wv, hwv⟩ : ∃ z, z = wroteV ws k := ⟨_, rfl⟩
    rw [← hwv]
    have HWV : Hid _ := hwv
    clear hwv
    go_wp2_with fail
    refine bodyPost_ret (v := .tuple #[.agg #[.int .i64 st, .slice ra rs.length rq, .slice wa ws.length wq], .int .i64 wv]) (by simp [results, Try.results56, go_sem, x2]) rfl (FIN.out _ _ HWV.out ?_)
    repeat (refine Below.setCell ?_ (by first | omega | (simp <;> omega)) _)
    exact (KV.out _ (Below.refl _ _)).2.2.2.2.2
  have HRV : Hid (rdV l st ws k = readV l[k] st) := rdV_not hW hkl
  have HW : Hid (wroteB ws k = false) := hW
  clear hW
  generalize wroteV ws k = wv
  obtain ⟨B, hB⟩ : ∃ B, decide ((k : Int) ∈ rs) = B := ⟨_, rfl⟩
  have HB : Hid (decide ((k : Int) ∈ rs) = B) := hB
  clear hB
  go_upto_if 24 with (first | (go_at_call 66; refine (spec_has ra rq rs k _ (KV.out _ (Below.refl _ _)).2.2.2.2.1.1 HD.out.1 HB.out).mono ?_; rintro e w1 ⟨rfl, hw1⟩; rw [hw1]; clear hw1 w1) | fail)
  go_cut [32] from 25 to 32 (fun _ wx => ∃ ra' rq', Hid (wx.heap[w.heap.size + 1]? = some (.cells #[.int .i64 st, .slice ra' (rdK rs ws k).length rq', .slice wa ws.length wq] 30 (0, 0))) ∧ Hid (∀ g, g < V.heap.size → g ≠ w.heap.size + 1 → wx.heap[g]? = V.heap[g]?) ∧ Hid (NuRow V.heap.size wx.heap.size wx ra' (rdK rs ws k) ∨ (rdK rs ws k = rs ∧ ra' = ra)) ∧ Hid (Below w.heap.size w wx) ∧ V.heap.size ≤ wx.heap.size)
  case first =>
    cases B
    case true =>
      have H1 : Hid (rdK rs ws k = rs) := rdK_in HB.out
      go_wp2_with fail
      go_meet
      exact ⟨ra, rq, by rw [Hid, H1.out]; exact (KV.out _ (Below.refl _ _)).2.1, fun g _ _ => rfl, .inr ⟨H1.out, rfl⟩, (KV.out _ (Below.refl _ _)).2.2.2.2.2, Nat.le_refl _⟩
    case false =>
      have H1 : Hid (rdK rs ws k = rs ++ [(k : Int)]) := rdK_new HW.out HB.out
      obtain ⟨VA, hVA⟩ : ∃ x : World, x = V.alloc (.cells #[] 3) := ⟨_, rfl⟩
      have bA : Below V.heap.size V VA := by rw [hVA]; exact (Below.refl _ _).alloc (Nat.le_refl _) _
      have cA : VA.heap[V.heap.size]? = some (.cells #[] 3 (0, 0)) := by rw [hVA]; exact heap_alloc_new _ _
      obtain ⟨v1, W1, hrun, o1, b1⟩ := app_copy_nu rs ra V.heap.size rq V.heap.size VA (KV.out _ bA).2.2.2.2.1.1 HD.out.1 (Nat.le_refl _) cA
      obtain ⟨a1, k1, e1', _⟩ := NuOwn.of o1
      subst e1'
      have zA := bA.size
      have z1 := b1.size
      have bW1 : Below V.heap.size V W1 := bA.trans (b1.mono zA)
      obtain ⟨VB, hVB⟩ : ∃ x : World, x = W1.alloc (.cells #[.int .i64 k] 3) := ⟨_, rfl⟩
      have bB : Below W1.heap.size W1 VB := by rw [hVB]; exact (Below.refl _ _).alloc (Nat.le_refl _) _
      have cB : VB.heap[W1.heap.size]? = some (.cells #[.int .i64 k] 3 (0, 0)) := by rw [hVB]; exact heap_alloc_new _ _
      have zB := bB.size
      obtain ⟨g2, k2, W2, hrun2, o2, gr2, _, hg2⟩ := app_num rs k (.slice a1 rs.length k1) V.heap.size W1.heap.size VB (own_below o1 bB) cB HD.out.1 (by omega)
      have bVB : Below V.heap.size V VB := bW1.trans (bB.mono (by omega))
      have bW2 : Below V.heap.size V W2 := bVB.grown gr2 (by omega) (fun g e => (own_lt3 (own_below o1 bB) g e).1)
      have HRUN1 : Hid _ := hrun
      have HRUN2 : Hid _ := hrun2
      have O2 : Hid (W2.ownsRow V.heap.size 3 1 (.slice (some ⟨g2, 0, none⟩) (rs.length + 1) k2) (rs ++ [(k : Int)]).length (nuV (rs ++ [(k : Int)]))) := by rw [Hid]; simpa using o2
      have BW2 : Hid (Below V.heap.size V W2) := bW2
      obtain ⟨t0, t1, t2, t3, t4, t5⟩ := KV.out _ bW2
      have e1 := fun o => row_cell t1 o
      have f1 := fun o => row_frozen t1 o
      have D1 : Hid _ := t1
      have T5 : Hid _ := t5
      have p1 := fun ob => (World.cell?_alloc_past (w := V) ob (w.heap.size + 1) 1 (by omega)).trans (x1 1)
      have HVA : Hid (VA = V.alloc (.cells #[] 3)) := hVA
      have HVB : Hid (VB = W1.alloc (.cells #[.int .i64 k] 3)) := hVB
      clear t0 t1 t2 t3 t4 t5 hVA hVB bA cA hrun o1 b1 bW1 bB cB hrun2 o2 gr2 bVB bW2
      go_wp2_with (first | (at_builtin; rw [← HVA.out]; refine wpList_append_run rfl _ _ _ rfl _ _ _ _ rfl rfl HRUN1.out ?_) | (at_builtin; rw [← HVB.out]; refine wpList_append_run rfl _ _ _ rfl _ _ _ _ rfl rfl HRUN2.out ?_) | fail)
      go_meet
      have hz2 := BW2.out.size
      refine ⟨some ⟨g2, 0, none⟩, k2, ?_, ?_, ?_, ?_, ?_⟩
      · have := row_set D1.out 1 (.slice (some ⟨g2, 0, none⟩) (rs.length + 1) k2)
        rw [Hid, H1.out]
        simpa using this
      · intro g hg hne
        rw [heap_set _ _ _ _ _ hne]
        exact BW2.out.block g hg
      · have o3 := own_set O2.out (w' := W2.setCell ⟨w.heap.size + 1, 1, none⟩ (.slice (some ⟨g2, 0, none⟩) (rs.length + 1) k2)) (fun g hg => heap_set _ _ _ _ _ (by have := (own_lt3 O2.out g hg).1; omega))
        obtain ⟨a9, k9, e9, n9⟩ := NuOwn.of o3
        simp only [Value.slice.injEq] at e9
        obtain ⟨h9, _⟩ := e9
        rw [← h9] at n9
        refine .inl ?_
        rw [H1.out]
        exact n9.row
      · exact T5.out.setCell (by first | omega | (simp <;> omega)) _
      · simpa using hz2
  obtain ⟨ra', rq', E1, HKP, HNR, BC, hzc⟩ := hcut
  have V0 := KV.out _ (Below.refl _ _)
  have E0 : Hid _ := (HKP.out w.heap.size (by omega) (by omega)).trans V0.1
  have E2 : Hid _ := (HKP.out (w.heap.size + 1 + 1) (by omega) (by omega)).trans V0.2.2.1
  clear V0 x0 x1 x2 y2
  go_upto_region 6 with fail
  have hRU : w.heap.size + 1 + 1 < wc.heap.size := by omega
  have J0 : JT (w.heap.size + 1 + 1) wc 6 #[.int .i64 0, .slice none 0 0, .slice none 0 0] #[.int .i64 st, .slice ra' (rdK rs ws k).length rq', .slice wa ws.length wq] 30 (Array.replicate 8 false) wc.drew := ⟨(KeptS.refl _ _ wc).trans (KeptS.of (Below.refl _ _).drew), E2.out⟩
  refine region_rel5 (n := 7) (k := 1) (by omega) (by kernel_rfl) (by kernel_rfl) (by kernel_rfl) (fun u => ⟨#[.agg #[.slice a l.length c, .int .i64 now], .agg #[.int .i64 st, .slice ra rs.length rq, .slice wa ws.length wq], .int .i64 k, .pointer (some ⟨w.heap.size, 0, none⟩), .pointer (some ⟨w.heap.size + 1, 0, none⟩), undef, .pointer (some ⟨w.heap.size + 1 + 1, 0, none⟩), .int .i64 0, .int .i64 wv, .bool false, .tuple #[.int .i64 wv, .bool false], .pointer (some ⟨w.heap.size + 1, 2, none⟩), .slice wa ws.length wq, .int .i64 k, .tuple #[.int .i64 wv, .bool false], .int .i64 wv, .bool false, .bool false, undef, undef, .pointer (some ⟨w.heap.size + 1, 1, none⟩), .slice ra rs.length rq, .int .i64 k, .bool B, .bool (!B), u25, u26, u27, u28, u29, u30, u31, u32, u 33, u 34, u 35, u 36, u 37, u 38], []⟩) (fun _ => undef) (fun i => 33 + i) (fun i j _ _ h => by omega)
    (fun i v _ => match i with | 0 => v = .agg #[.int .i64 st, .slice ra' (rdK rs ws k).length rq', .slice wa ws.length wq] | 1 => v = .agg #[.slice a l.length c, .int .i64 now] | 2 => v = .int .i64 k | 3 => v = .pointer (some ⟨w.heap.size + 1, 0, none⟩) | 4 => v = .int .i64 st | 5 => v = .int .i64 (readV l[k] st) | _ => True) (fun L _ W => JT (w.heap.size + 1 + 1) wc 6 #[.int .i64 0, .slice none 0 0, .slice none 0 0] #[.int .i64 st, .slice ra' (rdK rs ws k).length rq', .slice wa ws.length wq] 30 L W) J0 ?step ?last
  case step =>
    intro L u W i hi hLs hLi hj hdep
    have hzj := hj.1.size
    have e0 := fun o => row_cell ((hj.block (b := w.heap.size) (by omega) (by omega)).trans E0.out) o
    have e1 := fun o => row_cell ((hj.block (b := w.heap.size + 1) (by omega) (by omega)).trans E1.out) o
    have bW : Below w.heap.size w W := BC.out.trans (hj.1.below (by omega) (by omega))
    have RS : Hid (ChRow 0 W.heap.size W a l) := ChRow.up HS0.out bW
    clear bW
    have hcase : i = 0 ∨ i = 1 ∨ i = 2 ∨ i = 3 ∨ i = 4 ∨ i = 5 ∨ i = 6 := by omega
    rcases hcase with rfl | rfl | rfl | rfl | rfl | rfl | rfl
    · refine wpOp_step rfl (fun K hK => ?_)
      clear hdep
      go_simp
      exact hK _ _ ⟨_, rfl, fun _ _ h => h, rfl, hj.set (by omega) hRU (Below.refl _ _)⟩
    · refine wpOp_step rfl (fun K hK => ?_)
      clear hdep
      go_simp
      exact hK _ _ ⟨_, rfl, fun _ _ h => h, rfl, hj.set (by omega) hRU (Below.refl _ _)⟩
    · refine wpOp_step rfl (fun K hK => ?_)
      clear hdep
      go_simp
      exact hK _ _ ⟨_, rfl, fun _ _ h => h, rfl, hj.set (by omega) hRU (Below.refl _ _)⟩
    · refine wpOp_step rfl (fun K hK => ?_)
      clear hdep
      go_simp
      exact hK _ _ ⟨_, rfl, fun _ _ h => h, rfl, hj.set (by omega) hRU (Below.refl _ _)⟩
    · have d3 : u 36 = .pointer (some ⟨w.heap.size + 1, 0, none⟩) := (hdep _ rfl ⟨3, .data⟩ (by simp) rfl).2
      refine wpOp_step rfl (fun K hK => ?_)
      clear hdep
      go_simp
      exact hK _ _ ⟨_, by simp [upd, d3], fun _ _ h => h, rfl, hj.set (by omega) hRU (Below.refl _ _)⟩
    · have d1 : u 34 = .agg #[.slice a l.length c, .int .i64 now] := (hdep _ rfl ⟨1, .data⟩ (by simp) rfl).2
      have d2 : u 35 = .int .i64 k := (hdep _ rfl ⟨2, .data⟩ (by simp) rfl).2
      have d4 : u 37 = .int .i64 st := (hdep _ rfl ⟨4, .data⟩ (by simp) rfl).2
      refine wpOp_step rfl (fun K hK => ?_)
      clear hdep e0 e1
      go_simp
      refine (spec_read a c l now st k _ RS.out HE.out hkl).mono ?_
      rintro e w8 ⟨rfl, hb8⟩
      exact hK _ _ ⟨.int .i64 (readV l[k] st), by simp [upd, d1, d2, d4], fun _ _ h => h, rfl, hj.set (by omega) hRU hb8⟩
    · have d0 : u 33 = .agg #[.int .i64 st, .slice ra' (rdK rs ws k).length rq', .slice wa ws.length wq] := (hdep _ rfl ⟨0, .data⟩ (by simp) rfl).2
      have hl6 : L.getD 6 false = false := by
        cases h6 : L.getD 6 false
        · rfl
        · rw [getD_both (by omega) h6] at hLi; cases hLi
      have hh := hj.2
      rw [hl6, if_neg (by simp)] at hh
      have q2 := fun o => row_cell hh o
      have f2 := fun o => row_frozen hh o
      have HH : Hid _ := hh
      have HJ : Hid _ := hj
      clear hj hh e0 e1
      refine wpOp_step rfl (fun K hK => ?_)
      clear hdep
      go_simp
      refine hK _ _ ⟨undef, by simp [upd, d0], fun _ _ h => h, trivial, ?_⟩
      refine ⟨((HJ.out.1.set (p := ⟨w.heap.size + 1 + 1, 0, none⟩) (Nat.le_refl _) (Nat.lt_succ_self _) _).set (p := ⟨w.heap.size + 1 + 1, 1, none⟩) (Nat.le_refl _) (Nat.lt_succ_self _) _).set (p := ⟨w.heap.size + 1 + 1, 2, none⟩) (Nat.le_refl _) (Nat.lt_succ_self _) _, ?_⟩
      rw [show (L.setIfInBounds 6 true).getD 6 false = true by simp [hLs], if_pos rfl]
      exact row_set (row_set (row_set HH.out 0 _) 1 _) 2 _
  case last =>
    intro L u W hLs hL hj hp
    have d5 : u 38 = .int .i64 (readV l[k] st) := hp 5 (by omega)
    have hzj := hj.1.size
    have t2 := hj.2
    rw [hL 6 (by omega), if_pos rfl] at t2
    have e2 := fun o => row_cell t2 o
    have bW : Below w.heap.size w W := BC.out.trans (hj.1.below (by omega) (by omega))
    have fin : (∃ ra1 rq1, Ending.returned (.tuple #[.agg #[.int .i64 st, .slice ra' (rdK rs ws k).length rq', .slice wa ws.length wq], .int .i64 (readV l[k] st)]) = .returned (.tuple #[.agg #[.int .i64 st, .slice ra1 (rdK rs ws k).length rq1, .slice wa ws.length wq], .int .i64 (rdV l st ws k)]) ∧ NuRow 0 W.heap.size W ra1 (rdK rs ws k)) ∧ Below w.heap.size w W := by
      refine ⟨⟨ra', rq', by rw [HRV.out], ?_⟩, bW⟩
      rcases HNR.out with h | ⟨h1, h2⟩
      · exact NuRow.wide (NuRow.keep h (fun g g1 g2 => hj.block g2 (by omega))) (Nat.zero_le _) (by omega)
      · rw [h1, h2]
        exact NuRow.up HW0.out.1 bW
    have FIN : Hid _ := fin
    clear fin hp hj t2 bW
    unfold wpTail
    refine wpOp_step rfl (fun K hK => ?_)
    go_simp
    refine hK _ _ ?_
    clear hK
    unfold wpTail
    go_wp2_with fail
    exact bodyPost_ret (v := .tuple #[.agg #[.int .i64 st, .slice ra' (rdK rs ws k).length rq', .slice wa ws.length wq], .int .i64 (readV l[k] st)]) (by simp [results, Try.results56, go_sem, e2]) rfl FIN.out
end Go.Proofs.Ytoahbfledamnnaa.G
