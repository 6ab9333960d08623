/- A chain copied, one version more put behind it, in whatever order: what stays. -/
import Derived.Test.YtoahbfledamnnaaStTxRead
import Derived.Deep.CutBlock
import Derived.Deep.CutRange
import Derived.Test.YtoahbfledamnnaaStTxOwn
namespace Go.Proofs.Ytoahbfledamnnaa.G
open Go.ChangeShapes Go.WideShapes Go.ChangeAt Go.RowKit
set_option linter.unusedVariables false

set_option maxHeartbeats 8000000 in
set_option maxRecDepth 40000 in
theorem spec_rd2 (a ra wa : Option Addr) (c rq wq : Nat) (l : Chs) (now st : Int) (rs : List Int) (ws : List Ve) (k : Nat) (w : World) (hs : ChRow 0 w.heap.size w a l) (hsb : ChsBd 1048576 l) (hr : TxRow 0 w.heap.size w ra wa rs ws) (hbd : TxBd 1048576 rs ws) (hcap : rs.length ≤ rq) (h16 : l.length = 16) (hk : k < 16) :
    Calls Try.prog 56 #[.agg #[.slice a l.length c, .int .i64 now], .agg #[.int .i64 st, .slice ra rs.length rq, .slice wa ws.length wq], .int .i64 k] w fun e w' => (∃ ra' rq', e = .returned (.tuple #[.agg #[.int .i64 st, .slice ra' (rdK rs ws k).length rq', .slice wa ws.length wq], .int .i64 (rdV l st ws k)]) ∧ (NuOwn w.heap.size w'.heap.size w' ra' (rdK rs ws k) ∨ (rdK rs ws k = rs ∧ ra' = ra)) ∧ (rdK rs ws k).length ≤ rq') ∧ Below w.heap.size w w' := by
  have hkl : k < l.length := by omega
  clear h16
  obtain ⟨V, hV⟩ : ∃ V, V = ((w.alloc (.cells #[.slice a l.length c, .int .i64 now] 25)).alloc (.cells #[.int .i64 st, .slice ra rs.length rq, .slice wa ws.length wq] 30)).alloc (.cells #[.int .i64 0, .slice none 0 0, .slice none 0 0] 30) := ⟨_, rfl⟩
  have bV : Below w.heap.size w V := by
    rw [hV]
    repeat (first | exact Below.refl _ _ | refine Below.alloc ?_ (by first | omega | (simp <;> omega)) _)
  have zV : w.heap.size + 3 ≤ V.heap.size := by rw [hV]; simp
  have c0 : V.heap[w.heap.size]? = some (.cells #[.slice a l.length c, .int .i64 now] 25 (0, 0)) := by
    rw [hV, Below.heap_alloc _ _ _ (by simp <;> omega), Below.heap_alloc _ _ _ (by simp <;> omega)]; exact heap_alloc_new _ _
  have c1 : V.heap[w.heap.size + 1]? = some (.cells #[.int .i64 st, .slice ra rs.length rq, .slice wa ws.length wq] 30 (0, 0)) := by
    rw [hV, Below.heap_alloc _ _ _ (by simp <;> omega)]
    have := heap_alloc_new (w.alloc (.cells #[.slice a l.length c, .int .i64 now] 25)) (.cells #[.int .i64 st, .slice ra rs.length rq, .slice wa ws.length wq] 30)
    simpa using this
  have c2 : V.heap[w.heap.size + 1 + 1]? = some (.cells #[.int .i64 0, .slice none 0 0, .slice none 0 0] 30 (0, 0)) := by
    rw [hV]
    have := heap_alloc_new ((w.alloc (.cells #[.slice a l.length c, .int .i64 now] 25)).alloc (.cells #[.int .i64 st, .slice ra rs.length rq, .slice wa ws.length wq] 30)) (.cells #[.int .i64 0, .slice none 0 0, .slice none 0 0] 30)
    simpa using this
  have KV : Hid (∀ W, Below V.heap.size V W → W.heap[w.heap.size]? = some (.cells #[.slice a l.length c, .int .i64 now] 25 (0, 0)) ∧ W.heap[w.heap.size + 1]? = some (.cells #[.int .i64 st, .slice ra rs.length rq, .slice wa ws.length wq] 30 (0, 0)) ∧ W.heap[w.heap.size + 1 + 1]? = some (.cells #[.int .i64 0, .slice none 0 0, .slice none 0 0] 30 (0, 0)) ∧ ChRow 0 W.heap.size W a l ∧ TxRow 0 W.heap.size W ra wa rs ws ∧ Below w.heap.size w W) := fun W h =>
    have hw := bV.trans (h.mono (by omega))
    ⟨(h.block _ (by omega)).trans c0, (h.block _ (by omega)).trans c1, (h.block _ (by omega)).trans c2, ChRow.up hs hw, TxRow.up hr hw, hw⟩
  have HE : Hid (ChsBd 1048576 l) := hsb
  have HD : Hid (TxBd 1048576 rs ws) := hbd
  have HW0 : Hid (TxRow 0 w.heap.size w ra wa rs ws) := hr
  have HS0 : Hid (ChRow 0 w.heap.size w a l) := hs
  have x0 := fun o => row_cell c0 o
  have x1 := fun o => row_cell c1 o
  have x2 := fun o => row_cell c2 o
  have y2 := fun o => row_frozen c2 o
  clear hs hr hbd hsb c0 c1 c2 bV
  go_enter Try.func56, Try.ntmps56
  go_upto_region 1 with fail
  rw [← hV]
  clear hV
  go_wp2_with fail
  refine (spec_wrote wa wq ws k _ (KV.out _ (Below.refl _ _)).2.2.2.2.1.2 HD.out.2).mono ?_
  rintro e w1 ⟨rfl, hw1⟩
  rw [hw1]
  clear hw1 w1
  cases hW : wroteB ws k
  case true =>
    have H1 : Hid (rdK rs ws k = rs) := rdK_wrote hW
    have H2 : Hid (rdV l st ws k = wroteV ws k) := rdV_wrote hW
    have fin : ∀ (W' : World) (z : Int), z = wroteV ws k → Below w.heap.size w W' → (∃ ra' rq', Ending.returned (.tuple #[.agg #[.int .i64 st, .slice ra rs.length rq, .slice wa ws.length wq], .int .i64 z]) = .returned (.tuple #[.agg #[.int .i64 st, .slice ra' (rdK rs ws k).length rq', .slice wa ws.length wq], .int .i64 (rdV l st ws k)]) ∧ (NuOwn w.heap.size W'.heap.size W' ra' (rdK rs ws k) ∨ (rdK rs ws k = rs ∧ ra' = ra)) ∧ (rdK rs ws k).length ≤ rq') ∧ Below w.heap.size w W' := fun W' z hz hb =>
      ⟨⟨ra, rq, by rw [H1.out, H2.out, hz], .inr ⟨H1.out, rfl⟩, by rw [H1.out]; exact hcap⟩, hb⟩
    have FIN : Hid _ := fin
    clear fin
    obtain ⟨wv, hwv⟩ : ∃ z, z = wroteV ws k := ⟨_, rfl⟩
    rw [← hwv]
    have HWV : Hid _ := hwv
    clear hwv
    go_wp2_with fail
    refine bodyPost_ret (v := .tuple #[.agg #[.int .i64 st, .slice ra rs.length rq, .slice wa ws.length wq], .int .i64 wv]) (by simp [results, Try.results56, go_sem, x2]) rfl (FIN.out _ _ HWV.out ?_)
    repeat (refine Below.setCell ?_ (by first | omega | (simp <;> omega)) _)
    exact (KV.out _ (Below.refl _ _)).2.2.2.2.2
  have HRV : Hid (rdV l st ws k = readV l[k] st) := rdV_not hW hkl
  have HW : Hid (wroteB ws k = false) := hW
  clear hW
  generalize wroteV ws k = wv
  obtain ⟨B, hB⟩ : ∃ B, decide ((k : Int) ∈ rs) = B := ⟨_, rfl⟩
  have HB : Hid (decide ((k : Int) ∈ rs) = B) := hB
  clear hB
  go_upto_if 24 with (first | (go_at_call 66; refine (spec_has ra rq rs k _ (KV.out _ (Below.refl _ _)).2.2.2.2.1.1 HD.out.1 HB.out).mono ?_; rintro e w1 ⟨rfl, hw1⟩; rw [hw1]; clear hw1 w1) | fail)
  go_cut [32] from 25 to 32 (fun _ wx => ∃ ra' rq', Hid (wx.heap[w.heap.size + 1]? = some (.cells #[.int .i64 st, .slice ra' (rdK rs ws k).length rq', .slice wa ws.length wq] 30 (0, 0))) ∧ Hid (∀ g, g < V.heap.size → g ≠ w.heap.size + 1 → wx.heap[g]? = V.heap[g]?) ∧ Hid (NuOwn V.heap.size wx.heap.size wx ra' (rdK rs ws k) ∨ (rdK rs ws k = rs ∧ ra' = ra)) ∧ Hid (Below w.heap.size w wx) ∧ V.heap.size ≤ wx.heap.size ∧ Hid ((rdK rs ws k).length ≤ rq'))
  case first =>
    cases B
    case true =>
      have H1 : Hid (rdK rs ws k = rs) := rdK_in HB.out
      go_wp2_with fail
      go_meet
      exact ⟨ra, rq, by rw [Hid, H1.out]; exact (KV.out _ (Below.refl _ _)).2.1, fun g _ _ => rfl, .inr ⟨H1.out, rfl⟩, (KV.out _ (Below.refl _ _)).2.2.2.2.2, Nat.le_refl _, by rw [Hid, H1.out]; exact hcap⟩
    case false =>
      have H1 : Hid (rdK rs ws k = rs ++ [(k : Int)]) := rdK_new HW.out HB.out
      obtain ⟨VA, hVA⟩ : ∃ x : World, x = V.alloc (.cells #[] 3) := ⟨_, rfl⟩
      have bA : Below V.heap.size V VA := by rw [hVA]; exact (Below.refl _ _).alloc (Nat.le_refl _) _
      have cA : VA.heap[V.heap.size]? = some (.cells #[] 3 (0, 0)) := by rw [hVA]; exact heap_alloc_new _ _
      obtain ⟨v1, W1, hrun, o1, b1⟩ := app_copy_nu rs ra V.heap.size rq V.heap.size VA (KV.out _ bA).2.2.2.2.1.1 HD.out.1 (Nat.le_refl _) cA
      obtain ⟨a1, k1, e1', _⟩ := NuOwn.of o1
      subst e1'
      have zA := bA.size
      have z1 := b1.size
      have bW1 : Below V.heap.size V W1 := bA.trans (b1.mono zA)
      obtain ⟨VB, hVB⟩ : ∃ x : World, x = W1.alloc (.cells #[.int .i64 k] 3) := ⟨_, rfl⟩
      have bB : Below W1.heap.size W1 VB := by rw [hVB]; exact (Below.refl _ _).alloc (Nat.le_refl _) _
      have cB : VB.heap[W1.heap.size]? = some (.cells #[.int .i64 k] 3 (0, 0)) := by rw [hVB]; exact heap_alloc_new _ _
      have zB := bB.size
      obtain ⟨g2, k2, W2, hrun2, o2, gr2, _, hg2⟩ := app_num rs k (.slice a1 rs.length k1) V.heap.size W1.heap.size VB (own_below o1 bB) cB HD.out.1 (by omega)
      have bVB : Below V.heap.size V VB := bW1.trans (bB.mono (by omega))
      have bW2 : Below V.heap.size V W2 := bVB.grown gr2 (by omega) (fun g e => (own_lt3 (own_below o1 bB) g e).1)
      have HRUN1 : Hid _ := hrun
      have HRUN2 : Hid _ := hrun2
      have O2 : Hid (W2.ownsRow V.heap.size 3 1 (.slice (some ⟨g2, 0, none⟩) (rs.length + 1) k2) (rs ++ [(k : Int)]).length (nuV (rs ++ [(k : Int)]))) := by rw [Hid]; simpa using o2
      have BW2 : Hid (Below V.heap.size V W2) := bW2
      obtain ⟨t0, t1, t2, t3, t4, t5⟩ := KV.out _ bW2
      have e1 := fun o => row_cell t1 o
      have f1 := fun o => row_frozen t1 o
      have D1 : Hid _ := t1
      have T5 : Hid _ := t5
      have p1 := fun ob => (World.cell?_alloc_past (w := V) ob (w.heap.size + 1) 1 (by omega)).trans (x1 1)
      have HVA : Hid (VA = V.alloc (.cells #[] 3)) := hVA
      have HVB : Hid (VB = W1.alloc (.cells #[.int .i64 k] 3)) := hVB
      clear t0 t1 t2 t3 t4 t5 hVA hVB bA cA hrun o1 b1 bW1 bB cB hrun2 o2 gr2 bVB bW2
      go_wp2_with (first | (at_builtin; rw [← HVA.out]; refine wpList_append_run rfl _ _ _ rfl _ _ _ _ rfl rfl HRUN1.out ?_) | (at_builtin; rw [← HVB.out]; refine wpList_append_run rfl _ _ _ rfl _ _ _ _ rfl rfl HRUN2.out ?_) | fail)
      go_meet
      have hz2 := BW2.out.size
      refine ⟨some ⟨g2, 0, none⟩, k2, ?_, ?_, ?_, ?_, ?_, ?_⟩
      · have := row_set D1.out 1 (.slice (some ⟨g2, 0, none⟩) (rs.length + 1) k2)
        rw [Hid, H1.out]
        simpa using this
      · intro g hg hne
        rw [heap_set _ _ _ _ _ hne]
        exact BW2.out.block g hg
      · have o3 := own_set O2.out (w' := W2.setCell ⟨w.heap.size + 1, 1, none⟩ (.slice (some ⟨g2, 0, none⟩) (rs.length + 1) k2)) (fun g hg => heap_set _ _ _ _ _ (by have := (own_lt3 O2.out g hg).1; omega))
        obtain ⟨a9, k9, e9, n9⟩ := NuOwn.of o3
        simp only [Value.slice.injEq] at e9
        obtain ⟨h9, _⟩ := e9
        rw [← h9] at n9
        refine .inl ?_
        rw [H1.out]
        exact n9
      · exact T5.out.setCell (by first | omega | (simp <;> omega)) _
      · simpa using hz2
      · rw [Hid, H1.out]
        rcases O2.out.2 with ⟨e1, _⟩ | ⟨ga, ca, cua, ea, _, _, hc, _⟩
        · cases e1
        · simp only [Value.slice.injEq] at ea
          obtain ⟨_, _, rfl⟩ := ea
          exact hc
  obtain ⟨ra', rq', E1, HKP, HNR, BC, hzc, HCP⟩ := hcut
  have V0 := KV.out _ (Below.refl _ _)
  have E0 : Hid _ := (HKP.out w.heap.size (by omega) (by omega)).trans V0.1
  have E2 : Hid _ := (HKP.out (w.heap.size + 1 + 1) (by omega) (by omega)).trans V0.2.2.1
  clear V0 x0 x1 x2 y2
  go_upto_region 6 with fail
  have hRU : w.heap.size + 1 + 1 < wc.heap.size := by omega
  have J0 : JT (w.heap.size + 1 + 1) wc 6 #[.int .i64 0, .slice none 0 0, .slice none 0 0] #[.int .i64 st, .slice ra' (rdK rs ws k).length rq', .slice wa ws.length wq] 30 (Array.replicate 8 false) wc.drew := ⟨(KeptS.refl _ _ wc).trans (KeptS.of (Below.refl _ _).drew), E2.out⟩
  refine region_rel5 (n := 7) (k := 1) (by omega) (by kernel_rfl) (by kernel_rfl) (by kernel_rfl) (fun u => ⟨#[.agg #[.slice a l.length c, .int .i64 now], .agg #[.int .i64 st, .slice ra rs.length rq, .slice wa ws.length wq], .int .i64 k, .pointer (some ⟨w.heap.size, 0, none⟩), .pointer (some ⟨w.heap.size + 1, 0, none⟩), undef, .pointer (some ⟨w.heap.size + 1 + 1, 0, none⟩), .int .i64 0, .int .i64 wv, .bool false, .tuple #[.int .i64 wv, .bool false], .pointer (some ⟨w.heap.size + 1, 2, none⟩), .slice wa ws.length wq, .int .i64 k, .tuple #[.int .i64 wv, .bool false], .int .i64 wv, .bool false, .bool false, undef, undef, .pointer (some ⟨w.heap.size + 1, 1, none⟩), .slice ra rs.length rq, .int .i64 k, .bool B, .bool (!B), u25, u26, u27, u28, u29, u30, u31, u32, u 33, u 34, u 35, u 36, u 37, u 38], []⟩) (fun _ => undef) (fun i => 33 + i) (fun i j _ _ h => by omega)
    (fun i v _ => match i with | 0 => v = .agg #[.int .i64 st, .slice ra' (rdK rs ws k).length rq', .slice wa ws.length wq] | 1 => v = .agg #[.slice a l.length c, .int .i64 now] | 2 => v = .int .i64 k | 3 => v = .pointer (some ⟨w.heap.size + 1, 0, none⟩) | 4 => v = .int .i64 st | 5 => v = .int .i64 (readV l[k] st) | _ => True) (fun L _ W => JT (w.heap.size + 1 + 1) wc 6 #[.int .i64 0, .slice none 0 0, .slice none 0 0] #[.int .i64 st, .slice ra' (rdK rs ws k).length rq', .slice wa ws.length wq] 30 L W) J0 ?step ?last
  case step =>
    intro L u W i hi hLs hLi hj hdep
    have hzj := hj.1.size
    have e0 := fun o => row_cell ((hj.block (b := w.heap.size) (by omega) (by omega)).trans E0.out) o
    have e1 := fun o => row_cell ((hj.block (b := w.heap.size + 1) (by omega) (by omega)).trans E1.out) o
    have bW : Below w.heap.size w W := BC.out.trans (hj.1.below (by omega) (by omega))
    have RS : Hid (ChRow 0 W.heap.size W a l) := ChRow.up HS0.out bW
    clear bW
    have hcase : i = 0 ∨ i = 1 ∨ i = 2 ∨ i = 3 ∨ i = 4 ∨ i = 5 ∨ i = 6 := by omega
    rcases hcase with rfl | rfl | rfl | rfl | rfl | rfl | rfl
    · refine wpOp_step rfl (fun K hK => ?_)
      clear hdep
      go_simp
      exact hK _ _ ⟨_, rfl, fun _ _ h => h, rfl, hj.set (by omega) hRU (Below.refl _ _)⟩
    · refine wpOp_step rfl (fun K hK => ?_)
      clear hdep
      go_simp
      exact hK _ _ ⟨_, rfl, fun _ _ h => h, rfl, hj.set (by omega) hRU (Below.refl _ _)⟩
    · refine wpOp_step rfl (fun K hK => ?_)
      clear hdep
      go_simp
      exact hK _ _ ⟨_, rfl, fun _ _ h => h, rfl, hj.set (by omega) hRU (Below.refl _ _)⟩
    · refine wpOp_step rfl (fun K hK => ?_)
      clear hdep
      go_simp
      exact hK _ _ ⟨_, rfl, fun _ _ h => h, rfl, hj.set (by omega) hRU (Below.refl _ _)⟩
    · have d3 : u 36 = .pointer (some ⟨w.heap.size + 1, 0, none⟩) := (hdep _ rfl ⟨3, .data⟩ (by simp) rfl).2
      refine wpOp_step rfl (fun K hK => ?_)
      clear hdep
      go_simp
      exact hK _ _ ⟨_, by simp [upd, d3], fun _ _ h => h, rfl, hj.set (by omega) hRU (Below.refl _ _)⟩
    · have d1 : u 34 = .agg #[.slice a l.length c, .int .i64 now] := (hdep _ rfl ⟨1, .data⟩ (by simp) rfl).2
      have d2 : u 35 = .int .i64 k := (hdep _ rfl ⟨2, .data⟩ (by simp) rfl).2
      have d4 : u 37 = .int .i64 st := (hdep _ rfl ⟨4, .data⟩ (by simp) rfl).2
      refine wpOp_step rfl (fun K hK => ?_)
      clear hdep e0 e1
      go_simp
      refine (spec_read a c l now st k _ RS.out HE.out hkl).mono ?_
      rintro e w8 ⟨rfl, hb8⟩
      exact hK _ _ ⟨.int .i64 (readV l[k] st), by simp [upd, d1, d2, d4], fun _ _ h => h, rfl, hj.set (by omega) hRU hb8⟩
    · have d0 : u 33 = .agg #[.int .i64 st, .slice ra' (rdK rs ws k).length rq', .slice wa ws.length wq] := (hdep _ rfl ⟨0, .data⟩ (by simp) rfl).2
      have hl6 : L.getD 6 false = false := by
        cases h6 : L.getD 6 false
        · rfl
        · rw [getD_both (by omega) h6] at hLi; cases hLi
      have hh := hj.2
      rw [hl6, if_neg (by simp)] at hh
      have q2 := fun o => row_cell hh o
      have f2 := fun o => row_frozen hh o
      have HH : Hid _ := hh
      have HJ : Hid _ := hj
      clear hj hh e0 e1
      refine wpOp_step rfl (fun K hK => ?_)
      clear hdep
      go_simp
      refine hK _ _ ⟨undef, by simp [upd, d0], fun _ _ h => h, trivial, ?_⟩
      refine ⟨((HJ.out.1.set (p := ⟨w.heap.size + 1 + 1, 0, none⟩) (Nat.le_refl _) (Nat.lt_succ_self _) _).set (p := ⟨w.heap.size + 1 + 1, 1, none⟩) (Nat.le_refl _) (Nat.lt_succ_self _) _).set (p := ⟨w.heap.size + 1 + 1, 2, none⟩) (Nat.le_refl _) (Nat.lt_succ_self _) _, ?_⟩
      rw [show (L.setIfInBounds 6 true).getD 6 false = true by simp [hLs], if_pos rfl]
      exact row_set (row_set (row_set HH.out 0 _) 1 _) 2 _
  case last =>
    intro L u W hLs hL hj hp
    have d5 : u 38 = .int .i64 (readV l[k] st) := hp 5 (by omega)
    have hzj := hj.1.size
    have t2 := hj.2
    rw [hL 6 (by omega), if_pos rfl] at t2
    have e2 := fun o => row_cell t2 o
    have bW : Below w.heap.size w W := BC.out.trans (hj.1.below (by omega) (by omega))
    have fin : (∃ ra1 rq1, Ending.returned (.tuple #[.agg #[.int .i64 st, .slice ra' (rdK rs ws k).length rq', .slice wa ws.length wq], .int .i64 (readV l[k] st)]) = .returned (.tuple #[.agg #[.int .i64 st, .slice ra1 (rdK rs ws k).length rq1, .slice wa ws.length wq], .int .i64 (rdV l st ws k)]) ∧ (NuOwn w.heap.size W.heap.size W ra1 (rdK rs ws k) ∨ (rdK rs ws k = rs ∧ ra1 = ra)) ∧ (rdK rs ws k).length ≤ rq1) ∧ Below w.heap.size w W := by
      refine ⟨⟨ra', rq', by rw [HRV.out], ?_, HCP.out⟩, bW⟩
      rcases HNR.out with h | h
      · exact .inl (NuOwn.wide (NuOwn.keep h (fun g g1 g2 => hj.block g2 (by omega))) (by omega) (by omega))
      · exact .inr h
    have FIN : Hid _ := fin
    clear fin hp hj t2 bW
    unfold wpTail
    refine wpOp_step rfl (fun K hK => ?_)
    go_simp
    refine hK _ _ ?_
    clear hK
    unfold wpTail
    go_wp2_with fail
    exact bodyPost_ret (v := .tuple #[.agg #[.int .i64 st, .slice ra' (rdK rs ws k).length rq', .slice wa ws.length wq], .int .i64 (readV l[k] st)]) (by simp [results, Try.results56, go_sem, e2]) rfl FIN.out
end Go.Proofs.Ytoahbfledamnnaa.G
namespace Go.Proofs.Ytoahbfledamnnaa.G
open Go.ChangeShapes Go.WideShapes Go.ChangeAt Go.RowKit
set_option linter.unusedVariables false

/-- Where the region stands: 7 makes the empty chain, 9 copies, 18 makes the version's row, 19 appends. -/
structure WrJ (N0 : Nat) (W0 : World) (x : List Ve) (p : Ve) (L : Array Bool) (u : Nat → Value) (W : World) : Prop where
  below : Below N0 W0 W
  none_ : L.getD 7 false = true → L.getD 9 false = false → ∃ g, u 59 = .slice (some ⟨g, 0, none⟩) 0 0 ∧ N0 ≤ g ∧ W.heap[g]? = some (.cells #[] 61 (0, 0))
  copy : L.getD 9 false = true → L.getD 19 false = false → W.ownsRow N0 61 2 (u 61) x.length (veCells x)
  one : L.getD 18 false = true → L.getD 19 false = false → ∃ h, u 70 = .slice (some ⟨h, 0, none⟩) 1 1 ∧ W.heap[h]? = some (.cells #[.int .i64 p.ts, .int .i64 p.v] 61 (0, 0))
  all : L.getD 19 false = true → KidX none N0 W (u 71) (x ++ [p])
theorem WrJ.start {N0 : Nat} {W0 : World} {x : List Ve} {p : Ve} {n : Nat} {u : Nat → Value} (h : N0 = W0.heap.size) : WrJ N0 W0 x p (Array.replicate n false) u W0.drew := by
  have no : ∀ j, (Array.replicate n false).getD j false = true → False := fun j hj => by
    by_cases hx : j < n
    · simp [hx] at hj
    · simp [hx] at hj
  exact ⟨(Below.refl _ _).drew, fun h => (no _ h).elim, fun h => (no _ h).elim, fun h => (no _ h).elim, fun h => (no _ h).elim⟩
theorem WrJ.step {N0 : Nat} {W0 : World} {x : List Ve} {p : Ve} {L : Array Bool} {u : Nat → Value} {W W' : World} (h : WrJ N0 W0 x p L u W) (hN : N0 ≤ W.heap.size) (hb : Below W.heap.size W W') {i d : Nat} {val : Value} (hi : i ≠ 7 ∧ i ≠ 9 ∧ i ≠ 18 ∧ i ≠ 19) (hd : d ≠ 59 ∧ d ≠ 61 ∧ d ≠ 70 ∧ d ≠ 71) :
    WrJ N0 W0 x p (L.setIfInBounds i true) (upd u d val) W' := by
  obtain ⟨i1, i2, i3, i4⟩ := hi
  obtain ⟨d1, d2, d3, d4⟩ := hd
  refine ⟨h.below.trans (hb.mono hN), fun h1 h2 => ?_, fun h1 h2 => ?_, fun h1 h2 => ?_, fun h1 => ?_⟩
  · rw [getD_set_ne false i1] at h1; rw [getD_set_ne false i2] at h2
    obtain ⟨g, g1, g2, g3⟩ := h.none_ h1 h2
    rw [upd_ne _ _ (Ne.symm d1)]
    exact ⟨g, g1, g2, (hb.block g (Array.getElem?_eq_some_iff.1 g3).1).trans g3⟩
  · rw [getD_set_ne false i2] at h1; rw [getD_set_ne false i4] at h2
    rw [upd_ne _ _ (Ne.symm d2)]
    exact own_below (h.copy h1 h2) hb
  · rw [getD_set_ne false i3] at h1; rw [getD_set_ne false i4] at h2
    obtain ⟨g, g1, g3⟩ := h.one h1 h2
    rw [upd_ne _ _ (Ne.symm d3)]
    exact ⟨g, g1, (hb.block g (Array.getElem?_eq_some_iff.1 g3).1).trans g3⟩
  · rw [getD_set_ne false i4] at h1
    rw [upd_ne _ _ (Ne.symm d4)]
    exact (h.all h1).keep hb.size (fun k a1 a2 a3 => ⟨hb.block k a2, a3⟩)
/-- The empty chain. -/
theorem WrJ.seven {N0 : Nat} {W0 : World} {x : List Ve} {p : Ve} {L : Array Bool} {u : Nat → Value} {W W' : World} (h : WrJ N0 W0 x p L u W) (hN : N0 ≤ W.heap.size) (hb : Below W.heap.size W W') {g : Nat} (hg : N0 ≤ g) (hh : W'.heap[g]? = some (.cells #[] 61 (0, 0))) :
    WrJ N0 W0 x p (L.setIfInBounds 7 true) (upd u 59 (.slice (some ⟨g, 0, none⟩) 0 0)) W' := by
  refine ⟨h.below.trans (hb.mono hN), fun h1 h2 => ?_, fun h1 h2 => ?_, fun h1 h2 => ?_, fun h1 => ?_⟩
  · rw [upd_at]; exact ⟨g, rfl, hg, hh⟩
  · rw [getD_set_ne false (by omega)] at h1 h2
    rw [upd_ne _ _ (by omega)]
    exact own_below (h.copy h1 h2) hb
  · rw [getD_set_ne false (by omega)] at h1 h2
    obtain ⟨g, g1, g3⟩ := h.one h1 h2
    rw [upd_ne _ _ (by omega)]
    exact ⟨g, g1, (hb.block g (Array.getElem?_eq_some_iff.1 g3).1).trans g3⟩
  · rw [getD_set_ne false (by omega)] at h1
    rw [upd_ne _ _ (by omega)]
    exact (h.all h1).keep hb.size (fun k a1 a2 a3 => ⟨hb.block k a2, a3⟩)
/-- The copy. -/
theorem WrJ.nine {N0 : Nat} {W0 : World} {x : List Ve} {p : Ve} {L : Array Bool} {u : Nat → Value} {W W' : World} (h : WrJ N0 W0 x p L u W) (hN : N0 ≤ W.heap.size) (hb : Below W.heap.size W W') {v : Value} (hs : 9 < L.size) (hh : W'.ownsRow N0 61 2 v x.length (veCells x)) :
    WrJ N0 W0 x p (L.setIfInBounds 9 true) (upd u 61 v) W' := by
  refine ⟨h.below.trans (hb.mono hN), fun h1 h2 => ?_, fun h1 h2 => ?_, fun h1 h2 => ?_, fun h1 => ?_⟩
  · simp [hs] at h2
  · rw [upd_at]; exact hh
  · rw [getD_set_ne false (by omega)] at h1 h2
    obtain ⟨g, g1, g3⟩ := h.one h1 h2
    rw [upd_ne _ _ (by omega)]
    exact ⟨g, g1, (hb.block g (Array.getElem?_eq_some_iff.1 g3).1).trans g3⟩
  · rw [getD_set_ne false (by omega)] at h1
    rw [upd_ne _ _ (by omega)]
    exact (h.all h1).keep hb.size (fun k a1 a2 a3 => ⟨hb.block k a2, a3⟩)
/-- The version's row. -/
theorem WrJ.ten8 {N0 : Nat} {W0 : World} {x : List Ve} {p : Ve} {L : Array Bool} {u : Nat → Value} {W W' : World} (h : WrJ N0 W0 x p L u W) (hN : N0 ≤ W.heap.size) (hb : Below W.heap.size W W') {g : Nat} (hh : W'.heap[g]? = some (.cells #[.int .i64 p.ts, .int .i64 p.v] 61 (0, 0))) :
    WrJ N0 W0 x p (L.setIfInBounds 18 true) (upd u 70 (.slice (some ⟨g, 0, none⟩) 1 1)) W' := by
  refine ⟨h.below.trans (hb.mono hN), fun h1 h2 => ?_, fun h1 h2 => ?_, fun h1 h2 => ?_, fun h1 => ?_⟩
  · rw [getD_set_ne false (by omega)] at h1 h2
    obtain ⟨g, g1, g2, g3⟩ := h.none_ h1 h2
    rw [upd_ne _ _ (by omega)]
    exact ⟨g, g1, g2, (hb.block g (Array.getElem?_eq_some_iff.1 g3).1).trans g3⟩
  · rw [getD_set_ne false (by omega)] at h1 h2
    rw [upd_ne _ _ (by omega)]
    exact own_below (h.copy h1 h2) hb
  · rw [upd_at]; exact ⟨g, rfl, hh⟩
  · rw [getD_set_ne false (by omega)] at h1
    rw [upd_ne _ _ (by omega)]
    exact (h.all h1).keep hb.size (fun k a1 a2 a3 => ⟨hb.block k a2, a3⟩)
/-- The append. -/
theorem WrJ.ten9 {N0 : Nat} {W0 : World} {x : List Ve} {p : Ve} {L : Array Bool} {u : Nat → Value} {W W' : World} (h : WrJ N0 W0 x p L u W) (hN : N0 ≤ W.heap.size) (h9 : L.getD 9 false = true) (hs : 19 < L.size) {v : Value} (hv : ∀ g, v.ownBlock = some g → N0 ≤ g) (hg : W.grownBy W' v.ownBlock) {y : Value} (hk : KidX none N0 W' y (x ++ [p])) :
    WrJ N0 W0 x p (L.setIfInBounds 19 true) (upd u 71 y) W' := by
  refine ⟨h.below.grown hg hN (fun g e => hv g e), fun h1 h2 => ?_, fun h1 h2 => ?_, fun h1 h2 => ?_, fun h1 => ?_⟩
  · rw [getD_set_ne false (by omega), h9] at h2; cases h2
  · simp [hs] at h2
  · simp [hs] at h2
  · rw [upd_at]; exact hk
theorem OwnK.row_ {lo g n cap : Nat} {w : World} {l : Chs} (h : OwnK lo w (.slice (some ⟨g, 0, none⟩) n cap) l) : n = l.length ∧ lo ≤ g ∧ l.length ≤ cap ∧ cap ≤ maxLen ∧ ∃ cur, w.heap[g]? = some (.cells cur 58 (0, 0)) ∧ cur.size = cap ∧ ∀ (i : Nat) (x : List Ve), l[i]? = some x → ∃ u, cur[i]? = some u ∧ KidX (some g) lo w u x := by
  obtain ⟨vs, ho, hk⟩ := h
  rcases ho.2 with ⟨e, _⟩ | ⟨g', cap', cur, e, h1, h2, h3, h4, h5, h6⟩
  · cases e
  · simp only [Value.slice.injEq, Option.some.injEq, Addr.mk.injEq, and_true] at e
    obtain ⟨rfl, e2, rfl⟩ := e
    refine ⟨e2, h1, h3, h4, cur, h2, by omega, fun i x hx => ?_⟩
    obtain ⟨u, g1, g2⟩ := hk i x hx
    have hi := (List.getElem?_eq_some_iff.1 hx).1
    rw [← h6, List.getElem?_take, if_pos (by omega)] at g1
    exact ⟨u, by simpa using g1, g2⟩
theorem OwnK.move {lo : Nat} {w w' : World} {v : Value} {l : Chs} (h : OwnK lo w v l) (hs : w.heap.size ≤ w'.heap.size) (hb : ∀ k, lo ≤ k → w'.heap[k]? = w.heap[k]?) : OwnK lo w' v l := by
  obtain ⟨vs, ho, hk⟩ := h
  refine ⟨vs, own_set ho (fun g hg => hb g ?_), hk.keep hs (fun k a1 a2 a3 => ⟨hb k a1, a3⟩)⟩
  rcases ho.2 with ⟨e, _⟩ | ⟨g', cap, cur, e, h1, _⟩
  · subst e; cases hg
  · subst e
    simp only [Value.ownBlock, Option.some.injEq] at hg
    omega
theorem KidX.veRow {row : Option Nat} {lo : Nat} {w : World} {a : Option Addr} {n c : Nat} {x : List Ve} (h : KidX row lo w (.slice a n c) x) : n = x.length ∧ x.length ≤ c ∧ VeRow 0 w.heap.size w a x := by
  obtain ⟨a', c', e, h2, h3⟩ := h
  simp only [Value.slice.injEq] at e
  obtain ⟨rfl, rfl, rfl⟩ := e
  refine ⟨rfl, h2, ?_⟩
  rcases h3 with h3 | ⟨b, g1, g2, g3, g4, g5⟩
  · exact .inl h3
  · rw [g1]; exact g5.row (Nat.zero_le _) g3
theorem VeRow.take {lo hi : Nat} {w : World} {a : Option Addr} {l : List Ve} (h : VeRow lo hi w a l) (n : Nat) : VeRow lo hi w a (l.take n) := by
  rcases h with rfl | ⟨b, o, rfl, h1, h2, h3⟩
  · exact .inl (by simp)
  · refine .inr ⟨b, o, rfl, h1, h2, fun i x hx => h3 i x ?_⟩
    rw [List.getElem?_take] at hx
    by_cases hi : i < n
    · rwa [if_pos hi] at hx
    · rw [if_neg hi] at hx; cases hx
theorem own_base {w : World} {base size n : Nat} {e : TypeId} {v : Value} {xs : List Value} (h : w.ownsRow base e size v n xs) (g : Nat) (hg : v.ownBlock = some g) : base ≤ g := by
  rcases h.2 with ⟨e, _⟩ | ⟨g', cap, cur, e, h1, _⟩
  · subst e; cases hg
  · subst e
    simp only [Value.ownBlock, Option.some.injEq] at hg
    omega
/-- What each operation of the writing tells. -/
def WrPv (N g cap n : Nat) (ps : Value) (k : Nat) (pb po q : Nat) (sv : Value) (t v : Int) : Nat → Value → World → Prop
  | 0, y, _ => y = .pointer (some ⟨N, 0, none⟩)
  | 1, y, _ => y = .slice (some ⟨g, 0, none⟩) n cap
  | 2, y, _ => y = ps
  | 3, y, _ => y = .int .i64 k
  | 4, y, _ => y = .pointer (some ⟨pb, po + k * 2, none⟩)
  | 5, y, _ => y = .pointer (some ⟨pb, po + k * 2, none⟩)
  | 6, y, _ => y = .int .i64 q
  | 7, _, _ => True
  | 8, y, _ => y = sv
  | 9, _, _ => True
  | 10, y, _ => y = .pointer (some ⟨N, 1, none⟩)
  | 11, y, _ => y = .int .i64 t
  | 12, y, _ => y = ps
  | 13, y, _ => y = .int .i64 k
  | 14, y, _ => y = .pointer (some ⟨pb, po + k * 2, none⟩)
  | 15, y, _ => y = .pointer (some ⟨pb, po + k * 2 + 1, none⟩)
  | 16, y, _ => y = .int .i64 v
  | 17, y, _ => y = .agg #[.int .i64 t, .int .i64 v]
  | 18, _, _ => True
  | 19, _, _ => True
  | _, y, _ => y = .pointer (some ⟨g, q, none⟩)
theorem WrPv.up {N g cap n : Nat} {ps : Value} {k : Nat} {pb po q : Nat} {sv : Value} {t v : Int} {W W' : World} {i : Nat} {y : Value} (h : WrPv N g cap n ps k pb po q sv t v i y W) : WrPv N g cap n ps k pb po q sv t v i y W' := by
  unfold WrPv at h ⊢
  split at h <;> exact h
end Go.Proofs.Ytoahbfledamnnaa.G
