/- The program's WriteTxn. -/
import Derived.Test.YtgffplbcpofkmaaStTxImplThree
import Derived.Test.YtgffplbcpofkmaaStTxWrite
namespace Go.Proofs.Ytgffplbcpofkmaa.G
open Go.ChangeShapes Go.WideShapes Go.ChangeAt Go.RowKit
set_option linter.unusedVariables false

set_option maxHeartbeats 8000000 in
set_option maxRecDepth 4000 in
theorem impl_wt0 (a ra wa : Option Addr) (c rq wq : Nat) (l : Chs) (now st : Int) (rs : List Int) (ws : List Ve) (pk pv : Int) (w : World) (hs : ChRow 0 w.heap.size w a l) (hsb : ChsBd 1048576 l) (hr : TxRow 0 w.heap.size w ra wa rs ws) (hbd : TxBd 1048576 rs ws) (hcap : rs.length ≤ rq) {st' : Int} {rs' : List Int} {ws' : List Ve} {cd : Int} (h : WtIs l now st rs ws pk pv st' rs' ws' cd) :
    Calls Try.prog 26 #[.agg #[.slice a l.length c, .int .i64 now], .agg #[.int .i64 st, .slice ra rs.length rq, .slice wa ws.length wq], .agg #[.int .i64 pk, .int .i64 pv]] w fun e w' => (∃ ra' rq' wa' wq', e = .returned (.tuple #[.agg #[.int .i64 st', .slice ra' rs'.length rq', .slice wa' ws'.length wq'], .int .i64 cd]) ∧ TxOwn w.heap.size w'.heap.size w' ra' wa' rs' ws') ∧ Below w.heap.size w w' := by
  have HI : Hid (WtIs l now st rs ws pk pv st' rs' ws' cd) := h
  clear h
  obtain ⟨V, hV⟩ : ∃ V, V = ((((w.alloc (.cells #[.slice a l.length c, .int .i64 now] 34)).alloc (.cells #[.int .i64 st, .slice ra rs.length rq, .slice wa ws.length wq] 38)).alloc (.cells #[.int .i64 pk, .int .i64 pv] 54)).alloc (.cells #[.int .i64 0, .slice none 0 0, .slice none 0 0] 38)) := ⟨_, rfl⟩
  have bV : Below w.heap.size w V := by
    rw [hV]
    repeat (first | exact Below.refl _ _ | refine Below.alloc ?_ (by first | omega | (simp <;> omega)) _)
  have zV : w.heap.size + 4 ≤ V.heap.size := by rw [hV]; simp
  have c0 : V.heap[w.heap.size]? = some (.cells #[.slice a l.length c, .int .i64 now] 34 (0, 0)) := by
    rw [hV, Below.heap_alloc _ _ _ (by simp <;> omega), Below.heap_alloc _ _ _ (by simp <;> omega), Below.heap_alloc _ _ _ (by simp <;> omega)]
    have := heap_alloc_new w (.cells #[.slice a l.length c, .int .i64 now] 34)
    simpa using this
  have c1 : V.heap[w.heap.size + 1]? = some (.cells #[.int .i64 st, .slice ra rs.length rq, .slice wa ws.length wq] 38 (0, 0)) := by
    rw [hV, Below.heap_alloc _ _ _ (by simp <;> omega), Below.heap_alloc _ _ _ (by simp <;> omega)]
    have := heap_alloc_new (w.alloc (.cells #[.slice a l.length c, .int .i64 now] 34)) (.cells #[.int .i64 st, .slice ra rs.length rq, .slice wa ws.length wq] 38)
    simpa using this
  have c2 : V.heap[w.heap.size + 1 + 1]? = some (.cells #[.int .i64 pk, .int .i64 pv] 54 (0, 0)) := by
    rw [hV, Below.heap_alloc _ _ _ (by simp <;> omega)]
    have := heap_alloc_new ((w.alloc (.cells #[.slice a l.length c, .int .i64 now] 34)).alloc (.cells #[.int .i64 st, .slice ra rs.length rq, .slice wa ws.length wq] 38)) (.cells #[.int .i64 pk, .int .i64 pv] 54)
    simpa using this
  have c3 : V.heap[w.heap.size + 1 + 1 + 1]? = some (.cells #[.int .i64 0, .slice none 0 0, .slice none 0 0] 38 (0, 0)) := by
    rw [hV]
    have := heap_alloc_new (((w.alloc (.cells #[.slice a l.length c, .int .i64 now] 34)).alloc (.cells #[.int .i64 st, .slice ra rs.length rq, .slice wa ws.length wq] 38)).alloc (.cells #[.int .i64 pk, .int .i64 pv] 54)) (.cells #[.int .i64 0, .slice none 0 0, .slice none 0 0] 38)
    simpa using this
  have KV : Hid (∀ W, Below V.heap.size V W → W.heap[w.heap.size]? = some (.cells #[.slice a l.length c, .int .i64 now] 34 (0, 0)) ∧ W.heap[w.heap.size + 1]? = some (.cells #[.int .i64 st, .slice ra rs.length rq, .slice wa ws.length wq] 38 (0, 0)) ∧ W.heap[w.heap.size + 1 + 1]? = some (.cells #[.int .i64 pk, .int .i64 pv] 54 (0, 0)) ∧ W.heap[w.heap.size + 1 + 1 + 1]? = some (.cells #[.int .i64 0, .slice none 0 0, .slice none 0 0] 38 (0, 0)) ∧ ChRow 0 W.heap.size W a l ∧ TxRow 0 W.heap.size W ra wa rs ws ∧ Below w.heap.size w W) := fun W h =>
    have hw := bV.trans (h.mono (by omega))
    ⟨(h.block _ (by omega)).trans c0, (h.block _ (by omega)).trans c1, (h.block _ (by omega)).trans c2, (h.block _ (by omega)).trans c3, ChRow.up hs hw, TxRow.up hr hw, hw⟩
  have HE : Hid (ChsBd 1048576 l) := hsb
  have HD : Hid (TxBd 1048576 rs ws) := hbd
  have HW0 : Hid (TxRow 0 w.heap.size w ra wa rs ws) := hr
  have x0 := fun o => row_cell c0 o
  have x1 := fun o => row_cell c1 o
  clear hs hr hbd hsb c0 c1 c2 c3 bV
  go_enter Try.func26, Try.ntmps26
  go_upto_region 1 with fail
  rw [← hV]
  clear hV
  go_wp2_with fail
  refine (impl_txnOK a ra wa c rq wq l now st rs ws _ (KV.out _ (Below.refl _ _)).2.2.2.2.1 HE.out (KV.out _ (Below.refl _ _)).2.2.2.2.2.1 HD.out hcap).mono ?_
  rintro e w1 ⟨rfl, hb1⟩
  have q1 : Hid (Below V.heap.size V w1) := hb1
  obtain ⟨t0, t1, t2, t3, t4, t5, t6⟩ := KV.out _ q1.out
  have xa1 := fun o => row_cell t0 o
  have xb1 := fun o => row_cell t1 o
  have yb1 := fun o => row_frozen t1 o
  have xp1 := fun o => row_cell t2 o
  have xc1 := fun o => row_cell t3 o
  have yc1 := fun o => row_frozen t3 o
  have B11 : Hid _ := t1
  have B31 : Hid _ := t3
  have TS1 : Hid (ChRow 0 w1.heap.size w1 a l) := t4
  have TT1 : Hid (TxRow 0 w1.heap.size w1 ra wa rs ws) := t5
  have TB1 : Hid (Below w.heap.size w w1) := t6
  have z1 := hb1.size
  clear t0 t1 t2 t3 t4 t5 t6 hb1
  clear x0 x1
  cases hS : txnB l now st rs ws
  · obtain ⟨_, rfl, rfl, rfl, rfl⟩ : txnB l now st rs ws = false ∧ st' = 0 ∧ rs' = [] ∧ ws' = [] ∧ cd = 1 := by
      rcases HI.out with h | ⟨h, _⟩ | ⟨h, _⟩ | ⟨h, _⟩
      · exact h
      all_goals rw [hS] at h; cases h
    clear HI hS
    go_wp2_with fail
    refine bodyPost_ret (v := .tuple #[.agg #[.int .i64 0, .slice none 0 0, .slice none 0 0], .int .i64 1]) (by simp [results, Try.results26, go_sem, xc1]) rfl ⟨⟨none, 0, none, 0, rfl, .inl rfl, .inl rfl⟩, ?_⟩
    repeat (refine Below.setCell ?_ (by first | omega | (simp <;> omega)) _)
    exact TB1.out
  have HS : Hid (txnB l now st rs ws = true) := hS
  have hal := txnB_all hS
  have hwl : ws.length ≤ 400 := (putsB_all hal.2.2.1).1
  have hrl := readsB_len hal.2.2.2
  clear hS hal
  go_wp2_with fail
  refine (impl_putOK pk pv _).mono ?_
  rintro e w2 ⟨rfl, hb2⟩
  have q2 : Hid (Below V.heap.size V w2) := q1.out.trans (hb2.mono (by have := q1.out.size; omega))
  obtain ⟨t0, t1, t2, t3, t4, t5, t6⟩ := KV.out _ q2.out
  have xa2 := fun o => row_cell t0 o
  have xb2 := fun o => row_cell t1 o
  have yb2 := fun o => row_frozen t1 o
  have xp2 := fun o => row_cell t2 o
  have xc2 := fun o => row_cell t3 o
  have yc2 := fun o => row_frozen t3 o
  have B12 : Hid _ := t1
  have B32 : Hid _ := t3
  have TS2 : Hid (ChRow 0 w2.heap.size w2 a l) := t4
  have TT2 : Hid (TxRow 0 w2.heap.size w2 ra wa rs ws) := t5
  have TB2 : Hid (Below w.heap.size w w2) := t6
  have z2 := hb2.size
  clear t0 t1 t2 t3 t4 t5 t6 hb2
  clear xa1 xb1 yb1 xp1 xc1 yc1
  cases hP : putB pk pv
  · obtain ⟨_, _, rfl, rfl, rfl, rfl⟩ : txnB l now st rs ws = true ∧ putB pk pv = false ∧ st' = 0 ∧ rs' = [] ∧ ws' = [] ∧ cd = 4 := by
      rcases HI.out with ⟨h, _⟩ | h | ⟨_, h, _⟩ | ⟨_, h, _⟩
      · rw [HS.out] at h; cases h
      · exact h
      all_goals rw [hP] at h; cases h
    clear HI hP
    go_wp2_with fail
    refine bodyPost_ret (v := .tuple #[.agg #[.int .i64 0, .slice none 0 0, .slice none 0 0], .int .i64 4]) (by simp [results, Try.results26, go_sem, xc2]) rfl ⟨⟨none, 0, none, 0, rfl, .inl rfl, .inl rfl⟩, ?_⟩
    repeat (refine Below.setCell ?_ (by first | omega | (simp <;> omega)) _)
    exact TB2.out
  by_cases h4 : ws.length = 400
  · obtain ⟨_, _, _, rfl, rfl, rfl, rfl⟩ : txnB l now st rs ws = true ∧ putB pk pv = true ∧ ws.length = 400 ∧ st' = st ∧ rs' = rs ∧ ws' = ws ∧ cd = 6 := by
      rcases HI.out with ⟨h, _⟩ | ⟨_, h, _⟩ | h | ⟨_, _, h, _⟩
      · rw [HS.out] at h; cases h
      · rw [hP] at h; cases h
      · exact h
      · exact absurd h4 h
    have h4' : ((ws'.length : Int) == 400) = true := by rw [h4]; rfl
    have HL : Hid (ws'.length = 400) := h4
    clear HI hP h4
    go_wp2_with fail
    have hq := copy_txn ra wa rq wq st' rs' ws' _ TT2.out HD.out
    rw [HL.out] at hq
    refine hq.mono ?_
    clear hq h4' hwl
    rintro e w3 ⟨g1, g2, rfl, o3, hb3⟩
    have o4 : TxOwn w2.heap.size w3.heap.size w3 (some ⟨g1, 0, none⟩) (some ⟨g2, 0, none⟩) rs' ws' := by
      obtain ⟨ra3, rq3, wa3, wq3, e1, e2, o4⟩ := o3.own
      simp only [Value.slice.injEq] at e1 e2
      rw [e1.1, e2.1]; exact o4
    obtain ⟨ra3, hra3⟩ : ∃ x : Option Addr, x = some ⟨g1, 0, none⟩ := ⟨_, rfl⟩
    obtain ⟨wa3, hwa3⟩ : ∃ x : Option Addr, x = some ⟨g2, 0, none⟩ := ⟨_, rfl⟩
    obtain ⟨rq3, hrq3⟩ : ∃ x : Nat, x = rs'.length := ⟨_, rfl⟩
    obtain ⟨wq3, hwq3⟩ : ∃ x : Nat, x = 400 := ⟨_, rfl⟩
    rw [← hra3, ← hwa3] at o4 ⊢
    clear hra3 hwa3 hrq3 hwq3 rq3 wq3
    have O4 : Hid (TxOwn w2.heap.size w3.heap.size w3 ra3 wa3 rs' ws') := o4
    have q3 : Hid (Below V.heap.size V w3) := q2.out.trans (hb3.mono (by omega))
    obtain ⟨t0, t1, t2, t3, t4, t5, t6⟩ := KV.out _ q3.out
    have xa3 := fun o => row_cell t0 o
    have xb3 := fun o => row_cell t1 o
    have yb3 := fun o => row_frozen t1 o
    have xp3 := fun o => row_cell t2 o
    have xc3 := fun o => row_cell t3 o
    have yc3 := fun o => row_frozen t3 o
    have B13 : Hid _ := t1
    have B33 : Hid _ := t3
    have TS3 : Hid (ChRow 0 w3.heap.size w3 a l) := t4
    have TT3 : Hid (TxRow 0 w3.heap.size w3 ra wa rs' ws') := t5
    have TB3 : Hid (Below w.heap.size w w3) := t6
    have z3 := hb3.size
    clear t0 t1 t2 t3 t4 t5 t6 hb3
    clear o3 o4 xa2 xb2 yb2 xp2 xc2 yc2
    go_wp2_with fail
    refine bodyPost_ret (v := .tuple #[.agg #[.int .i64 st', .slice ra3 rs'.length rs'.length, .slice wa3 ws'.length 400], .int .i64 6]) (by first | (simp [results, Try.results26, go_sem, xc3]; done) | (simp [results, Try.results26, go_sem, xc3]; exact HL.out.symm)) rfl ⟨⟨ra3, _, wa3, _, rfl, ?_⟩, ?_⟩
    · refine TxOwn.wide (TxOwn.keep O4.out (fun k h1 h2 => ?_)) (by omega) (by simp)
      repeat rw [heap_set _ _ _ _ _ (by omega)]
    · repeat (refine Below.setCell ?_ (by first | omega | (simp <;> omega)) _)
      exact TB3.out
  · obtain ⟨_, _, _, rfl, rfl, rfl, rfl⟩ : txnB l now st rs ws = true ∧ putB pk pv = true ∧ ws.length ≠ 400 ∧ st' = st ∧ rs' = rs ∧ ws' = ws ++ [⟨pk, pv⟩] ∧ cd = 0 := by
      rcases HI.out with ⟨h, _⟩ | ⟨_, h, _⟩ | ⟨_, _, h, _⟩ | h
      · rw [HS.out] at h; cases h
      · rw [hP] at h; cases h
      · exact absurd h h4
      · exact h
    have h4' : ((ws.length : Int) == 400) = false := by simp; omega
    clear HI hP h4
    go_wp2_with fail
    refine (copy_txn ra wa rq wq st' rs' ws _ TT2.out HD.out).mono ?_
    rintro e w3 ⟨g1, g2, rfl, o3, hb3⟩
    obtain ⟨rv, hrv⟩ : ∃ x : Value, x = .slice (some ⟨g1, 0, none⟩) rs'.length rs'.length := ⟨_, rfl⟩
    have q3 : Hid (Below V.heap.size V w3) := q2.out.trans (hb3.mono (by omega))
    obtain ⟨t0, t1, t2, t3, t4, t5, t6⟩ := KV.out _ q3.out
    have z3 := hb3.size
    have z3' := q3.out.size
    obtain ⟨U2, hU2⟩ : ∃ x : World, x = w3.alloc (.cells #[.int .i64 st', .slice (some ⟨g1, 0, none⟩) rs'.length rs'.length, .slice (some ⟨g2, 0, none⟩) ws.length ws.length] 38) := ⟨_, rfl⟩
    have b2 : Below w3.heap.size w3 U2 := by rw [hU2]; exact (Below.refl _ _).alloc (Nat.le_refl _) _
    have u1 : U2.heap[w3.heap.size]? = some (.cells #[.int .i64 st', .slice (some ⟨g1, 0, none⟩) rs'.length rs'.length, .slice (some ⟨g2, 0, none⟩) ws.length ws.length] 38 (0, 0)) := by rw [hU2]; exact heap_alloc_new _ _
    have u2 := (b2.block _ (by omega)).trans t2
    have u3 := (b2.block _ (by omega)).trans t3
    have zU2 := b2.size
    have zU2' := (Array.getElem?_eq_some_iff.1 u1).1
    have BU2 : Below w.heap.size w U2 := t6.trans (b2.mono (by have := t6.size; omega))
    have OU2 : TxO (w.heap.size + 4) U2 (.slice (some ⟨g1, 0, none⟩) rs'.length rs'.length) (.slice (some ⟨g2, 0, none⟩) ws.length ws.length) rs' ws := TxO.low (TxO.move o3 (fun k h1 h2 => b2.block k h2)) (by omega)
    have O3 : TxO w2.heap.size w3 (.slice (some ⟨g1, 0, none⟩) rs'.length rs'.length) (.slice (some ⟨g2, 0, none⟩) ws.length ws.length) rs' ws := o3
    obtain ⟨U3, hU3⟩ : ∃ x : World, x = U2.alloc (.cells #[.int .i64 pk, .int .i64 pv] 54) := ⟨_, rfl⟩
    have b3 : Below U2.heap.size U2 U3 := by rw [hU3]; exact (Below.refl _ _).alloc (Nat.le_refl _) _
    have cU3 : U3.heap[U2.heap.size]? = some (.cells #[.int .i64 pk, .int .i64 pv] 54 (0, 0)) := by rw [hU3]; exact heap_alloc_new _ _
    have zU3 := b3.size
    have hg2 : g2 < w3.heap.size := (own_lt3 O3.2 g2 rfl).2
    have hg2' : w2.heap.size ≤ g2 := (own_lt3 O3.2 g2 rfl).1
    have hg1 : g1 < w3.heap.size := (own_lt3 O3.1 g1 rfl).2
    have hg1' : w2.heap.size ≤ g1 := (own_lt3 O3.1 g1 rfl).1
    have hn12 : g1 ≠ g2 := by
      rcases O3.1.2 with ⟨e1, _⟩ | ⟨ga, ca, cua, ea, _, ha, _⟩
      · cases e1
      rcases O3.2.2 with ⟨e2, _⟩ | ⟨gb, cb, cub, eb, _, hb, _⟩
      · cases e2
      simp only [Value.slice.injEq, Option.some.injEq, Addr.mk.injEq] at ea eb
      obtain ⟨⟨rfl, _⟩, _⟩ := ea
      obtain ⟨⟨rfl, _⟩, _⟩ := eb
      rintro rfl
      rw [ha] at hb; simp at hb
    obtain ⟨g4, k4, W4, hrun, o4, gr4, hg4⟩ := app_put3 ws ⟨pk, pv⟩ (.slice (some ⟨g2, 0, none⟩) ws.length ws.length) (w.heap.size + 4) U2.heap.size U3 (own_below OU2.2 b3) cU3 (by omega) (by omega)
    have kept : ∀ g, g < U2.heap.size → g ≠ g2 → W4.heap[g]? = U2.heap[g]? := fun g hg hn => (gr4.block g (by omega) (fun e => hn (by simpa [Value.ownBlock] using e))).trans (b3.block g (by omega))
    have v1 := (kept w3.heap.size (by omega) (by omega)).trans u1
    have v3 := (kept (w.heap.size + 1 + 1 + 1) (by omega) (by omega)).trans u3
    have x4 := fun o => row_cell v1 o
    have y4 := fun o => row_frozen v1 o
    have x5 := fun o => row_cell v3 o
    have y5 := fun o => row_frozen v3 o
    have xu1 := fun o => row_cell u1 o
    have xu2 := fun o => row_cell u2 o
    have BW4 : Hid (Below w.heap.size w W4) := (BU2.trans (b3.mono (by omega))).grown gr4 (by have := BU2.size; omega) (fun g e => by simp [Value.ownBlock] at e; omega)
    have hz4 := gr4.size
    have O4W : Hid (W4.ownsRow (w.heap.size + 4) 54 2 (.slice (some ⟨g4, 0, none⟩) (ws.length + 1) k4) (ws ++ [(⟨pk, pv⟩ : Ve)]).length (veCells (ws ++ [⟨pk, pv⟩]))) := by rw [Hid]; simpa using o4
    have R4W : Hid (W4.ownsRow (w.heap.size + 4) 3 1 (.slice (some ⟨g1, 0, none⟩) rs'.length rs'.length) rs'.length (nuV rs')) := own_set (own_below OU2.1 b3) (fun g hg => by
      simp only [Value.ownBlock, Option.some.injEq] at hg
      subst hg
      exact (kept _ (by omega) hn12).trans (b3.block _ (by omega)).symm)
    have hg4n : g4 ≠ w3.heap.size ∧ w.heap.size + 4 ≤ g4 := by
      rcases O4W.out.2 with ⟨e1, _⟩ | ⟨ga, ca, cua, ea, h1, ha, _⟩
      · cases e1
      simp only [Value.slice.injEq, Option.some.injEq, Addr.mk.injEq] at ea
      obtain ⟨⟨rfl, _⟩, _⟩ := ea
      refine ⟨?_, h1⟩
      rintro rfl
      rw [v1] at ha; simp at ha
    have HRUN : Hid _ := hrun
    have HU2 : Hid (U2 = _) := hU2
    have HU3 : Hid (U3 = U2.alloc (.cells #[.int .i64 pk, .int .i64 pv] 54)) := hU3
    clear hU2 hU3 b3 cU3 hrun o4 gr4 kept v1 v3 u1 u2 u3 OU2 BU2 O3 o3 b2 t0 t1 t2 t3 t4 t5 t6 hrv rv
    clear xa2 xb2 yb2 xp2 xc2 yc2
    go_upto_region 8 with fail
    rw [← HU2.out]
    go_wp2_with (first | (at_builtin; rw [← HU3.out]; refine wpList_append_run rfl _ _ _ rfl _ _ _ _ rfl rfl HRUN.out ?_) | fail)
    refine bodyPost_ret (v := .tuple #[.agg #[.int .i64 st', .slice (some ⟨g1, 0, none⟩) rs'.length rs'.length, .slice (some ⟨g4, 0, none⟩) (ws.length + 1) k4], .int .i64 0]) (by simp [results, Try.results26, go_sem, x5]) rfl ⟨⟨some ⟨g1, 0, none⟩, rs'.length, some ⟨g4, 0, none⟩, k4, by simp, ?_⟩, ?_⟩
    · have mv : ∀ {W' : World}, (∀ k, k ≠ w3.heap.size → w.heap.size + 4 ≤ k → W'.heap[k]? = W4.heap[k]?) → W'.heap.size = W4.heap.size → TxOwn w.heap.size W'.heap.size W' (some ⟨g1, 0, none⟩) (some ⟨g4, 0, none⟩) rs' (ws ++ [⟨pk, pv⟩]) := fun {W'} hk hs => by
        have h1 : TxO (w.heap.size + 4) W' (.slice (some ⟨g1, 0, none⟩) rs'.length rs'.length) (.slice (some ⟨g4, 0, none⟩) (ws.length + 1) k4) rs' (ws ++ [⟨pk, pv⟩]) := ⟨own_set R4W.out (fun g hg => by
          simp only [Value.ownBlock, Option.some.injEq] at hg; subst hg; exact hk _ (by omega) (by omega)), own_set O4W.out (fun g hg => by
          simp only [Value.ownBlock, Option.some.injEq] at hg; subst hg; exact hk _ hg4n.1 hg4n.2)⟩
        obtain ⟨r1, r2, a1, a2, e1, e2, h3⟩ := h1.own
        simp only [Value.slice.injEq] at e1 e2
        rw [e1.1, e2.1]
        exact TxOwn.wide h3 (by omega) (Nat.le_refl _)
      refine mv (fun k hk hk2 => ?_) (by simp)
      repeat rw [heap_set _ _ _ _ _ (by omega)]
    · repeat (refine Below.setCell ?_ (by first | omega | (simp <;> omega)) _)
      exact BW4.out
theorem impl_wt (a ra wa : Option Addr) (c rq wq : Nat) (l : Chs) (now st : Int) (rs : List Int) (ws : List Ve) (pk pv : Int) (sa : Int) (ra' : List Int) (wa' : List Ve) (cd : Int) (w : World) (hs : ChRow 0 w.heap.size w a l) (hsb : ChsBd 1048576 l) (hr : TxRow 0 w.heap.size w ra wa rs ws) (hbd : TxBd 1048576 rs ws) (hcap : rs.length ≤ rq) (_hcap2 : ws.length ≤ wq) (h : WtIs l now st rs ws pk pv sa ra' wa' cd) :
    Calls Try.prog 26 #[.agg #[.slice a l.length c, .int .i64 now], .agg #[.int .i64 st, .slice ra rs.length rq, .slice wa ws.length wq], .agg #[.int .i64 pk, .int .i64 pv]] w fun e w' => ∃ r1 c1 w1 c2, e = .returned (.tuple #[.agg #[.int .i64 sa, .slice r1 ra'.length c1, .slice w1 wa'.length c2], .int .i64 cd]) ∧ TxOwn w.heap.size w'.heap.size w' r1 w1 ra' wa' ∧ Below w.heap.size w w' := by
  refine (impl_wt0 a ra wa c rq wq l now st rs ws pk pv w hs hsb hr hbd hcap h).mono ?_
  rintro e w' ⟨⟨r1, c1, w1, c2, he, ho⟩, hb⟩
  exact ⟨r1, c1, w1, c2, he, ho, hb⟩
end Go.Proofs.Ytgffplbcpofkmaa.G
