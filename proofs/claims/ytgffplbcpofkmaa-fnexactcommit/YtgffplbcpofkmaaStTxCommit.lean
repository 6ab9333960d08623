/- The specification's Commit. -/
import Derived.Test.YtgffplbcpofkmaaStTxRead
import Derived.Test.YtgffplbcpofkmaaStWaSpec
import Derived.Deep.CutBlock
import Derived.Deep.CutRange
namespace Go.Proofs.Ytgffplbcpofkmaa.G
open Go.ChangeShapes Go.WideShapes Go.ChangeAt Go.RowKit
set_option linter.unusedVariables false

/-- A store, an hour and a code that a call tells. -/
def CoS (w : World) (m : Chs) (nr h cd : Int) (e : Ending) (w' : World) : Prop := (∃ a' c', e = .returned (.tuple #[.agg #[.slice a' m.length c', .int .i64 nr], .int .i64 h, .int .i64 cd]) ∧ ChRow 0 w'.heap.size w' a' m) ∧ Below w.heap.size w w'
/-- Where the call's own store lies: what is below stays, and the rows with it. -/
theorem CoS.same {w W' : World} {a : Option Addr} {c : Nat} {l : Chs} {now h cd : Int} (hr : ChRow 0 w.heap.size w a l) (hb : Below w.heap.size w W') : CoS w l now h cd (.returned (.tuple #[.agg #[.slice a l.length c, .int .i64 now], .int .i64 h, .int .i64 cd])) W' := ⟨⟨a, c, rfl, ChRow.up hr hb⟩, hb⟩
set_option maxHeartbeats 8000000 in
theorem spec_co (a ra wa : Option Addr) (c rq wq : Nat) (l : Chs) (now st : Int) (rs : List Int) (ws : List Ve) (w : World) (hs : ChRow 0 w.heap.size w a l) (hsb : ChsBd 1048576 l) (hr : TxRow 0 w.heap.size w ra wa rs ws) (hbd : TxBd 1048576 rs ws) (hcap : rs.length ≤ rq) (hok : txnB l now st rs ws = true) {m : Chs} {nr h cd : Int} (hc : CoIs l now st rs ws m nr h cd) :
    Calls Try.prog 64 #[.agg #[.slice a l.length c, .int .i64 now], .agg #[.int .i64 st, .slice ra rs.length rq, .slice wa ws.length wq]] w fun e w' => CoS w m nr h cd e w' := by
  have hal := txnB_all hok
  have H16 : Hid (l.length = 16) := (storeB_all hal.1).1
  have HSO : Hid (storeB l now = true) := hal.1
  have HPO : Hid (putsB ws = true) := hal.2.2.1
  have HRO : Hid (readsB rs = true) := hal.2.2.2
  have HCO : Hid (CoIs l now st rs ws m nr h cd) := hc
  clear hal hok hc
  obtain ⟨V, hV⟩ : ∃ V, V = ((w.alloc (.cells #[.slice a l.length c, .int .i64 now] 34)).alloc (.cells #[.int .i64 st, .slice ra rs.length rq, .slice wa ws.length wq] 38)).alloc (.cells #[.slice none 0 0, .int .i64 0] 34) := ⟨_, rfl⟩
  have bV : Below w.heap.size w V := by
    rw [hV]
    repeat (first | exact Below.refl _ _ | refine Below.alloc ?_ (by first | omega | (simp <;> omega)) _)
  have zV : w.heap.size + 3 ≤ V.heap.size := by rw [hV]; simp
  have c0 : V.heap[w.heap.size]? = some (.cells #[.slice a l.length c, .int .i64 now] 34 (0, 0)) := by
    rw [hV, Below.heap_alloc _ _ _ (by simp <;> omega), Below.heap_alloc _ _ _ (by simp <;> omega)]; exact heap_alloc_new _ _
  have c1 : V.heap[w.heap.size + 1]? = some (.cells #[.int .i64 st, .slice ra rs.length rq, .slice wa ws.length wq] 38 (0, 0)) := by
    rw [hV, Below.heap_alloc _ _ _ (by simp <;> omega)]
    have := heap_alloc_new (w.alloc (.cells #[.slice a l.length c, .int .i64 now] 34)) (.cells #[.int .i64 st, .slice ra rs.length rq, .slice wa ws.length wq] 38)
    simpa using this
  have c2 : V.heap[w.heap.size + 1 + 1]? = some (.cells #[.slice none 0 0, .int .i64 0] 34 (0, 0)) := by
    rw [hV]
    have := heap_alloc_new ((w.alloc (.cells #[.slice a l.length c, .int .i64 now] 34)).alloc (.cells #[.int .i64 st, .slice ra rs.length rq, .slice wa ws.length wq] 38)) (.cells #[.slice none 0 0, .int .i64 0] 34)
    simpa using this
  have KV : Hid (∀ W, Below V.heap.size V W → W.heap[w.heap.size]? = some (.cells #[.slice a l.length c, .int .i64 now] 34 (0, 0)) ∧ W.heap[w.heap.size + 1]? = some (.cells #[.int .i64 st, .slice ra rs.length rq, .slice wa ws.length wq] 38 (0, 0)) ∧ W.heap[w.heap.size + 1 + 1]? = some (.cells #[.slice none 0 0, .int .i64 0] 34 (0, 0)) ∧ ChRow 0 W.heap.size W a l ∧ TxRow 0 W.heap.size W ra wa rs ws ∧ Below w.heap.size w W) := fun W h =>
    have hw := bV.trans (h.mono (by omega))
    ⟨(h.block _ (by omega)).trans c0, (h.block _ (by omega)).trans c1, (h.block _ (by omega)).trans c2, ChRow.up hs hw, TxRow.up hr hw, hw⟩
  have HE : Hid (ChsBd 1048576 l) := hsb
  have HD : Hid (TxBd 1048576 rs ws) := hbd
  have HW0 : Hid (TxRow 0 w.heap.size w ra wa rs ws) := hr
  have HS0 : Hid (ChRow 0 w.heap.size w a l) := hs
  have x0 := fun o => row_cell c0 o
  have x1 := fun o => row_cell c1 o
  have x2 := fun o => row_cell c2 o
  have y2 := fun o => row_frozen c2 o
  clear hs hr hbd hsb c0 c1 c2 bV
  go_enter Try.func64, Try.ntmps64
  go_upto_region 1 with fail
  rw [← hV]
  clear hV
  by_cases h0 : ws.length = 0
  · obtain ⟨_, rfl, rfl, rfl, rfl⟩ : ws.length = 0 ∧ m = l ∧ nr = now ∧ h = st ∧ cd = 0 := by
      rcases HCO.out with h | ⟨h, _⟩ | ⟨h, _⟩ | ⟨h, _⟩
      · exact h
      all_goals omega
    have h0' : ((ws.length : Int) == 0) = true := by rw [h0]; rfl
    clear h0 HCO HPO
    go_upto_region 2 with fail
    go_region_with fail
    all_goals (try go_wp2_with fail)
    all_goals
      refine bodyPost_ret (v := .tuple #[.agg #[.slice a m.length c, .int .i64 nr], .int .i64 h, .int .i64 0]) (by simp [results, Try.results64, go_sem, x2]) rfl (CoS.same HS0.out ?_)
      refine Below.drew ?_
      repeat (refine Below.setCell ?_ (by first | omega | (simp <;> omega)) _)
      exact (KV.out _ (Below.refl _ _)).2.2.2.2.2
  have h0' : ((ws.length : Int) == 0) = false := by simp; intro e; rw [e] at h0; exact h0 rfl
  have hp0 : 0 < ws.length := by omega
  clear h0
  go_wp2_with fail
  refine (spec_conf a ra wa c rq wq l now st rs ws _ (KV.out _ (Below.refl _ _)).2.2.2.1 HE.out (KV.out _ (Below.refl _ _)).2.2.2.2.1 HD.out hcap H16.out HRO.out).mono ?_
  rintro e w1 ⟨rfl, hb1⟩
  have q1 : Hid (Below V.heap.size V w1) := hb1
  obtain ⟨t0, t1, t2, t3, t4, t5⟩ := KV.out _ q1.out
  have xa1 := fun o => row_cell t0 o
  have xb1 := fun o => row_cell t1 o
  have xc1 := fun o => row_cell t2 o
  have yc1 := fun o => row_frozen t2 o
  have TS1 : Hid (ChRow 0 w1.heap.size w1 a l) := t3
  have TT1 : Hid (TxRow 0 w1.heap.size w1 ra wa rs ws) := t4
  have TB1 : Hid (Below w.heap.size w w1) := t5
  have z1 := hb1.size
  clear t0 t1 t2 t3 t4 t5 hb1
  clear x0 x1 x2 y2
  cases hC : confB l st rs ws
  case true =>
    obtain ⟨_, _, rfl, rfl, rfl, rfl⟩ : 0 < ws.length ∧ confB l st rs ws = true ∧ m = l ∧ nr = now ∧ h = 0 ∧ cd = 16 := by
      rcases HCO.out with ⟨h, _⟩ | h | ⟨_, h, _⟩ | ⟨_, h, _⟩
      · omega
      · exact h
      all_goals rw [hC] at h; cases h
    clear HCO hC
    go_wp2_with fail
    refine bodyPost_ret (v := .tuple #[.agg #[.slice a m.length c, .int .i64 nr], .int .i64 0, .int .i64 16]) (by simp [results, Try.results64, go_sem, xc1]) rfl (CoS.same HS0.out ?_)
    repeat (refine Below.setCell ?_ (by first | omega | (simp <;> omega)) _)
    exact TB1.out
  by_cases h1 : now = 100000
  · obtain ⟨_, _, _, rfl, rfl, rfl, rfl⟩ : 0 < ws.length ∧ confB l st rs ws = false ∧ now = 100000 ∧ m = l ∧ nr = now ∧ h = 0 ∧ cd = 7 := by
      rcases HCO.out with ⟨h, _⟩ | ⟨_, h, _⟩ | h | ⟨_, _, h, _⟩
      · omega
      · rw [hC] at h; cases h
      · exact h
      · exact absurd h1 h
    have h1' : (nr == 100000) = true := by simpa using h1
    have HN1 : Hid (nr = 100000) := h1
    clear HCO hC h1
    go_wp2_with fail
    refine bodyPost_ret (v := .tuple #[.agg #[.slice a m.length c, .int .i64 nr], .int .i64 0, .int .i64 7]) (by first | (simp [results, Try.results64, go_sem, xc1]; done) | (simp [results, Try.results64, go_sem, xc1]; exact HN1.out.symm)) rfl (CoS.same HS0.out ?_)
    repeat (refine Below.setCell ?_ (by first | omega | (simp <;> omega)) _)
    exact TB1.out
  · obtain ⟨_, _, _, hm, hnr, hh, hcd⟩ : 0 < ws.length ∧ confB l st rs ws = false ∧ now ≠ 100000 ∧ m = wrAll (now + 1) l ws ∧ nr = now + 1 ∧ h = now + 1 ∧ cd = 0 := by
      rcases HCO.out with ⟨h, _⟩ | ⟨_, h, _⟩ | ⟨_, _, h, _⟩ | h
      · omega
      · rw [hC] at h; cases h
      · exact absurd h h1
      · exact h
    have h1' : (now == 100000) = false := by simpa using h1
    have HM : Hid (m = wrAll (now + 1) l ws) := hm
    have HNR : Hid (nr = now + 1) := hnr
    have HCD : Hid (h = nr ∧ cd = 0) := ⟨by omega, hcd⟩
    clear HCO hC h1 hm hnr hh hcd
    go_wp2_with fail
    have hbw := storeB_bd HSO.out
    have hnw := (storeB_all HSO.out).2.2.1
    have hnz := (storeB_all HSO.out).2.1
    have hqw := spec_l06Write a wa c wq l ws now _ TS1.out TT1.out.2 ⟨by have := H16.out; omega, fun x hx => by have := hbw x hx; omega⟩ hp0 (by have := (putsB_all HPO.out).1; omega) H16.out (fun i hi => putB_key ((putsB_all HPO.out).2 ws[i] (List.getElem_mem hi))) ⟨hnz, by omega⟩
    rw [← HM.out, ← HNR.out] at hqw
    refine hqw.mono ?_
    clear hqw hbw hnw hnz
    rintro e w2 ⟨v2, rfl, o2, hb2⟩
    obtain ⟨a2, c2, rfl, r2⟩ := o2.chRow2
    have R2 : Hid (ChRow w1.heap.size w2.heap.size w2 a2 m) := r2
    clear r2 o2
    have q2 : Hid (Below V.heap.size V w2) := q1.out.trans (hb2.mono (by omega))
    obtain ⟨t0, t1, t2, t3, t4, t5⟩ := KV.out _ q2.out
    have xa2 := fun o => row_cell t0 o
    have xb2 := fun o => row_cell t1 o
    have xc2 := fun o => row_cell t2 o
    have yc2 := fun o => row_frozen t2 o
    have TS2 : Hid (ChRow 0 w2.heap.size w2 a l) := t3
    have TT2 : Hid (TxRow 0 w2.heap.size w2 ra wa rs ws) := t4
    have TB2 : Hid (Below w.heap.size w w2) := t5
    have z2 := hb2.size
    clear t0 t1 t2 t3 t4 t5 hb2
    clear xa1 xb1 xc1 yc1
    go_upto_region 8 with fail
    obtain ⟨U, hU⟩ : ∃ x, x = w2.alloc (.cells #[.slice a2 m.length c2, .int .i64 nr] 34) := ⟨_, rfl⟩
    rw [← hU]
    have bU : Below w2.heap.size w2 U := by rw [hU]; exact (Below.refl _ _).alloc (Nat.le_refl _) _
    have cU : U.heap[w2.heap.size]? = some (.cells #[.slice a2 m.length c2, .int .i64 nr] 34 (0, 0)) := by rw [hU]; exact heap_alloc_new _ _
    have xU := fun o => row_cell cU o
    have zU := bU.size
    have qU : Hid (Below V.heap.size V U) := q2.out.trans (bU.mono (by omega))
    have tU := KV.out _ qU.out
    have rU := fun o => row_cell tU.2.2.1 o
    have yU := fun o => row_frozen tU.2.2.1 o
    have BU : Hid (Below w.heap.size w U) := tU.2.2.2.2.2
    have R2U : Hid (ChRow w1.heap.size w2.heap.size U a2 m) := ChRow.keep R2.out (agree bU (Nat.le_refl _))
    clear hU bU cU tU xa2 xb2 xc2 yc2
    have z1v := q1.out.size
    go_region_with fail
    all_goals (try go_wp2_with fail)
    all_goals
      refine bodyPost_ret (v := .tuple #[.agg #[.slice a2 m.length c2, .int .i64 nr], .int .i64 nr, .int .i64 0]) (by simp [results, Try.results64, go_sem, rU]) rfl ⟨⟨a2, c2, by rw [HCD.out.1, HCD.out.2], ?_⟩, ?_⟩
      · refine ChRow.wide (ChRow.keep R2U.out (fun k h1 h2 => ?_)) (Nat.zero_le _) (by show w2.heap.size ≤ ((U.setCell _ _).setCell _ _).heap.size; simp; omega)
        show ((U.setCell ⟨w.heap.size + 1 + 1, 0, none⟩ _).setCell ⟨w.heap.size + 1 + 1, 1, none⟩ _).heap[k]? = _
        rw [heap_set _ _ _ _ _ (by omega), heap_set _ _ _ _ _ (by omega)]
      · refine Below.drew ?_
        repeat (refine Below.setCell ?_ (by first | omega | (simp <;> omega)) _)
        exact BU.out
/-- What Commit answers: a store, an hour, a code. -/
def CtIs (l : Chs) (now st : Int) (rs : List Int) (ws : List Ve) (m : Chs) (nr h cd : Int) : Prop :=
  (txnB l now st rs ws = false ∧ m = [] ∧ nr = 0 ∧ h = 0 ∧ cd = 1) ∨ (txnB l now st rs ws = true ∧ CoIs l now st rs ws m nr h cd)
theorem CoIs.bd {l : Chs} {now st : Int} {rs : List Int} {ws : List Ve} {m : Chs} {nr h cd : Int} (hok : txnB l now st rs ws = true) (hc : CoIs l now st rs ws m nr h cd) : ChsBd 100400 m ∧ m.length = 16 := by
  have hal := txnB_all hok
  have hbd := storeB_bd hal.1
  have h16 := (storeB_all hal.1).1
  have hn := (storeB_all hal.1).2.2.1
  have h400 := (putsB_all hal.2.2.1).1
  have hl : ChsBd 100400 l ∧ l.length = 16 := ⟨⟨by omega, fun x hx => by have := hbd x hx; omega⟩, h16⟩
  rcases hc with ⟨_, rfl, _⟩ | ⟨_, _, rfl, _⟩ | ⟨_, _, _, rfl, _⟩ | ⟨_, _, _, rfl, _⟩
  · exact hl
  · exact hl
  · exact hl
  · refine ⟨⟨by rw [wrAll_len]; omega, fun x hx => ?_⟩, by rw [wrAll_len]; exact h16⟩
    have := wrAll_bd (t := now + 1) ws (l := l) (m := 100000) (fun y hy => by have := hbd y hy; omega) x hx
    omega
theorem ctIs (l : Chs) (now st : Int) (rs : List Int) (ws : List Ve) : ∃ m nr h cd, CtIs l now st rs ws m nr h cd ∧ ChsBd 1048576 m ∧ sizeN m ≤ 16777216 := by
  cases hT : txnB l now st rs ws
  · exact ⟨_, _, _, _, .inl ⟨hT, rfl, rfl, rfl, rfl⟩, ⟨Nat.zero_le _, by simp⟩, by simp [sizeN]⟩
  have fin : ∀ {m : Chs} {nr h cd : Int}, CoIs l now st rs ws m nr h cd → ∃ m nr h cd, CtIs l now st rs ws m nr h cd ∧ ChsBd 1048576 m ∧ sizeN m ≤ 16777216 := fun {m nr h cd} hc => by
    have hb := CoIs.bd hT hc
    refine ⟨m, nr, h, cd, .inr ⟨hT, hc⟩, ⟨by have := hb.1.1; omega, fun x hx => by have := hb.1.2 x hx; omega⟩, ?_⟩
    have := sizeN_le (l := m) (fun x hx => by have := hb.1.2 x hx; omega)
    have := hb.2
    omega
  by_cases h0 : ws.length = 0
  · exact fin (.inl ⟨h0, rfl, rfl, rfl, rfl⟩)
  cases hC : confB l st rs ws
  · by_cases h1 : now = 100000
    · exact fin (.inr (.inr (.inl ⟨by omega, hC, h1, rfl, rfl, rfl, rfl⟩)))
    · exact fin (.inr (.inr (.inr ⟨by omega, hC, h1, rfl, rfl, rfl, rfl⟩)))
  · exact fin (.inr (.inl ⟨by omega, hC, rfl, rfl, rfl, rfl⟩))
set_option maxHeartbeats 4000000 in
theorem spec_ct (a ra wa : Option Addr) (c rq wq : Nat) (l : Chs) (now st : Int) (rs : List Int) (ws : List Ve) (w : World) (hs : ChRow 0 w.heap.size w a l) (hsb : ChsBd 1048576 l) (hr : TxRow 0 w.heap.size w ra wa rs ws) (hbd : TxBd 1048576 rs ws) (hcap : rs.length ≤ rq) {m : Chs} {nr h cd : Int} (hc : CtIs l now st rs ws m nr h cd) :
    Calls Try.prog 29 #[.agg #[.slice a l.length c, .int .i64 now], .agg #[.int .i64 st, .slice ra rs.length rq, .slice wa ws.length wq]] w fun e w' => (∃ v, e = .returned (.tuple #[.agg #[v, .int .i64 nr], .int .i64 h, .int .i64 cd]) ∧ OwnK w.heap.size w' v m) ∧ Below w.heap.size w w' := by
  have HCO : Hid (CtIs l now st rs ws m nr h cd) := hc
  clear hc
  obtain ⟨V, hV⟩ : ∃ V, V = ((w.alloc (.cells #[.slice a l.length c, .int .i64 now] 34)).alloc (.cells #[.int .i64 st, .slice ra rs.length rq, .slice wa ws.length wq] 38)).alloc (.cells #[.slice none 0 0, .int .i64 0] 34) := ⟨_, rfl⟩
  have bV : Below w.heap.size w V := by
    rw [hV]
    repeat (first | exact Below.refl _ _ | refine Below.alloc ?_ (by first | omega | (simp <;> omega)) _)
  have zV : w.heap.size + 3 ≤ V.heap.size := by rw [hV]; simp
  have c0 : V.heap[w.heap.size]? = some (.cells #[.slice a l.length c, .int .i64 now] 34 (0, 0)) := by
    rw [hV, Below.heap_alloc _ _ _ (by simp <;> omega), Below.heap_alloc _ _ _ (by simp <;> omega)]; exact heap_alloc_new _ _
  have c1 : V.heap[w.heap.size + 1]? = some (.cells #[.int .i64 st, .slice ra rs.length rq, .slice wa ws.length wq] 38 (0, 0)) := by
    rw [hV, Below.heap_alloc _ _ _ (by simp <;> omega)]
    have := heap_alloc_new (w.alloc (.cells #[.slice a l.length c, .int .i64 now] 34)) (.cells #[.int .i64 st, .slice ra rs.length rq, .slice wa ws.length wq] 38)
    simpa using this
  have c2 : V.heap[w.heap.size + 1 + 1]? = some (.cells #[.slice none 0 0, .int .i64 0] 34 (0, 0)) := by
    rw [hV]
    have := heap_alloc_new ((w.alloc (.cells #[.slice a l.length c, .int .i64 now] 34)).alloc (.cells #[.int .i64 st, .slice ra rs.length rq, .slice wa ws.length wq] 38)) (.cells #[.slice none 0 0, .int .i64 0] 34)
    simpa using this
  have KV : Hid (∀ W, Below V.heap.size V W → W.heap[w.heap.size]? = some (.cells #[.slice a l.length c, .int .i64 now] 34 (0, 0)) ∧ W.heap[w.heap.size + 1]? = some (.cells #[.int .i64 st, .slice ra rs.length rq, .slice wa ws.length wq] 38 (0, 0)) ∧ W.heap[w.heap.size + 1 + 1]? = some (.cells #[.slice none 0 0, .int .i64 0] 34 (0, 0)) ∧ ChRow 0 W.heap.size W a l ∧ TxRow 0 W.heap.size W ra wa rs ws ∧ Below w.heap.size w W) := fun W h =>
    have hw := bV.trans (h.mono (by omega))
    ⟨(h.block _ (by omega)).trans c0, (h.block _ (by omega)).trans c1, (h.block _ (by omega)).trans c2, ChRow.up hs hw, TxRow.up hr hw, hw⟩
  have HE : Hid (ChsBd 1048576 l) := hsb
  have HD : Hid (TxBd 1048576 rs ws) := hbd
  have HW0 : Hid (TxRow 0 w.heap.size w ra wa rs ws) := hr
  have HS0 : Hid (ChRow 0 w.heap.size w a l) := hs
  have x0 := fun o => row_cell c0 o
  have x1 := fun o => row_cell c1 o
  have x2 := fun o => row_cell c2 o
  have y2 := fun o => row_frozen c2 o
  clear hs hr hbd hsb c0 c1 c2 bV
  go_enter Try.func29, Try.ntmps29
  go_upto_region 1 with fail
  rw [← hV]
  clear hV
  go_wp2_with fail
  refine (spec_txnOK a ra wa c rq wq l now st rs ws _ (KV.out _ (Below.refl _ _)).2.2.2.1 HE.out (KV.out _ (Below.refl _ _)).2.2.2.2.1 HD.out hcap).mono ?_
  rintro e w1 ⟨rfl, hb1⟩
  have q1 : Hid (Below V.heap.size V w1) := hb1
  obtain ⟨t0, t1, t2, t3, t4, t5⟩ := KV.out _ q1.out
  have xa1 := fun o => row_cell t0 o
  have xb1 := fun o => row_cell t1 o
  have xc1 := fun o => row_cell t2 o
  have yc1 := fun o => row_frozen t2 o
  have TS1 : Hid (ChRow 0 w1.heap.size w1 a l) := t3
  have TT1 : Hid (TxRow 0 w1.heap.size w1 ra wa rs ws) := t4
  have TB1 : Hid (Below w.heap.size w w1) := t5
  have z1 := hb1.size
  clear t0 t1 t2 t3 t4 t5 hb1
  clear x0 x1 x2 y2
  cases hS : txnB l now st rs ws
  · obtain ⟨_, rfl, rfl, rfl, rfl⟩ : txnB l now st rs ws = false ∧ m = [] ∧ nr = 0 ∧ h = 0 ∧ cd = 1 := by
      rcases HCO.out with h | ⟨h, _⟩
      · exact h
      · rw [hS] at h; cases h
    clear HCO hS
    go_wp2_with fail
    refine bodyPost_ret (v := .tuple #[.agg #[.slice none 0 0, .int .i64 0], .int .i64 0, .int .i64 1]) (by simp [results, Try.results29, go_sem, xc1]) rfl ⟨⟨_, rfl, [], ⟨rfl, .inl ⟨rfl, rfl⟩⟩, fun i x hx => by simp at hx⟩, ?_⟩
    repeat (refine Below.setCell ?_ (by first | omega | (simp <;> omega)) _)
    exact TB1.out
  · have hco : CoIs l now st rs ws m nr h cd := by
      rcases HCO.out with ⟨h, _⟩ | ⟨_, h⟩
      · rw [hS] at h; cases h
      · exact h
    have hbm := CoIs.bd hS hco
    have HBM : Hid (ChsBd 1048576 m) := ⟨by have := hbm.1.1; omega, fun x hx => by have := hbm.1.2 x hx; omega⟩
    have HS : Hid (txnB l now st rs ws = true) := hS
    have HC : Hid (CoIs l now st rs ws m nr h cd) := hco
    clear hco hS HCO hbm
    go_wp2_with fail
    refine (spec_co a ra wa c rq wq l now st rs ws _ TS1.out HE.out TT1.out HD.out hcap HS.out HC.out).mono ?_
    rintro e w2 ⟨⟨a2, c2, rfl, r2⟩, hb2⟩
    have R2 : Hid (ChRow 0 w2.heap.size w2 a2 m) := r2
    clear r2
    have q2 : Hid (Below V.heap.size V w2) := q1.out.trans (hb2.mono (by omega))
    obtain ⟨t0, t1, t2, t3, t4, t5⟩ := KV.out _ q2.out
    have xa2 := fun o => row_cell t0 o
    have xb2 := fun o => row_cell t1 o
    have xc2 := fun o => row_cell t2 o
    have yc2 := fun o => row_frozen t2 o
    have TS2 : Hid (ChRow 0 w2.heap.size w2 a l) := t3
    have TT2 : Hid (TxRow 0 w2.heap.size w2 ra wa rs ws) := t4
    have TB2 : Hid (Below w.heap.size w w2) := t5
    have z2 := hb2.size
    clear t0 t1 t2 t3 t4 t5 hb2
    clear xa1 xb1 xc1 yc1
    go_wp2_with fail
    obtain ⟨U, hU⟩ : ∃ x, x = w2.alloc (.cells #[.slice a2 m.length c2, .int .i64 nr] 34) := ⟨_, rfl⟩
    rw [← hU]
    have bU : Below w2.heap.size w2 U := by rw [hU]; exact (Below.refl _ _).alloc (Nat.le_refl _) _
    have zU := bU.size
    have qU : Hid (Below V.heap.size V U) := q2.out.trans (bU.mono (by omega))
    have R2U : Hid (ChRow 0 U.heap.size U a2 m) := ChRow.up R2.out bU
    clear hU bU
    refine (spec_l06Own a2 c2 m nr _ R2U.out HBM.out).mono ?_
    rintro e w3 ⟨v3, rfl, o3, hb3⟩
    obtain ⟨a3, c3, rfl, r3⟩ := o3.chRow2
    have R3 : Hid (OwnK U.heap.size w3 (.slice a3 m.length c3) m) := o3
    clear r3 o3
    have q3 : Hid (Below V.heap.size V w3) := qU.out.trans (hb3.mono (by have := qU.out.size; omega))
    obtain ⟨t0, t1, t2, t3, t4, t5⟩ := KV.out _ q3.out
    have xa3 := fun o => row_cell t0 o
    have xb3 := fun o => row_cell t1 o
    have xc3 := fun o => row_cell t2 o
    have yc3 := fun o => row_frozen t2 o
    have TS3 : Hid (ChRow 0 w3.heap.size w3 a l) := t3
    have TT3 : Hid (TxRow 0 w3.heap.size w3 ra wa rs ws) := t4
    have TB3 : Hid (Below w.heap.size w w3) := t5
    have z3 := hb3.size
    clear t0 t1 t2 t3 t4 t5 hb3
    clear xa2 xb2 xc2 yc2
    have z1v := qU.out.size
    go_wp2_with fail
    refine bodyPost_ret (v := .tuple #[.agg #[.slice a3 m.length c3, .int .i64 nr], .int .i64 h, .int .i64 cd]) (by simp [results, Try.results29, go_sem, xc3]) rfl ⟨⟨_, rfl, ?_⟩, ?_⟩
    · have mv : ∀ {W' : World}, W'.heap.size = w3.heap.size → (∀ k, U.heap.size ≤ k → W'.heap[k]? = w3.heap[k]?) → OwnK w.heap.size W' (.slice a3 m.length c3) m := fun {W'} hs hk => by
        obtain ⟨vs, h1, h2⟩ := OwnK.move R3.out (w' := W') (by omega) hk
        exact ⟨vs, own_low h1 (by omega), h2.low (by omega)⟩
      refine mv (by simp) (fun k hk => ?_)
      repeat rw [heap_set _ _ _ _ _ (by omega)]
    · repeat (refine Below.setCell ?_ (by first | omega | (simp <;> omega)) _)
      exact TB3.out
end Go.Proofs.Ytgffplbcpofkmaa.G
