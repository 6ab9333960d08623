/- Proved: at every store and transaction the law FnExactCommit returns true, and its arguments read afterwards as they read before. No conditions beyond the row's own. -/
import Derived.Test.YtgffplbcpofkmaaStTxRead
import Derived.Test.YtgffplbcpofkmaaStWaSpec
import Derived.Deep.CutBlock
import Derived.Deep.CutRange
import Derived.Test.YtgffplbcpofkmaaStWaImplTwo
import Derived.Test.YtgffplbcpofkmaaStHad
import Derived.Test.YtgffplbcpofkmaaStTxImplTwo
import Derived.Test.YtgffplbcpofkmaaStTx
import Derived.Test.YtgffplbcpofkmaaStWrJ
import Derived.Test.YtgffplbcpofkmaaGRegionFive
import Derived.Test.YtgffplbcpofkmaaStSz
import Derived.Test.YtgffplbcpofkmaaStTo
import Derived.Test.YtgffplbcpofkmaaStEq
import Derived.WalkKit
import Derived.ProofKit
import Derived.OpenShut
import Derived.ShutString
import Derived.ChangeOld
import Derived.Below
import Derived.Lib.SmallJoins
namespace Go.Proofs.Ytgffplbcpofkmaa.G
open Go.ChangeShapes Go.WideShapes Go.ChangeAt Go.RowKit
set_option linter.unusedVariables false

/-- A store, an hour and a code that a call tells. -/
def CoS (w : World) (m : Chs) (nr h cd : Int) (e : Ending) (w' : World) : Prop := (∃ a' c', e = .returned (.tuple #[.agg #[.slice a' m.length c', .int .i64 nr], .int .i64 h, .int .i64 cd]) ∧ ChRow 0 w'.heap.size w' a' m) ∧ Below w.heap.size w w'
/-- Where the call's own store lies: what is below stays, and the rows with it. -/
theorem CoS.same {w W' : World} {a : Option Addr} {c : Nat} {l : Chs} {now h cd : Int} (hr : ChRow 0 w.heap.size w a l) (hb : Below w.heap.size w W') : CoS w l now h cd (.returned (.tuple #[.agg #[.slice a l.length c, .int .i64 now], .int .i64 h, .int .i64 cd])) W' := ⟨⟨a, c, rfl, ChRow.up hr hb⟩, hb⟩
set_option maxHeartbeats 8000000 in
theorem spec_co (a ra wa : Option Addr) (c rq wq : Nat) (l : Chs) (now st : Int) (rs : List Int) (ws : List Ve) (w : World) (hs : ChRow 0 w.heap.size w a l) (hsb : ChsBd 1048576 l) (hr : TxRow 0 w.heap.size w ra wa rs ws) (hbd : TxBd 1048576 rs ws) (hcap : rs.length ≤ rq) (hok : txnB l now st rs ws = true) {m : Chs} {nr h cd : Int} (hc : CoIs l now st rs ws m nr h cd) :
    Calls Try.prog 64 #[.agg #[.slice a l.length c, .int .i64 now], .agg #[.int .i64 st, .slice ra rs.length rq, .slice wa ws.length wq]] w fun e w' => CoS w m nr h cd e w' := by
  have hal := txnB_all hok
  have H16 : Hid (l.length = 16) := (storeB_all hal.1).1
  have HSO : Hid (storeB l now = true) := hal.1
  have HPO : Hid (putsB ws = true) := hal.2.2.1
  have HRO : Hid (readsB rs = true) := hal.2.2.2
  have HCO : Hid (CoIs l now st rs ws m nr h cd) := hc
  clear hal hok hc
  obtain ⟨V, hV⟩ : ∃ V, V = ((w.alloc (.cells #[.slice a l.length c, .int .i64 now] 34)).alloc (.cells #[.int .i64 st, .slice ra rs.length rq, .slice wa ws.length wq] 38)).alloc (.cells #[.slice none 0 0, .int .i64 0] 34) := ⟨_, rfl⟩
  have bV : Below w.heap.size w V := by
    rw [hV]
    repeat (first | exact Below.refl _ _ | refine Below.alloc ?_ (by first | omega | (simp <;> omega)) _)
  have zV : w.heap.size + 3 ≤ V.heap.size := by rw [hV]; simp
  have c0 : V.heap[w.heap.size]? = some (.cells #[.slice a l.length c, .int .i64 now] 34 (0, 0)) := by
    rw [hV, Below.heap_alloc _ _ _ (by simp <;> omega), Below.heap_alloc _ _ _ (by simp <;> omega)]; exact heap_alloc_new _ _
  have c1 : V.heap[w.heap.size + 1]? = some (.cells #[.int .i64 st, .slice ra rs.length rq, .slice wa ws.length wq] 38 (0, 0)) := by
    rw [hV, Below.heap_alloc _ _ _ (by simp <;> omega)]
    have := heap_alloc_new (w.alloc (.cells #[.slice a l.length c, .int .i64 now] 34)) (.cells #[.int .i64 st, .slice ra rs.length rq, .slice wa ws.length wq] 38)
    simpa using this
  have c2 : V.heap[w.heap.size + 1 + 1]? = some (.cells #[.slice none 0 0, .int .i64 0] 34 (0, 0)) := by
    rw [hV]
    have := heap_alloc_new ((w.alloc (.cells #[.slice a l.length c, .int .i64 now] 34)).alloc (.cells #[.int .i64 st, .slice ra rs.length rq, .slice wa ws.length wq] 38)) (.cells #[.slice none 0 0, .int .i64 0] 34)
    simpa using this
  have KV : Hid (∀ W, Below V.heap.size V W → W.heap[w.heap.size]? = some (.cells #[.slice a l.length c, .int .i64 now] 34 (0, 0)) ∧ W.heap[w.heap.size + 1]? = some (.cells #[.int .i64 st, .slice ra rs.length rq, .slice wa ws.length wq] 38 (0, 0)) ∧ W.heap[w.heap.size + 1 + 1]? = some (.cells #[.slice none 0 0, .int .i64 0] 34 (0, 0)) ∧ ChRow 0 W.heap.size W a l ∧ TxRow 0 W.heap.size W ra wa rs ws ∧ Below w.heap.size w W) := fun W h =>
    have hw := bV.trans (h.mono (by omega))
    ⟨(h.block _ (by omega)).trans c0, (h.block _ (by omega)).trans c1, (h.block _ (by omega)).trans c2, ChRow.up hs hw, TxRow.up hr hw, hw⟩
  have HE : Hid (ChsBd 1048576 l) := hsb
  have HD : Hid (TxBd 1048576 rs ws) := hbd
  have HW0 : Hid (TxRow 0 w.heap.size w ra wa rs ws) := hr
  have HS0 : Hid (ChRow 0 w.heap.size w a l) := hs
  have x0 := fun o => row_cell c0 o
  have x1 := fun o => row_cell c1 o
  have x2 := fun o => row_cell c2 o
  have y2 := fun o => row_frozen c2 o
  clear hs hr hbd hsb c0 c1 c2 bV
  go_enter Try.func64, Try.ntmps64
  go_upto_region 1 with fail
  rw [← hV]
  clear hV
  by_cases h0 : ws.length = 0
  · obtain ⟨_, rfl, rfl, rfl, rfl⟩ : ws.length = 0 ∧ m = l ∧ nr = now ∧ h = st ∧ cd = 0 := by
      rcases HCO.out with h | ⟨h, _⟩ | ⟨h, _⟩ | ⟨h, _⟩
      · exact h
      all_goals omega
    have h0' : ((ws.length : Int) == 0) = true := by rw [h0]; rfl
    clear h0 HCO HPO
    go_upto_region 2 with fail
    go_region_with fail
    all_goals (try go_wp2_with fail)
    all_goals
      refine bodyPost_ret (v := .tuple #[.agg #[.slice a m.length c, .int .i64 nr], .int .i64 h, .int .i64 0]) (by simp [results, Try.results64, go_sem, x2]) rfl (CoS.same HS0.out ?_)
      refine Below.drew ?_
      repeat (refine Below.setCell ?_ (by first | omega | (simp <;> omega)) _)
      exact (KV.out _ (Below.refl _ _)).2.2.2.2.2
  have h0' : ((ws.length : Int) == 0) = false := by simp; intro e; rw [e] at h0; exact h0 rfl
  have hp0 : 0 < ws.length := by omega
  clear h0
  go_wp2_with fail
  refine (spec_conf a ra wa c rq wq l now st rs ws _ (KV.out _ (Below.refl _ _)).2.2.2.1 HE.out (KV.out _ (Below.refl _ _)).2.2.2.2.1 HD.out hcap H16.out HRO.out).mono ?_
  rintro e w1 ⟨rfl, hb1⟩
  have q1 : Hid (Below V.heap.size V w1) := hb1
  obtain ⟨t0, t1, t2, t3, t4, t5⟩ := KV.out _ q1.out
  have xa1 := fun o => row_cell t0 o
  have xb1 := fun o => row_cell t1 o
  have xc1 := fun o => row_cell t2 o
  have yc1 := fun o => row_frozen t2 o
  have TS1 : Hid (ChRow 0 w1.heap.size w1 a l) := t3
  have TT1 : Hid (TxRow 0 w1.heap.size w1 ra wa rs ws) := t4
  have TB1 : Hid (Below w.heap.size w w1) := t5
  have z1 := hb1.size
  clear t0 t1 t2 t3 t4 t5 hb1
  clear x0 x1 x2 y2
  cases hC : confB l st rs ws
  case true =>
    obtain ⟨_, _, rfl, rfl, rfl, rfl⟩ : 0 < ws.length ∧ confB l st rs ws = true ∧ m = l ∧ nr = now ∧ h = 0 ∧ cd = 16 := by
      rcases HCO.out with ⟨h, _⟩ | h | ⟨_, h, _⟩ | ⟨_, h, _⟩
      · omega
      · exact h
      all_goals rw [hC] at h; cases h
    clear HCO hC
    go_wp2_with fail
    refine bodyPost_ret (v := .tuple #[.agg #[.slice a m.length c, .int .i64 nr], .int .i64 0, .int .i64 16]) (by simp [results, Try.results64, go_sem, xc1]) rfl (CoS.same HS0.out ?_)
    repeat (refine Below.setCell ?_ (by first | omega | (simp <;> omega)) _)
    exact TB1.out
  by_cases h1 : now = 100000
  · obtain ⟨_, _, _, rfl, rfl, rfl, rfl⟩ : 0 < ws.length ∧ confB l st rs ws = false ∧ now = 100000 ∧ m = l ∧ nr = now ∧ h = 0 ∧ cd = 7 := by
      rcases HCO.out with ⟨h, _⟩ | ⟨_, h, _⟩ | h | ⟨_, _, h, _⟩
      · omega
      · rw [hC] at h; cases h
      · exact h
      · exact absurd h1 h
    have h1' : (nr == 100000) = true := by simpa using h1
    have HN1 : Hid (nr = 100000) := h1
    clear HCO hC h1
    go_wp2_with fail
    refine bodyPost_ret (v := .tuple #[.agg #[.slice a m.length c, .int .i64 nr], .int .i64 0, .int .i64 7]) (by first | (simp [results, Try.results64, go_sem, xc1]; done) | (simp [results, Try.results64, go_sem, xc1]; exact HN1.out.symm)) rfl (CoS.same HS0.out ?_)
    repeat (refine Below.setCell ?_ (by first | omega | (simp <;> omega)) _)
    exact TB1.out
  · obtain ⟨_, _, _, hm, hnr, hh, hcd⟩ : 0 < ws.length ∧ confB l st rs ws = false ∧ now ≠ 100000 ∧ m = wrAll (now + 1) l ws ∧ nr = now + 1 ∧ h = now + 1 ∧ cd = 0 := by
      rcases HCO.out with ⟨h, _⟩ | ⟨_, h, _⟩ | ⟨_, _, h, _⟩ | h
      · omega
      · rw [hC] at h; cases h
      · exact absurd h h1
      · exact h
    have h1' : (now == 100000) = false := by simpa using h1
    have HM : Hid (m = wrAll (now + 1) l ws) := hm
    have HNR : Hid (nr = now + 1) := hnr
    have HCD : Hid (h = nr ∧ cd = 0) := ⟨by omega, hcd⟩
    clear HCO hC h1 hm hnr hh hcd
    go_wp2_with fail
    have hbw := storeB_bd HSO.out
    have hnw := (storeB_all HSO.out).2.2.1
    have hnz := (storeB_all HSO.out).2.1
    have hqw := spec_l06Write a wa c wq l ws now _ TS1.out TT1.out.2 ⟨by have := H16.out; omega, fun x hx => by have := hbw x hx; omega⟩ hp0 (by have := (putsB_all HPO.out).1; omega) H16.out (fun i hi => putB_key ((putsB_all HPO.out).2 ws[i] (List.getElem_mem hi))) ⟨hnz, by omega⟩
    rw [← HM.out, ← HNR.out] at hqw
    refine hqw.mono ?_
    clear hqw hbw hnw hnz
    rintro e w2 ⟨v2, rfl, o2, hb2⟩
    obtain ⟨a2, c2, rfl, r2⟩ := o2.chRow2
    have R2 : Hid (ChRow w1.heap.size w2.heap.size w2 a2 m) := r2
    clear r2 o2
    have q2 : Hid (Below V.heap.size V w2) := q1.out.trans (hb2.mono (by omega))
    obtain ⟨t0, t1, t2, t3, t4, t5⟩ := KV.out _ q2.out
    have xa2 := fun o => row_cell t0 o
    have xb2 := fun o => row_cell t1 o
    have xc2 := fun o => row_cell t2 o
    have yc2 := fun o => row_frozen t2 o
    have TS2 : Hid (ChRow 0 w2.heap.size w2 a l) := t3
    have TT2 : Hid (TxRow 0 w2.heap.size w2 ra wa rs ws) := t4
    have TB2 : Hid (Below w.heap.size w w2) := t5
    have z2 := hb2.size
    clear t0 t1 t2 t3 t4 t5 hb2
    clear xa1 xb1 xc1 yc1
    go_upto_region 8 with fail
    obtain ⟨U, hU⟩ : ∃ x, x = w2.alloc (.cells #[.slice a2 m.length c2, .int .i64 nr] 34) := ⟨_, rfl⟩
    rw [← hU]
    have bU : Below w2.heap.size w2 U := by rw [hU]; exact (Below.refl _ _).alloc (Nat.le_refl _) _
    have cU : U.heap[w2.heap.size]? = some (.cells #[.slice a2 m.length c2, .int .i64 nr] 34 (0, 0)) := by rw [hU]; exact heap_alloc_new _ _
    have xU := fun o => row_cell cU o
    have zU := bU.size
    have qU : Hid (Below V.heap.size V U) := q2.out.trans (bU.mono (by omega))
    have tU := KV.out _ qU.out
    have rU := fun o => row_cell tU.2.2.1 o
    have yU := fun o => row_frozen tU.2.2.1 o
    have BU : Hid (Below w.heap.size w U) := tU.2.2.2.2.2
    have R2U : Hid (ChRow w1.heap.size w2.heap.size U a2 m) := ChRow.keep R2.out (agree bU (Nat.le_refl _))
    clear hU bU cU tU xa2 xb2 xc2 yc2
    have z1v := q1.out.size
    go_region_with fail
    all_goals (try go_wp2_with fail)
    all_goals
      refine bodyPost_ret (v := .tuple #[.agg #[.slice a2 m.length c2, .int .i64 nr], .int .i64 nr, .int .i64 0]) (by simp [results, Try.results64, go_sem, rU]) rfl ⟨⟨a2, c2, by rw [HCD.out.1, HCD.out.2], ?_⟩, ?_⟩
      · refine ChRow.wide (ChRow.keep R2U.out (fun k h1 h2 => ?_)) (Nat.zero_le _) (by show w2.heap.size ≤ ((U.setCell _ _).setCell _ _).heap.size; simp; omega)
        show ((U.setCell ⟨w.heap.size + 1 + 1, 0, none⟩ _).setCell ⟨w.heap.size + 1 + 1, 1, none⟩ _).heap[k]? = _
        rw [heap_set _ _ _ _ _ (by omega), heap_set _ _ _ _ _ (by omega)]
      · refine Below.drew ?_
        repeat (refine Below.setCell ?_ (by first | omega | (simp <;> omega)) _)
        exact BU.out
/-- What Commit answers: a store, an hour, a code. -/
def CtIs (l : Chs) (now st : Int) (rs : List Int) (ws : List Ve) (m : Chs) (nr h cd : Int) : Prop :=
  (txnB l now st rs ws = false ∧ m = [] ∧ nr = 0 ∧ h = 0 ∧ cd = 1) ∨ (txnB l now st rs ws = true ∧ CoIs l now st rs ws m nr h cd)
theorem CoIs.bd {l : Chs} {now st : Int} {rs : List Int} {ws : List Ve} {m : Chs} {nr h cd : Int} (hok : txnB l now st rs ws = true) (hc : CoIs l now st rs ws m nr h cd) : ChsBd 100400 m ∧ m.length = 16 := by
  have hal := txnB_all hok
  have hbd := storeB_bd hal.1
  have h16 := (storeB_all hal.1).1
  have hn := (storeB_all hal.1).2.2.1
  have h400 := (putsB_all hal.2.2.1).1
  have hl : ChsBd 100400 l ∧ l.length = 16 := ⟨⟨by omega, fun x hx => by have := hbd x hx; omega⟩, h16⟩
  rcases hc with ⟨_, rfl, _⟩ | ⟨_, _, rfl, _⟩ | ⟨_, _, _, rfl, _⟩ | ⟨_, _, _, rfl, _⟩
  · exact hl
  · exact hl
  · exact hl
  · refine ⟨⟨by rw [wrAll_len]; omega, fun x hx => ?_⟩, by rw [wrAll_len]; exact h16⟩
    have := wrAll_bd (t := now + 1) ws (l := l) (m := 100000) (fun y hy => by have := hbd y hy; omega) x hx
    omega
theorem ctIs (l : Chs) (now st : Int) (rs : List Int) (ws : List Ve) : ∃ m nr h cd, CtIs l now st rs ws m nr h cd ∧ ChsBd 1048576 m ∧ sizeN m ≤ 16777216 := by
  cases hT : txnB l now st rs ws
  · exact ⟨_, _, _, _, .inl ⟨hT, rfl, rfl, rfl, rfl⟩, ⟨Nat.zero_le _, by simp⟩, by simp [sizeN]⟩
  have fin : ∀ {m : Chs} {nr h cd : Int}, CoIs l now st rs ws m nr h cd → ∃ m nr h cd, CtIs l now st rs ws m nr h cd ∧ ChsBd 1048576 m ∧ sizeN m ≤ 16777216 := fun {m nr h cd} hc => by
    have hb := CoIs.bd hT hc
    refine ⟨m, nr, h, cd, .inr ⟨hT, hc⟩, ⟨by have := hb.1.1; omega, fun x hx => by have := hb.1.2 x hx; omega⟩, ?_⟩
    have := sizeN_le (l := m) (fun x hx => by have := hb.1.2 x hx; omega)
    have := hb.2
    omega
  by_cases h0 : ws.length = 0
  · exact fin (.inl ⟨h0, rfl, rfl, rfl, rfl⟩)
  cases hC : confB l st rs ws
  · by_cases h1 : now = 100000
    · exact fin (.inr (.inr (.inl ⟨by omega, hC, h1, rfl, rfl, rfl, rfl⟩)))
    · exact fin (.inr (.inr (.inr ⟨by omega, hC, h1, rfl, rfl, rfl, rfl⟩)))
  · exact fin (.inr (.inl ⟨by omega, hC, rfl, rfl, rfl, rfl⟩))
set_option maxHeartbeats 4000000 in
theorem spec_ct (a ra wa : Option Addr) (c rq wq : Nat) (l : Chs) (now st : Int) (rs : List Int) (ws : List Ve) (w : World) (hs : ChRow 0 w.heap.size w a l) (hsb : ChsBd 1048576 l) (hr : TxRow 0 w.heap.size w ra wa rs ws) (hbd : TxBd 1048576 rs ws) (hcap : rs.length ≤ rq) {m : Chs} {nr h cd : Int} (hc : CtIs l now st rs ws m nr h cd) :
    Calls Try.prog 29 #[.agg #[.slice a l.length c, .int .i64 now], .agg #[.int .i64 st, .slice ra rs.length rq, .slice wa ws.length wq]] w fun e w' => (∃ v, e = .returned (.tuple #[.agg #[v, .int .i64 nr], .int .i64 h, .int .i64 cd]) ∧ OwnK w.heap.size w' v m) ∧ Below w.heap.size w w' := by
  have HCO : Hid (CtIs l now st rs ws m nr h cd) := hc
  clear hc
  obtain ⟨V, hV⟩ : ∃ V, V = ((w.alloc (.cells #[.slice a l.length c, .int .i64 now] 34)).alloc (.cells #[.int .i64 st, .slice ra rs.length rq, .slice wa ws.length wq] 38)).alloc (.cells #[.slice none 0 0, .int .i64 0] 34) := ⟨_, rfl⟩
  have bV : Below w.heap.size w V := by
    rw [hV]
    repeat (first | exact Below.refl _ _ | refine Below.alloc ?_ (by first | omega | (simp <;> omega)) _)
  have zV : w.heap.size + 3 ≤ V.heap.size := by rw [hV]; simp
  have c0 : V.heap[w.heap.size]? = some (.cells #[.slice a l.length c, .int .i64 now] 34 (0, 0)) := by
    rw [hV, Below.heap_alloc _ _ _ (by simp <;> omega), Below.heap_alloc _ _ _ (by simp <;> omega)]; exact heap_alloc_new _ _
  have c1 : V.heap[w.heap.size + 1]? = some (.cells #[.int .i64 st, .slice ra rs.length rq, .slice wa ws.length wq] 38 (0, 0)) := by
    rw [hV, Below.heap_alloc _ _ _ (by simp <;> omega)]
    have := heap_alloc_new (w.alloc (.cells #[.slice a l.length c, .int .i64 now] 34)) (.cells #[.int .i64 st, .slice ra rs.length rq, .slice wa ws.length wq] 38)
    simpa using this
  have c2 : V.heap[w.heap.size + 1 + 1]? = some (.cells #[.slice none 0 0, .int .i64 0] 34 (0, 0)) := by
    rw [hV]
    have := heap_alloc_new ((w.alloc (.cells #[.slice a l.length c, .int .i64 now] 34)).alloc (.cells #[.int .i64 st, .slice ra rs.length rq, .slice wa ws.length wq] 38)) (.cells #[.slice none 0 0, .int .i64 0] 34)
    simpa using this
  have KV : Hid (∀ W, Below V.heap.size V W → W.heap[w.heap.size]? = some (.cells #[.slice a l.length c, .int .i64 now] 34 (0, 0)) ∧ W.heap[w.heap.size + 1]? = some (.cells #[.int .i64 st, .slice ra rs.length rq, .slice wa ws.length wq] 38 (0, 0)) ∧ W.heap[w.heap.size + 1 + 1]? = some (.cells #[.slice none 0 0, .int .i64 0] 34 (0, 0)) ∧ ChRow 0 W.heap.size W a l ∧ TxRow 0 W.heap.size W ra wa rs ws ∧ Below w.heap.size w W) := fun W h =>
    have hw := bV.trans (h.mono (by omega))
    ⟨(h.block _ (by omega)).trans c0, (h.block _ (by omega)).trans c1, (h.block _ (by omega)).trans c2, ChRow.up hs hw, TxRow.up hr hw, hw⟩
  have HE : Hid (ChsBd 1048576 l) := hsb
  have HD : Hid (TxBd 1048576 rs ws) := hbd
  have HW0 : Hid (TxRow 0 w.heap.size w ra wa rs ws) := hr
  have HS0 : Hid (ChRow 0 w.heap.size w a l) := hs
  have x0 := fun o => row_cell c0 o
  have x1 := fun o => row_cell c1 o
  have x2 := fun o => row_cell c2 o
  have y2 := fun o => row_frozen c2 o
  clear hs hr hbd hsb c0 c1 c2 bV
  go_enter Try.func29, Try.ntmps29
  go_upto_region 1 with fail
  rw [← hV]
  clear hV
  go_wp2_with fail
  refine (spec_txnOK a ra wa c rq wq l now st rs ws _ (KV.out _ (Below.refl _ _)).2.2.2.1 HE.out (KV.out _ (Below.refl _ _)).2.2.2.2.1 HD.out hcap).mono ?_
  rintro e w1 ⟨rfl, hb1⟩
  have q1 : Hid (Below V.heap.size V w1) := hb1
  obtain ⟨t0, t1, t2, t3, t4, t5⟩ := KV.out _ q1.out
  have xa1 := fun o => row_cell t0 o
  have xb1 := fun o => row_cell t1 o
  have xc1 := fun o => row_cell t2 o
  have yc1 := fun o => row_frozen t2 o
  have TS1 : Hid (ChRow 0 w1.heap.size w1 a l) := t3
  have TT1 : Hid (TxRow 0 w1.heap.size w1 ra wa rs ws) := t4
  have TB1 : Hid (Below w.heap.size w w1) := t5
  have z1 := hb1.size
  clear t0 t1 t2 t3 t4 t5 hb1
  clear x0 x1 x2 y2
  cases hS : txnB l now st rs ws
  · obtain ⟨_, rfl, rfl, rfl, rfl⟩ : txnB l now st rs ws = false ∧ m = [] ∧ nr = 0 ∧ h = 0 ∧ cd = 1 := by
      rcases HCO.out with h | ⟨h, _⟩
      · exact h
      · rw [hS] at h; cases h
    clear HCO hS
    go_wp2_with fail
    refine bodyPost_ret (v := .tuple #[.agg #[.slice none 0 0, .int .i64 0], .int .i64 0, .int .i64 1]) (by simp [results, Try.results29, go_sem, xc1]) rfl ⟨⟨_, rfl, [], ⟨rfl, .inl ⟨rfl, rfl⟩⟩, fun i x hx => by simp at hx⟩, ?_⟩
    repeat (refine Below.setCell ?_ (by first | omega | (simp <;> omega)) _)
    exact TB1.out
  · have hco : CoIs l now st rs ws m nr h cd := by
      rcases HCO.out with ⟨h, _⟩ | ⟨_, h⟩
      · rw [hS] at h; cases h
      · exact h
    have hbm := CoIs.bd hS hco
    have HBM : Hid (ChsBd 1048576 m) := ⟨by have := hbm.1.1; omega, fun x hx => by have := hbm.1.2 x hx; omega⟩
    have HS : Hid (txnB l now st rs ws = true) := hS
    have HC : Hid (CoIs l now st rs ws m nr h cd) := hco
    clear hco hS HCO hbm
    go_wp2_with fail
    refine (spec_co a ra wa c rq wq l now st rs ws _ TS1.out HE.out TT1.out HD.out hcap HS.out HC.out).mono ?_
    rintro e w2 ⟨⟨a2, c2, rfl, r2⟩, hb2⟩
    have R2 : Hid (ChRow 0 w2.heap.size w2 a2 m) := r2
    clear r2
    have q2 : Hid (Below V.heap.size V w2) := q1.out.trans (hb2.mono (by omega))
    obtain ⟨t0, t1, t2, t3, t4, t5⟩ := KV.out _ q2.out
    have xa2 := fun o => row_cell t0 o
    have xb2 := fun o => row_cell t1 o
    have xc2 := fun o => row_cell t2 o
    have yc2 := fun o => row_frozen t2 o
    have TS2 : Hid (ChRow 0 w2.heap.size w2 a l) := t3
    have TT2 : Hid (TxRow 0 w2.heap.size w2 ra wa rs ws) := t4
    have TB2 : Hid (Below w.heap.size w w2) := t5
    have z2 := hb2.size
    clear t0 t1 t2 t3 t4 t5 hb2
    clear xa1 xb1 xc1 yc1
    go_wp2_with fail
    obtain ⟨U, hU⟩ : ∃ x, x = w2.alloc (.cells #[.slice a2 m.length c2, .int .i64 nr] 34) := ⟨_, rfl⟩
    rw [← hU]
    have bU : Below w2.heap.size w2 U := by rw [hU]; exact (Below.refl _ _).alloc (Nat.le_refl _) _
    have zU := bU.size
    have qU : Hid (Below V.heap.size V U) := q2.out.trans (bU.mono (by omega))
    have R2U : Hid (ChRow 0 U.heap.size U a2 m) := ChRow.up R2.out bU
    clear hU bU
    refine (spec_l06Own a2 c2 m nr _ R2U.out HBM.out).mono ?_
    rintro e w3 ⟨v3, rfl, o3, hb3⟩
    obtain ⟨a3, c3, rfl, r3⟩ := o3.chRow2
    have R3 : Hid (OwnK U.heap.size w3 (.slice a3 m.length c3) m) := o3
    clear r3 o3
    have q3 : Hid (Below V.heap.size V w3) := qU.out.trans (hb3.mono (by have := qU.out.size; omega))
    obtain ⟨t0, t1, t2, t3, t4, t5⟩ := KV.out _ q3.out
    have xa3 := fun o => row_cell t0 o
    have xb3 := fun o => row_cell t1 o
    have xc3 := fun o => row_cell t2 o
    have yc3 := fun o => row_frozen t2 o
    have TS3 : Hid (ChRow 0 w3.heap.size w3 a l) := t3
    have TT3 : Hid (TxRow 0 w3.heap.size w3 ra wa rs ws) := t4
    have TB3 : Hid (Below w.heap.size w w3) := t5
    have z3 := hb3.size
    clear t0 t1 t2 t3 t4 t5 hb3
    clear xa2 xb2 xc2 yc2
    have z1v := qU.out.size
    go_wp2_with fail
    refine bodyPost_ret (v := .tuple #[.agg #[.slice a3 m.length c3, .int .i64 nr], .int .i64 h, .int .i64 cd]) (by simp [results, Try.results29, go_sem, xc3]) rfl ⟨⟨_, rfl, ?_⟩, ?_⟩
    · have mv : ∀ {W' : World}, W'.heap.size = w3.heap.size → (∀ k, U.heap.size ≤ k → W'.heap[k]? = w3.heap[k]?) → OwnK w.heap.size W' (.slice a3 m.length c3) m := fun {W'} hs hk => by
        obtain ⟨vs, h1, h2⟩ := OwnK.move R3.out (w' := W') (by omega) hk
        exact ⟨vs, own_low h1 (by omega), h2.low (by omega)⟩
      refine mv (by simp) (fun k hk => ?_)
      repeat rw [heap_set _ _ _ _ _ (by omega)]
    · repeat (refine Below.setCell ?_ (by first | omega | (simp <;> omega)) _)
      exact TB3.out
end Go.Proofs.Ytgffplbcpofkmaa.G
namespace Go.Proofs.Ytgffplbcpofkmaa.G
open Go.ChangeShapes Go.WideShapes Go.ChangeAt Go.RowKit
set_option linter.unusedVariables false

/-- What WriteAll answers: a store, an hour, a code. -/
def WaIs (l : Chs) (now : Int) (ps : List Ve) (m : Chs) (nr h cd : Int) : Prop :=
  (4096 < ps.length ∧ m = [] ∧ nr = 0 ∧ h = 0 ∧ cd = 2) ∨
  (ps.length ≤ 4096 ∧ storeB l now = false ∧ m = [] ∧ nr = 0 ∧ h = 0 ∧ cd = 1) ∨
  (ps.length ≤ 4096 ∧ storeB l now = true ∧ putsB ps = false ∧ m = [] ∧ nr = 0 ∧ h = 0 ∧ cd = 4) ∨
  (ps.length ≤ 4096 ∧ storeB l now = true ∧ putsB ps = true ∧ now = 100000 ∧ m = l ∧ nr = now ∧ h = 0 ∧ cd = 7) ∨
  (ps.length = 0 ∧ storeB l now = true ∧ putsB ps = true ∧ now ≠ 100000 ∧ m = l ∧ nr = now ∧ h = now ∧ cd = 0) ∨
  (0 < ps.length ∧ ps.length ≤ 4096 ∧ storeB l now = true ∧ putsB ps = true ∧ now ≠ 100000 ∧ m = wrAll (now + 1) l ps ∧ nr = now + 1 ∧ h = now + 1 ∧ cd = 0)
theorem store_small {l : Chs} {now : Int} (h : storeB l now = true) : ChsBd 100000 l := by
  have hbd := storeB_bd h
  have hn := (storeB_all h).2.2.1
  exact ⟨by have := (storeB_all h).1; omega, fun x hx => by have := hbd x hx; omega⟩
theorem wr_small {l : Chs} {now : Int} {ps : List Ve} (h : storeB l now = true) (hp : putsB ps = true) : ChsBd 100400 (wrAll (now + 1) l ps) := by
  refine ⟨by rw [wrAll_len]; have := (storeB_all h).1; omega, fun x hx => ?_⟩
  have := wrAll_bd (t := now + 1) ps (store_small h).2 x hx
  have := (putsB_all hp).1
  omega
theorem sizeN_16 {m : Chs} (h : ChsBd 100400 m) (h16 : m.length = 16) : sizeN m ≤ 16777216 := by
  have := sizeN_le (l := m) (fun x hx => by have := h.2 x hx; omega)
  omega
theorem waIs (l : Chs) (now : Int) (ps : List Ve) : ∃ m nr h cd, WaIs l now ps m nr h cd ∧ ChsBd 1048576 m ∧ sizeN m ≤ 16777216 := by
  have none_ : ChsBd 1048576 ([] : Chs) ∧ sizeN ([] : Chs) ≤ 16777216 := ⟨⟨Nat.zero_le _, by simp⟩, by simp [sizeN]⟩
  by_cases h1 : 4096 < ps.length
  · exact ⟨_, _, _, _, .inl ⟨h1, rfl, rfl, rfl, rfl⟩, none_⟩
  cases h2 : storeB l now
  · exact ⟨_, _, _, _, .inr (.inl ⟨by omega, h2, rfl, rfl, rfl, rfl⟩), none_⟩
  cases h3 : putsB ps
  · exact ⟨_, _, _, _, .inr (.inr (.inl ⟨by omega, h2, h3, rfl, rfl, rfl, rfl⟩)), none_⟩
  have hs := store_small h2
  have h16 := (storeB_all h2).1
  have hl : ChsBd 1048576 l ∧ sizeN l ≤ 16777216 := ⟨⟨by omega, fun x hx => by have := hs.2 x hx; omega⟩, sizeN_16 ⟨by omega, fun x hx => by have := hs.2 x hx; omega⟩ h16⟩
  by_cases h4 : now = 100000
  · exact ⟨_, _, _, _, .inr (.inr (.inr (.inl ⟨by omega, h2, h3, h4, rfl, rfl, rfl, rfl⟩))), hl⟩
  by_cases h0 : ps.length = 0
  · exact ⟨_, _, _, _, .inr (.inr (.inr (.inr (.inl ⟨h0, h2, h3, h4, rfl, rfl, rfl, rfl⟩)))), hl⟩
  · have hw := wr_small h2 h3
    exact ⟨_, _, _, _, .inr (.inr (.inr (.inr (.inr ⟨by omega, by omega, h2, h3, h4, rfl, rfl, rfl, rfl⟩)))), ⟨by have := hw.1; omega, fun x hx => by have := hw.2 x hx; omega⟩, sizeN_16 hw (by rw [wrAll_len]; exact h16)⟩
set_option maxHeartbeats 1000000 in
theorem impl_wa (a pa : Option Addr) (c pc : Nat) (l : Chs) (ps : List Ve) (now : Int) (w : World) (hr : ChRow 0 w.heap.size w a l) (hp : VeRow 0 w.heap.size w pa ps) (hbd : ChsBd 1048576 l) (hpl : ps.length ≤ 1048576) {m : Chs} {nr h cd : Int} (hw : WaIs l now ps m nr h cd) :
    Calls Try.prog 67 #[.agg #[.slice a l.length c, .int .i64 now], .slice pa ps.length pc] w fun e w' => ∃ a' c' bs, e = .returned (.tuple #[.agg #[.slice a' m.length c', .int .i64 nr], .int .i64 h, .int .i64 cd]) ∧ StHas w.heap.size w'.heap.size w' a' m bs ∧ Below w.heap.size w w' := by
  rcases hw with ⟨h1, rfl, rfl, rfl, rfl⟩ | ⟨h1, h2, rfl, rfl, rfl, rfl⟩ | ⟨h1, h2, h3, rfl, rfl, rfl, rfl⟩ | ⟨h1, h2, h3, h4, rfl, rfl, rfl, rfl⟩ | ⟨h0, h2, h3, h4, rfl, rfl, rfl, rfl⟩ | ⟨h0, h1, h2, h3, h4, rfl, rfl, rfl, rfl⟩
  · exact (impl_wa_long a pa c pc l ps now w hr hp hbd hpl h1).mono (by rintro e w' ⟨rfl, hb⟩; exact ⟨none, 0, fun _ => 0, rfl, .inl rfl, hb⟩)
  · exact (impl_wa_bad a pa c pc l ps now w hr hp hbd hpl h1 h2).mono (by rintro e w' ⟨rfl, hb⟩; exact ⟨none, 0, fun _ => 0, rfl, .inl rfl, hb⟩)
  · exact (impl_wa_range a pa c pc l ps now w hr hp hbd hpl h1 h2 h3).mono (by rintro e w' ⟨rfl, hb⟩; exact ⟨none, 0, fun _ => 0, rfl, .inl rfl, hb⟩)
  · exact (impl_wa_full a pa c pc _ ps _ w hr hp hbd hpl h1 h2 h3 h4).mono (by rintro e w' ⟨g, bs, rfl, hs, hb⟩; exact ⟨_, _, bs, rfl, .inr hs.own, hb⟩)
  · exact (impl_wa_nil a pa c pc _ ps _ w hr hp hbd hpl h0 h2 h3 h4).mono (by rintro e w' ⟨g, bs, rfl, hs, hb⟩; exact ⟨_, _, bs, rfl, .inr hs.own, hb⟩)
  · refine (impl_wa_some a pa c pc l ps now w hr hp hbd hpl h0 h1 h2 h3 h4).mono ?_
    rintro e w' ⟨g, bs, rfl, hs, hb⟩
    exact ⟨_, _, bs, by rw [wrAll_len], .inr hs.own, hb⟩
end Go.Proofs.Ytgffplbcpofkmaa.G
namespace Go.Proofs.Ytgffplbcpofkmaa.G
open Go.ChangeShapes Go.WideShapes Go.ChangeAt Go.RowKit
set_option linter.unusedVariables false

set_option maxHeartbeats 8000000 in
theorem impl_ct (a ra wa : Option Addr) (c rq wq : Nat) (l : Chs) (now st : Int) (rs : List Int) (ws : List Ve) (m : Chs) (nr h cd : Int) (w : World) (hs : ChRow 0 w.heap.size w a l) (hsb : ChsBd 1048576 l) (hr : TxRow 0 w.heap.size w ra wa rs ws) (hbd : TxBd 1048576 rs ws) (hcap : rs.length ≤ rq) (hct : CtIs l now st rs ws m nr h cd) :
    Calls Try.prog 30 #[.agg #[.slice a l.length c, .int .i64 now], .agg #[.int .i64 st, .slice ra rs.length rq, .slice wa ws.length wq]] w fun e w' => ∃ a' c' bs, e = .returned (.tuple #[.agg #[.slice a' m.length c', .int .i64 nr], .int .i64 h, .int .i64 cd]) ∧ StHas w.heap.size w'.heap.size w' a' m bs ∧ Below w.heap.size w w' := by
  have HI : Hid _ := hct
  clear hct
  obtain ⟨V, hV⟩ : ∃ V, V = ((w.alloc (.cells #[.slice a l.length c, .int .i64 now] 34)).alloc (.cells #[.int .i64 st, .slice ra rs.length rq, .slice wa ws.length wq] 38)).alloc (.cells #[.slice none 0 0, .int .i64 0] 34) := ⟨_, rfl⟩
  have bV : Below w.heap.size w V := by
    rw [hV]
    repeat (first | exact Below.refl _ _ | refine Below.alloc ?_ (by first | omega | (simp <;> omega)) _)
  have zV : w.heap.size + 3 ≤ V.heap.size := by rw [hV]; simp
  have c0 : V.heap[w.heap.size]? = some (.cells #[.slice a l.length c, .int .i64 now] 34 (0, 0)) := by
    rw [hV, Below.heap_alloc _ _ _ (by simp <;> omega), Below.heap_alloc _ _ _ (by simp <;> omega)]; exact heap_alloc_new _ _
  have c1 : V.heap[w.heap.size + 1]? = some (.cells #[.int .i64 st, .slice ra rs.length rq, .slice wa ws.length wq] 38 (0, 0)) := by
    rw [hV, Below.heap_alloc _ _ _ (by simp <;> omega)]
    have := heap_alloc_new (w.alloc (.cells #[.slice a l.length c, .int .i64 now] 34)) (.cells #[.int .i64 st, .slice ra rs.length rq, .slice wa ws.length wq] 38)
    simpa using this
  have c2 : V.heap[w.heap.size + 1 + 1]? = some (.cells #[.slice none 0 0, .int .i64 0] 34 (0, 0)) := by
    rw [hV]
    have := heap_alloc_new ((w.alloc (.cells #[.slice a l.length c, .int .i64 now] 34)).alloc (.cells #[.int .i64 st, .slice ra rs.length rq, .slice wa ws.length wq] 38)) (.cells #[.slice none 0 0, .int .i64 0] 34)
    simpa using this
  have KV : Hid (∀ W, Below V.heap.size V W → W.heap[w.heap.size]? = some (.cells #[.slice a l.length c, .int .i64 now] 34 (0, 0)) ∧ W.heap[w.heap.size + 1]? = some (.cells #[.int .i64 st, .slice ra rs.length rq, .slice wa ws.length wq] 38 (0, 0)) ∧ W.heap[w.heap.size + 1 + 1]? = some (.cells #[.slice none 0 0, .int .i64 0] 34 (0, 0)) ∧ ChRow 0 W.heap.size W a l ∧ TxRow 0 W.heap.size W ra wa rs ws ∧ Below w.heap.size w W) := fun W h =>
    have hw := bV.trans (h.mono (by omega))
    ⟨(h.block _ (by omega)).trans c0, (h.block _ (by omega)).trans c1, (h.block _ (by omega)).trans c2, ChRow.up hs hw, TxRow.up hr hw, hw⟩
  have HE : Hid (ChsBd 1048576 l) := hsb
  have HD : Hid (TxBd 1048576 rs ws) := hbd
  have x0 := fun o => row_cell c0 o
  have x1 := fun o => row_cell c1 o
  clear hs hr hbd hsb c0 c1 c2 bV
  go_enter Try.func30, Try.ntmps30
  go_upto_region 1 with fail
  rw [← hV]
  clear hV
  go_wp2_with fail
  refine (impl_txnOK a ra wa c rq wq l now st rs ws _ (KV.out _ (Below.refl _ _)).2.2.2.1 HE.out (KV.out _ (Below.refl _ _)).2.2.2.2.1 HD.out hcap).mono ?_
  rintro e w1 ⟨rfl, hb1⟩
  have q1 : Hid (Below V.heap.size V w1) := hb1
  have z1 := hb1.size
  have xa1 := fun o => row_cell (KV.out _ q1.out).1 o
  have xb1 := fun o => row_cell (KV.out _ q1.out).2.1 o
  have xc1 := fun o => row_cell (KV.out _ q1.out).2.2.1 o
  have yc1 := fun o => row_frozen (KV.out _ q1.out).2.2.1 o
  have TB1 : Hid (Below w.heap.size w w1) := (KV.out _ q1.out).2.2.2.2.2
  clear hb1 x0 x1
  cases hS : txnB l now st rs ws
  · obtain ⟨_, rfl, rfl, rfl, rfl⟩ : txnB l now st rs ws = false ∧ m = [] ∧ nr = 0 ∧ h = 0 ∧ cd = 1 := by
      rcases HI.out with h | ⟨h, _⟩
      · exact h
      · rw [hS] at h; cases h
    clear HI hS
    go_wp2_with fail
    refine bodyPost_ret (v := .tuple #[.agg #[.slice none 0 0, .int .i64 0], .int .i64 0, .int .i64 1]) (by simp [results, Try.results30, go_sem, xc1]) rfl ⟨none, 0, fun _ => 0, rfl, .inl rfl, ?_⟩
    repeat (refine Below.setCell ?_ (by first | omega | (simp <;> omega)) _)
    exact TB1.out
  have HS : Hid (txnB l now st rs ws = true) := hS
  have HC : Hid (CoIs l now st rs ws m nr h cd) := by
    rcases HI.out with ⟨h, _⟩ | ⟨_, h⟩
    · rw [hS] at h; cases h
    · exact h
  have hal := txnB_all hS
  have HST : Hid (storeB l now = true) := hal.1
  have HPU : Hid (putsB ws = true) := hal.2.2.1
  have hwl : ws.length ≤ 400 := (putsB_all hal.2.2.1).1
  clear hS hal HI
  by_cases h0 : ws.length = 0
  · obtain ⟨e1, e2, e3, rfl⟩ : m = l ∧ nr = now ∧ h = st ∧ cd = 0 := by
      rcases HC.out with ⟨_, h1⟩ | ⟨h1, _⟩ | ⟨h1, _⟩ | ⟨h1, _⟩
      · exact h1
      all_goals omega
    replace e1 := e1.symm
    replace e2 := e2.symm
    replace e3 := e3.symm
    subst e1 e2 e3
    have h0' : ((ws.length : Int) == 0) = true := beq_iff_eq.2 (by omega)
    clear HC h0
    go_upto_region 4 with fail
    go_region_with (first
      | (go_at_call 66
         refine Calls.mono (impl_copyStore a c l now _ (KV.out _ q1.out.drew).2.2.2.1 HE.out) ?_
         rintro e v2 ⟨g, bs, rfl, p2, hb2⟩
         have P2 : Hid (StP w1.heap.size v2 g l bs) := p2
         have q2 : Hid (Below V.heap.size V v2) := q1.out.drew.trans (hb2.mono z1)
         have z2 := hb2.size
         have kb := fun o => row_cell (KV.out _ q2.out).2.1 o
         have kz := fun o => row_cell (KV.out _ q2.out).2.2.1 o
         have kf := fun o => row_frozen (KV.out _ q2.out).2.2.1 o
         have BW : Hid (Below w.heap.size w v2) := (KV.out _ q2.out).2.2.2.2.2
         clear p2 hb2))
    all_goals (try go_wp2_with fail)
    all_goals (refine bodyPost_ret (v := .tuple #[.agg #[.slice (some ⟨g, 0, none⟩) l.length l.length, .int .i64 now], .int .i64 st, .int .i64 0]) (by simp [results, Try.results30, go_sem, kz]) rfl ⟨_, _, bs, rfl, .inr (StP.own (StP.low (StP.move P2.out (by simp) (fun j h1 h2 => ?_)) (by omega))), ?_⟩)
    all_goals (first
      | (repeat (refine Below.setCell ?_ (by first | omega | (simp <;> omega)) _)
         exact BW.out)
      | (repeat rw [heap_set _ _ _ _ _ (by omega)]))
  have h0' : ((ws.length : Int) == 0) = false := beq_eq_false_iff_ne.2 (by omega)
  go_wp2_with fail
  refine (conf_any a ra wa c rq wq l now st rs ws _ (KV.out _ q1.out).2.2.2.1 HE.out (KV.out _ q1.out).2.2.2.2.1 HD.out HS.out).mono ?_
  rintro e w2 ⟨rfl, hb2⟩
  have z2 := hb2.size
  have q2 : Hid (Below V.heap.size V w2) := q1.out.trans (hb2.mono z1)
  have xa2 := fun o => row_cell (KV.out _ q2.out).1 o
  have xb2 := fun o => row_cell (KV.out _ q2.out).2.1 o
  clear hb2 xa1 xb1 xc1 yc1
  cases hF : confB l st rs ws
  · have HW : Hid (WaIs l now ws m nr h cd) := by
      rcases HC.out with ⟨h1, _⟩ | ⟨_, h1, _⟩ | ⟨h1, _, h2, h3⟩ | ⟨h1, _, h2, h3⟩
      · exact absurd h1 h0
      · rw [hF] at h1; cases h1
      · exact .inr (.inr (.inr (.inl ⟨by omega, HST.out, HPU.out, h2, h3⟩)))
      · exact .inr (.inr (.inr (.inr (.inr ⟨h1, by omega, HST.out, HPU.out, h2, h3⟩))))
    clear HC hF h0 h0'
    go_wp2_with fail
    refine (impl_wa a wa c wq l ws now _ (KV.out _ q2.out).2.2.2.1 (KV.out _ q2.out).2.2.2.2.1.2 HE.out (by omega) HW.out).mono ?_
    rintro e w3 ⟨a3, c3, bs, rfl, p3, hb3⟩
    have P3 : Hid (StHas w2.heap.size w3.heap.size w3 a3 m bs) := p3
    have z3 := hb3.size
    have q3 : Hid (Below V.heap.size V w3) := q2.out.trans (hb3.mono (by omega))
    have kz := fun o => row_cell (KV.out _ q3.out).2.2.1 o
    have kf := fun o => row_frozen (KV.out _ q3.out).2.2.1 o
    have BW : Hid (Below w.heap.size w w3) := (KV.out _ q3.out).2.2.2.2.2
    clear p3 hb3 xa2 xb2
    go_wp2_with fail
    refine bodyPost_ret (v := .tuple #[.agg #[.slice a3 m.length c3, .int .i64 nr], .int .i64 h, .int .i64 cd]) (by simp [results, Try.results30, go_sem, kz]) rfl ⟨a3, c3, bs, rfl, ?_, ?_⟩
    · have h5 := StHas.keep P3.out (w' := (w3.setCell ⟨w.heap.size + 1 + 1, 0, none⟩ (.slice a3 m.length c3)).setCell ⟨w.heap.size + 1 + 1, 1, none⟩ (.int .i64 nr)) (fun j h1 h2 => by repeat rw [heap_set _ _ _ _ _ (by omega)])
      rcases h5 with h5 | h5
      · exact .inl h5
      · exact .inr (StOwn.wide h5 (by omega) (by simp))
    · repeat (refine Below.setCell ?_ (by first | omega | (simp <;> omega)) _)
      exact BW.out
  · obtain ⟨e1, e2, rfl, rfl⟩ : m = l ∧ nr = now ∧ h = 0 ∧ cd = 16 := by
      rcases HC.out with ⟨h1, _⟩ | ⟨_, _, h1⟩ | ⟨_, h1, _⟩ | ⟨_, h1, _⟩
      · exact absurd h1 h0
      · exact h1
      all_goals rw [hF] at h1; cases h1
    replace e1 := e1.symm
    replace e2 := e2.symm
    subst e1 e2
    clear HC hF h0 h0'
    go_wp2_with fail
    refine (impl_copyStore a c l now _ (KV.out _ q2.out).2.2.2.1 HE.out).mono ?_
    rintro e w3 ⟨g, bs, rfl, p3, hb3⟩
    have P3 : Hid (StP w2.heap.size w3 g l bs) := p3
    have z3 := hb3.size
    have q3 : Hid (Below V.heap.size V w3) := q2.out.trans (hb3.mono (by omega))
    have kz := fun o => row_cell (KV.out _ q3.out).2.2.1 o
    have kf := fun o => row_frozen (KV.out _ q3.out).2.2.1 o
    have BW : Hid (Below w.heap.size w w3) := (KV.out _ q3.out).2.2.2.2.2
    clear p3 hb3 xa2 xb2
    go_wp2_with fail
    refine bodyPost_ret (v := .tuple #[.agg #[.slice (some ⟨g, 0, none⟩) l.length l.length, .int .i64 now], .int .i64 0, .int .i64 16]) (by simp [results, Try.results30, go_sem, kz]) rfl ⟨_, _, bs, rfl, .inr (StP.own (StP.low (StP.move P3.out (by simp) (fun j h1 h2 => ?_)) (by omega))), ?_⟩
    · repeat rw [heap_set _ _ _ _ _ (by omega)]
    · repeat (refine Below.setCell ?_ (by first | omega | (simp <;> omega)) _)
      exact BW.out
end Go.Proofs.Ytgffplbcpofkmaa.G
namespace Go.Proofs.Ytgffplbcpofkmaa.G
open Go.ChangeShapes Go.WideShapes Go.ChangeAt Go.RowKit
set_option linter.unusedVariables false

set_option maxHeartbeats 1000000 in
theorem mark_nums0 (a : Option Addr) (c : Nat) (K : Int) (w : World) : Calls Try.prog 48 #[.slice a 0 c, .int .i64 K] w fun e w' => e = .returned (.int .i64 K) ∧ w' = w := by
  go_enter Try.func48, Try.ntmps48
  go_wp2_with fail
  go_loop [1, 5] (fun s i => s = .int .i64 K ∧ i = .int .i64 0) (fun _ _ => 0)
  case atStart => exact ⟨rfl, rfl⟩
  case round =>
    obtain ⟨rfl, rfl⟩ := hrel
    go_wp2_with fail
    go_ret
    exact ⟨rfl, rfl⟩
/-- Blocks of another kind stay. -/
def KindKept (T : TypeId) (w w' : World) : Prop := ∀ (b : Nat) (S : TypeId) (cs : Array Value), w.heap[b]? = some (.cells cs S (0, 0)) → S ≠ T → w'.heap[b]? = w.heap[b]?
theorem mark_reads (a : Option Addr) (c : Nat) (x : List Int) (lo hi : Nat) (K : Int) (w : World) (ho : NuOwn lo hi w a x) (hhi : hi ≤ w.heap.size) (hl : x.length ≤ 1048576) (h0 : 0 ≤ K) (h1 : K ≤ 4398046511104) :
    Calls Try.prog 48 #[.slice a x.length c, .int .i64 K] w fun e w' => ∃ r : Int, e = .returned (.int .i64 r) ∧ r = K + x.length ∧ NuMk lo hi w' a x.length K ∧ KeptS lo hi w w' ∧ KindKept 3 w w' := by
  rcases ho with rfl | ⟨g, cs, rfl, h2, h3, h4, h5, h6⟩
  · refine (mark_nums0 a c K w).mono ?_
    rintro e w' ⟨rfl, rfl⟩
    exact ⟨K, rfl, by simp, .inl rfl, KeptS.refl _ _ _, fun b S cs h _ => rfl⟩
  · refine (mark_nums (some ⟨g, 0, none⟩) c x g (g + 1) K w (.inr ⟨g, cs, rfl, Nat.le_refl _, Nat.lt_succ_self _, h4, h5, h6⟩) hl h0 h1).mono ?_
    rintro e w' ⟨r, rfl, hr, hm, hk⟩
    refine ⟨r, rfl, hr, ?_, hk.mono h2 (by omega), fun b S cs' hb hS => hk.block b (Array.getElem?_eq_some_iff.1 hb).1 (fun hh => hS ?_)⟩
    · rcases hm with hm | ⟨g', cs', e, k1, k2, k3⟩
      · exact .inl hm
      · simp only [Option.some.injEq, Addr.mk.injEq, and_true] at e
        subst e
        exact .inr ⟨g, cs', rfl, h2, h3, k3⟩
    · have e : b = g := by omega
      subst e
      rw [h4] at hb
      simp only [Option.some.injEq, Obj.cells.injEq] at hb
      exact hb.2.1.symm
theorem mark_writes (a : Option Addr) (c : Nat) (x : List Ve) (lo hi : Nat) (K : Int) (w : World) (ho : PuOwn lo hi w a x) (hhi : hi ≤ w.heap.size) (hl : x.length ≤ 1048576) (h0 : 0 ≤ K) (h1 : K ≤ 4398046511104) :
    Calls Try.prog 49 #[.slice a x.length c, .int .i64 K] w fun e w' => ∃ r : Int, e = .returned (.int .i64 r) ∧ r = K + 2 * x.length ∧ PuMkd lo hi w' a x.length K ∧ KeptS lo hi w w' ∧ KindKept 54 w w' := by
  rcases ho with rfl | ⟨g, rfl, h2, h3, h4⟩
  · refine (mark_Pus0 a c K w).mono ?_
    rintro e w' ⟨rfl, rfl⟩
    exact ⟨K, rfl, by simp, .inl rfl, KeptS.refl _ _ _, fun b S cs h _ => rfl⟩
  · refine (mark_Pus g c x K w h4 hl h0 h1).mono ?_
    rintro e w' ⟨r, rfl, hr, hm, hk⟩
    refine ⟨r, rfl, hr, .inr ⟨g, rfl, h2, h3, hm⟩, hk.mono h2 (by omega), fun b S cs' hb hS => hk.block b (Array.getElem?_eq_some_iff.1 hb).1 (fun hh => hS ?_)⟩
    have e : b = g := by omega
    subst e
    obtain ⟨cs, h5, _⟩ := h4
    rw [h5] at hb
    simp only [Option.some.injEq, Obj.cells.injEq] at hb
    exact hb.2.1.symm
theorem PuOwn.kind {lo hi : Nat} {w w' : World} {a : Option Addr} {x : List Ve} (h : PuOwn lo hi w a x) (hk : KindKept 3 w w') : PuOwn lo hi w' a x := by
  rcases h with h | ⟨g, e, h1, h2, h3⟩
  · exact .inl h
  · have h4 := h3
    obtain ⟨cs, h5, _⟩ := h3
    exact .inr ⟨g, e, h1, h2, h4.move (hk g _ cs h5 (by decide))⟩
theorem NuMk.kind {lo hi : Nat} {w w' : World} {a : Option Addr} {n : Nat} {K : Int} (h : NuMk lo hi w a n K) (hk : KindKept 54 w w') : NuMk lo hi w' a n K := by
  rcases h with h | ⟨g, cs, e, h1, h2, h3, h4⟩
  · exact .inl h
  · exact .inr ⟨g, cs, e, h1, h2, (hk g _ cs h3 (by decide)).trans h3, h4⟩
set_option maxHeartbeats 2000000 in
theorem mark_txn (ra wa : Option Addr) (rc wc : Nat) (st : Int) (rs : List Int) (ws : List Ve) (lo hi : Nat) (K : Int) (w : World) (ho : TxOwn lo hi w ra wa rs ws) (hbd : TxBd 1048576 rs ws) (hhi : hi ≤ w.heap.size) (h0 : 0 ≤ K) (h1 : K ≤ 3298534883328) :
    Calls Try.prog 20 #[.agg #[.int .i64 st, .slice ra rs.length rc, .slice wa ws.length wc], .int .i64 K] w fun e w' => ∃ r : Int, e = .returned (.int .i64 r) ∧ r = K + rs.length + 2 * ws.length ∧ TxMk lo hi w' ra wa rs.length ws.length K ∧ KeptS lo hi w w' := by
  obtain ⟨V, hV⟩ : ∃ V, V = w.alloc (.cells #[.int .i64 st, .slice ra rs.length rc, .slice wa ws.length wc] 38) := ⟨_, rfl⟩
  have bV : Below w.heap.size w V := by rw [hV]; exact (Below.refl _ _).alloc (Nat.le_refl _) _
  have zV : w.heap.size + 1 ≤ V.heap.size := by rw [hV]; simp
  have cV : V.heap[w.heap.size]? = some (.cells #[.int .i64 st, .slice ra rs.length rc, .slice wa ws.length wc] 38 (0, 0)) := by rw [hV]; exact heap_alloc_new _ _
  have OV : Hid (TxOwn lo hi V ra wa rs ws) := TxOwn.keep ho (agree bV hhi)
  have KV : Hid (KeptS lo hi w V) := KeptS.of bV
  have CV : Hid _ := cV
  have hl1 := hbd.1
  have hl2 := hbd.2
  clear ho hbd bV cV
  go_enter Try.func20, Try.ntmps20
  go_wp2_with fail
  rw [← hV]
  clear hV
  refine (mark_reads ra rc rs lo hi K _ OV.out.1 (by omega) hl1 h0 (by omega)).mono ?_
  rintro e w1 ⟨r, rfl, hr, m1, k1, kk1⟩
  have z1 := k1.size
  have d1 := (k1.block w.heap.size (by omega) (by omega)).trans CV.out
  have x1 := fun o => row_cell d1 o
  have O1 : Hid (PuOwn lo hi w1 wa ws) := PuOwn.kind OV.out.2 kk1
  have M1 : Hid _ := m1
  have K1 : Hid (KeptS lo hi w w1) := KV.out.trans k1
  have HR : Hid (r = K + rs.length) := hr
  have hr1 : 0 ≤ r := by omega
  have hr2 : r ≤ 4398046511104 := by omega
  clear m1 k1 kk1 d1 hr OV
  go_wp2_with fail
  refine (mark_writes wa wc ws lo hi r _ O1.out (by omega) hl2 hr1 hr2).mono ?_
  rintro e w2 ⟨r2, rfl, hq, m2, k2, kk2⟩
  have HR2 : Hid (r2 = K + rs.length + 2 * ws.length) := by have := HR.out; unfold Hid; omega
  have M2 : Hid (TxMk lo hi w2 ra wa rs.length ws.length K) := ⟨NuMk.kind M1.out kk2, by rw [← HR.out]; exact m2⟩
  have K2 : Hid (KeptS lo hi w w2) := K1.out.trans k2
  clear hq m2 k2 kk2 x1
  go_wp2_with fail
  go_ret
  exact ⟨r2, rfl, HR2.out, M2.out, K2.out⟩
set_option maxHeartbeats 2000000 in
theorem held_txn (ra wa : Option Addr) (rc wc n m : Nat) (st : Int) (lo hi : Nat) (K : Int) (w : World) (ho : TxMk lo hi w ra wa n m K) (hn : n ≤ 1048576) (hm : m ≤ 1048576) (hhi : hi ≤ w.heap.size) (h0 : 0 ≤ K) (h1 : K ≤ 3298534883328) :
    Calls Try.prog 21 #[.agg #[.int .i64 st, .slice ra n rc, .slice wa m wc], .int .i64 K] w fun e w' => ∃ r : Int, e = .returned (.int .i64 r) ∧ r = K + n + 2 * m ∧ Below w.heap.size w w' := by
  obtain ⟨V, hV⟩ : ∃ V, V = w.alloc (.cells #[.int .i64 st, .slice ra n rc, .slice wa m wc] 38) := ⟨_, rfl⟩
  have bV : Below w.heap.size w V := by rw [hV]; exact (Below.refl _ _).alloc (Nat.le_refl _) _
  have cV : V.heap[w.heap.size]? = some (.cells #[.int .i64 st, .slice ra n rc, .slice wa m wc] 38 (0, 0)) := by rw [hV]; exact heap_alloc_new _ _
  have OV : Hid (TxMk lo hi V ra wa n m K) := TxMk.keep ho (agree bV hhi)
  have BV : Hid _ := bV
  have x0 := fun o => row_cell cV o
  clear ho bV cV
  go_enter Try.func21, Try.ntmps21
  go_wp2_with fail
  rw [← hV]
  clear hV
  refine (held_nums ra rc n lo hi K _ OV.out.1 hn h0 (by omega)).mono ?_
  rintro e w1 ⟨r, rfl, hr, hw1⟩
  rw [hw1]
  clear hw1
  have HR : Hid (r = K + n) := hr
  have hr0 : ¬ r < 0 := by omega
  have hr1 : 0 ≤ r := by omega
  have hr2 : r ≤ 4398046511104 := by omega
  clear hr
  go_wp2_with fail
  have hw : Calls Try.prog 51 #[.slice wa m wc, .int .i64 r] V fun e w' => ∃ q : Int, e = .returned (.int .i64 q) ∧ q = r + 2 * m ∧ w' = V := by
    have h2 := OV.out.2
    rw [← HR.out] at h2
    rcases h2 with rfl | ⟨g, rfl, _, _, hg⟩
    · exact (held_Pus0 wa wc r V).mono (by rintro e w' ⟨rfl, rfl⟩; exact ⟨r, rfl, by simp, rfl⟩)
    · exact held_Pus g wc m r V hg hm hr1 hr2
  refine hw.mono ?_
  rintro e w2 ⟨q, rfl, hq, hw2⟩
  rw [hw2]
  clear hw2 hw
  have HQ : Hid (q = K + n + 2 * m) := by have := HR.out; unfold Hid; omega
  have hq0 : ¬ q < 0 := by omega
  clear hq x0
  go_wp2_with fail
  go_ret
  exact ⟨q, rfl, HQ.out, BV.out⟩
end Go.Proofs.Ytgffplbcpofkmaa.G
namespace Go.Proofs.Ytgffplbcpofkmaa.G
open Go.ChangeShapes Go.WideShapes Go.ChangeAt Go.RowKit
set_option linter.unusedVariables false

/-- Blocks stay, in kind and length; those of another kind than T stay whole. -/
def KeptT (T : TypeId) (W W' : World) : Prop := W.heap.size ≤ W'.heap.size ∧ ∀ (b : Nat) (S : TypeId) (cs : Array Value), W.heap[b]? = some (.cells cs S (0, 0)) → ∃ cs', W'.heap[b]? = some (.cells cs' S (0, 0)) ∧ cs'.size = cs.size ∧ (S ≠ T → cs' = cs)
theorem KeptT.of {T : TypeId} {W W' : World} (h : Below W.heap.size W W') : KeptT T W W' := ⟨h.size, fun b S cs hb => ⟨cs, (h.block b (Array.getElem?_eq_some_iff.1 hb).1).trans hb, rfl, fun _ => rfl⟩⟩
theorem KeptT.refl (T : TypeId) (W : World) : KeptT T W W := KeptT.of (Below.refl _ _)
theorem KeptT.trans {T : TypeId} {a b c : World} (h : KeptT T a b) (g : KeptT T b c) : KeptT T a c := ⟨Nat.le_trans h.1 g.1, fun k S cs hk => by
  obtain ⟨c1, h1, h2, h3⟩ := h.2 k S cs hk
  obtain ⟨c2, g1, g2, g3⟩ := g.2 k S c1 h1
  exact ⟨c2, g1, by omega, fun hS => (g3 hS).trans (h3 hS)⟩⟩
theorem KeptT.set {T : TypeId} {W : World} {B o : Nat} {v : Value} {c0 : Array Value} (hB : W.heap[B]? = some (.cells c0 T (0, 0))) : KeptT T W (W.setCell ⟨B, o, none⟩ v) := by
  refine ⟨by simp, fun b S cs hb => ?_⟩
  by_cases e : b = B
  · subst e
    rw [hB] at hb
    simp only [Option.some.injEq, Obj.cells.injEq] at hb
    obtain ⟨rfl, rfl, _⟩ := hb
    exact ⟨_, row_set hB o v, by simp, fun h => absurd rfl h⟩
  · exact ⟨cs, (heap_set _ _ _ _ _ e).trans hb, rfl, fun _ => rfl⟩
theorem KeptT.same {T : TypeId} {W W' : World} (h : KeptT T W W') {b : Nat} {S : TypeId} {cs : Array Value} (hb : W.heap[b]? = some (.cells cs S (0, 0))) (hS : S ≠ T) : W'.heap[b]? = W.heap[b]? := by
  obtain ⟨c1, h1, _, h3⟩ := h.2 b S cs hb
  rw [h1, hb, h3 hS]
theorem VeBlk.kept {T : TypeId} {W W' : World} {b : Nat} {l : List Ve} (h : VeBlk W b l) (hk : KeptT T W W') (hT : 93 ≠ T) : VeBlk W' b l := by
  have h0 := h
  obtain ⟨cs, h1, _⟩ := h
  exact h0.move (hk.same h1 hT)
theorem StOwn.kept {T : TypeId} {lo : Nat} {W W' : World} {a : Option Addr} {l : Chs} {bs : Nat → Nat} (h : StOwn lo W.heap.size W a l bs) (hk : KeptT T W W') (hT : 93 ≠ T) (hT2 : 91 ≠ T) : StOwn lo W'.heap.size W' a l bs := by
  obtain ⟨b, cs, e, h1, h2, h3, h4, h5, h6⟩ := h
  have hz := hk.1
  refine ⟨b, cs, e, h1, by omega, (hk.same h3 hT2).trans h3, h4, fun i x hx => ?_, h6⟩
  obtain ⟨a3, c, g1, g2, g3⟩ := h5 i x hx
  refine ⟨a3, c, g1, g2, fun hne => ?_⟩
  obtain ⟨f1, f2, f3, f4, f5⟩ := g3 hne
  exact ⟨f1, f2, by omega, f4, f5.kept hk hT⟩
theorem own_kept {T : TypeId} {W W' : World} {base size n : Nat} {e : TypeId} {v : Value} {xs : List Value} (h : W.ownsRow base e size v n xs) (hk : KeptT T W W') (hT : e ≠ T) : W'.ownsRow base e size v n xs := by
  refine ⟨h.1, ?_⟩
  rcases h.2 with h0 | ⟨g, cap, cur, rfl, h1, h2, h3⟩
  · exact .inl h0
  · exact .inr ⟨g, cap, cur, rfl, h1, (hk.same h2 hT).trans h2, h3⟩
theorem OwnK.kept {T : TypeId} {lo : Nat} {W W' : World} {v : Value} {l : Chs} (h : OwnK lo W v l) (hk : KeptT T W W') (hT : 93 ≠ T) (hT2 : 91 ≠ T) : OwnK lo W' v l := by
  obtain ⟨vs, h1, h2⟩ := h
  refine ⟨vs, own_kept h1 hk hT2, fun i x hx => ?_⟩
  obtain ⟨u, g1, a, c, g2, g3, g4⟩ := h2 i x hx
  refine ⟨u, g1, a, c, g2, g3, ?_⟩
  rcases g4 with g4 | ⟨b, e1, e2, e3, e4, e5⟩
  · exact .inl g4
  · exact .inr ⟨b, e1, e2, by have := hk.1; omega, e4, e5.kept hk hT⟩
theorem NuOwn.kept {T : TypeId} {lo : Nat} {W W' : World} {a : Option Addr} {x : List Int} (h : NuOwn lo W.heap.size W a x) (hk : KeptT T W W') (hT : 3 ≠ T) : NuOwn lo W'.heap.size W' a x := by
  rcases h with h | ⟨g, cs, e, h1, h2, h3, h4⟩
  · exact .inl h
  · exact .inr ⟨g, cs, e, h1, by have := hk.1; omega, (hk.same h3 hT).trans h3, h4⟩
theorem PuOwn.kept {T : TypeId} {lo : Nat} {W W' : World} {a : Option Addr} {x : List Ve} (h : PuOwn lo W.heap.size W a x) (hk : KeptT T W W') (hT : 54 ≠ T) : PuOwn lo W'.heap.size W' a x := by
  rcases h with h | ⟨g, e, h1, h2, h3⟩
  · exact .inl h
  · have h0 := h3
    obtain ⟨cs, h4, _⟩ := h3
    exact .inr ⟨g, e, h1, by have := hk.1; omega, h0.move (hk.same h4 hT)⟩
theorem TxOwn.kept {T : TypeId} {lo : Nat} {W W' : World} {ra wa : Option Addr} {rs : List Int} {ws : List Ve} (h : TxOwn lo W.heap.size W ra wa rs ws) (hk : KeptT T W W') (hT : 3 ≠ T) (hT2 : 54 ≠ T) : TxOwn lo W'.heap.size W' ra wa rs ws := ⟨NuOwn.kept h.1 hk hT, PuOwn.kept h.2 hk hT2⟩
end Go.Proofs.Ytgffplbcpofkmaa.G
namespace Go.Proofs.Ytgffplbcpofkmaa.G
open Go.ChangeShapes Go.WideShapes Go.ChangeAt Go.RowKit
set_option linter.unusedVariables false

/-- A store's chains, as the program or the specification answers them. -/
def AnsO (m : Chs) (x : Value) (W : World) : Prop := ∃ a c, x = .slice a m.length c ∧ ((∃ lo, OwnK lo W x m) ∨ ∃ lo bs, m = [] ∨ StOwn lo W.heap.size W a m bs)
theorem AnsO.kept {m : Chs} {x : Value} {W W' : World} (h : AnsO m x W) (hk : KeptT 34 W W') : AnsO m x W' := by
  obtain ⟨a, c, e, h⟩ := h
  refine ⟨a, c, e, ?_⟩
  rcases h with ⟨lo, h⟩ | ⟨lo, bs, h | h⟩
  · exact .inl ⟨lo, h.kept hk (by decide) (by decide)⟩
  · exact .inr ⟨lo, bs, .inl h⟩
  · exact .inr ⟨lo, bs, .inr (h.kept hk (by decide) (by decide))⟩
theorem AnsO.row {m : Chs} {a : Option Addr} {c n : Nat} {W : World} (h : AnsO m (.slice a n c) W) : n = m.length ∧ ChRow 0 W.heap.size W a m := by
  obtain ⟨a', c', e, h⟩ := h
  simp only [Value.slice.injEq] at e
  obtain ⟨rfl, rfl, rfl⟩ := e
  refine ⟨rfl, ?_⟩
  rcases h with ⟨lo, h⟩ | ⟨lo, bs, h | h⟩
  · obtain ⟨a2, c2, e2, r⟩ := h.chRow2
    simp only [Value.slice.injEq] at e2
    rw [e2.1]
    exact ChRow.wide r (Nat.zero_le _) (Nat.le_refl _)
  · exact .inl h
  · exact ChRow.wide h.row (Nat.zero_le _) (Nat.le_refl _)
/-- Where the region stands: x is the operation that stores the answer, y the one that makes the variable, s its slot. -/
def AnJ (x y s : Nat) (m : Chs) (nr : Int) (W0 : World) (L : Array Bool) (u : Nat → Value) (W : World) : Prop :=
  Below W0.heap.size W0 W ∧ (L.getD x false = true → ∃ B a c, u s = .pointer (some ⟨B, 0, none⟩) ∧ W0.heap.size ≤ B ∧ W.heap[B]? = some (.cells #[.slice a m.length c, .int .i64 nr] 34 (0, 0)) ∧ AnsO m (.slice a m.length c) W) ∧ (L.getD x false = true → L.getD y false = true)
theorem getD_up {L : Array Bool} {i y : Nat} (h : L.getD y false = true) : (L.setIfInBounds i true).getD y false = true := by
  by_cases e : i = y
  · subst e
    have hlt : i < L.size := by
      refine Nat.lt_of_not_le fun hle => ?_
      simp [Array.getD, Nat.not_lt.2 hle] at h
    simp [hlt]
  · rw [getD_set_ne false e]; exact h
theorem AnJ.step {x y s : Nat} {m : Chs} {nr : Int} {W0 : World} {L : Array Bool} {u : Nat → Value} {W W' : World} (h : AnJ x y s m nr W0 L u W) (hb : Below W.heap.size W W') {i d : Nat} {v : Value} (hi : i ≠ x) (hd : L.getD x false = true → d ≠ s) : AnJ x y s m nr W0 (L.setIfInBounds i true) (upd u d v) W' := by
  refine ⟨h.1.trans (hb.mono h.1.size), fun h1 => ?_, fun h1 => ?_⟩
  · rw [getD_set_ne false hi] at h1
    obtain ⟨B, a, c, e, h2, h3, h4⟩ := h.2.1 h1
    exact ⟨B, a, c, by rw [upd_ne _ _ (fun e => hd h1 e.symm)]; exact e, h2, (hb.block B (Array.getElem?_eq_some_iff.1 h3).1).trans h3, h4.kept (KeptT.of hb)⟩
  · rw [getD_set_ne false hi] at h1
    exact getD_up (h.2.2 h1)
theorem AnJ.start {x y s : Nat} {m : Chs} {nr : Int} {W0 : World} {n : Nat} {u : Nat → Value} : AnJ x y s m nr W0 (Array.replicate n false) u W0.drew := by
  have no : (Array.replicate n false).getD x false = true → False := fun h => by
    by_cases hx : x < n
    · simp [hx] at h
    · simp [hx] at h
  exact ⟨(Below.refl _ _).drew, fun h => (no h).elim, fun h => (no h).elim⟩
end Go.Proofs.Ytgffplbcpofkmaa.G
namespace Go.Proofs.Ytgffplbcpofkmaa.fnExactCommit
open Go.ChangeShapes Go.WideShapes Go.ChangeAt Go.RowKit
open Go.ChangeMaps (open_string shut_string)
open Go.Proofs.Ytgffplbcpofkmaa.G
set_option linter.unusedVariables false

theorem own : ownKnob Try.prog.godebug = none := by kernel_rfl
theorem laidOut : laidOutB Try.prog = true := by kernel_rfl

set_option maxHeartbeats 16000000 in
set_option maxRecDepth 40000 in
theorem walk (a : Option Addr) (c : Nat) (l : Chs) (now : Int) (ra wa : Option Addr) (rq wq : Nat) (st : Int) (rs : List Int) (ws : List Ve) (w : World) (hr : ChRow 0 w.heap.size w a l) (hb : ChsBd maxLen l) (hp : TxRow 0 w.heap.size w ra wa rs ws) (hpb : TxBd maxLen rs ws) :
    Calls Try.prog 8 #[.agg #[.slice a l.length c, .int .i64 now], .agg #[.int .i64 st, .slice ra rs.length rq, .slice wa ws.length wq]] w fun e w' => e = .returned (.bool true) ∧ Below w.heap.size w w' := by
  obtain ⟨V, hV⟩ : ∃ V, V = (w.alloc (.cells #[.slice a l.length c, .int .i64 now] 24)).alloc (.cells #[.int .i64 st, .slice ra rs.length rq, .slice wa ws.length wq] 28) := ⟨_, rfl⟩
  have bV : Below w.heap.size w V := by
    rw [hV]
    repeat (first | exact Below.refl _ _ | refine Below.alloc ?_ (by first | omega | (simp <;> omega)) _)
  have zV : w.heap.size + 2 ≤ V.heap.size := by rw [hV]; simp
  have c0 : V.heap[w.heap.size]? = some (.cells #[.slice a l.length c, .int .i64 now] 24 (0, 0)) := by
    rw [hV, Below.heap_alloc _ _ _ (by simp)]; exact heap_alloc_new _ _
  have c1 : V.heap[w.heap.size + 1]? = some (.cells #[.int .i64 st, .slice ra rs.length rq, .slice wa ws.length wq] 28 (0, 0)) := by
    rw [hV]
    have := heap_alloc_new (w.alloc (.cells #[.slice a l.length c, .int .i64 now] 24)) (.cells #[.int .i64 st, .slice ra rs.length rq, .slice wa ws.length wq] 28)
    simpa using this
  have KV : Hid (∀ W, Below V.heap.size V W → W.heap[w.heap.size]? = some (.cells #[.slice a l.length c, .int .i64 now] 24 (0, 0)) ∧ W.heap[w.heap.size + 1]? = some (.cells #[.int .i64 st, .slice ra rs.length rq, .slice wa ws.length wq] 28 (0, 0)) ∧ ChRow 0 W.heap.size W a l ∧ TxRow 0 W.heap.size W ra wa rs ws ∧ Below w.heap.size w W) := fun W h =>
    have hw := bV.trans (h.mono (by omega))
    ⟨(h.block _ (by omega)).trans c0, (h.block _ (by omega)).trans c1, ChRow.up hr hw, TxRow.up hp hw, hw⟩
  have HD : Hid (ChsBd maxLen l) := hb
  have HPB : Hid (TxBd maxLen rs ws) := hpb
  skip
  clear hr hb hp hpb bV c0 c1
  go_enter Try.func8, Try.ntmps8
  go_wp2_with fail
  rw [← hV]
  clear hV
  refine (sz_store a c l now 1048576 _ (KV.out _ (Below.refl _ _)).2.2.1 HD.out (by omega) (by omega)).mono ?_
  rintro e w1 ⟨mz, rfl, hm, hb1⟩
  have HM : Hid (Sz 1048576 mz (ChsBd 1048576 l)) := hm
  have q1 : Hid (Below V.heap.size V w1) := hb1
  have z1 := hb1.size
  clear hm hb1
  by_cases hneg : mz < 0
  · go_wp2_with fail
    go_ret
    exact ⟨rfl, (KV.out _ q1.out).2.2.2.2⟩
  have HE : Hid (ChsBd 1048576 l) := HM.out.2.2 (by omega)
  have hmz : mz ≤ 1048576 := HM.out.1
  have x1 := fun o => row_cell (KV.out _ q1.out).2.1 o
  clear HM
  go_wp2_with fail
  refine (sz_txn ra wa rq wq st rs ws mz _ HPB.out (by omega) hmz).mono ?_
  rintro e w2 ⟨mp, rfl, hm, hb2⟩
  have HM : Hid (Sz mz mp (TxBd 1048576 rs ws)) := hm
  have q2 : Hid (Below V.heap.size V w2) := q1.out.trans (hb2.mono (by omega))
  have z2 := hb2.size
  clear hm hb2 x1
  by_cases hneg2 : mp < 0
  · go_wp2_with fail
    go_ret
    exact ⟨rfl, (KV.out _ q2.out).2.2.2.2⟩
  have HT : Hid (TxBd 1048576 rs ws) := HM.out.2.2 (by omega)
  have hT1 := HT.out.1
  have hT2 := HT.out.2
  have x2 := fun o => row_cell (KV.out _ q2.out).1 o
  have y2 := fun o => row_cell (KV.out _ q2.out).2.1 o
  clear HM hmz
  obtain ⟨m, nr, h, cd, hy, hy2, hy3⟩ := ctIs l now st rs ws
  have HY : Hid (CtIs l now st rs ws m nr h cd) := hy
  have HF : Hid (ChsBd 1048576 m) := hy2
  clear hy hy2
  have HSZ : Hid (sizeN l ≤ 1099511627776) := by have := sizeN_le HE.out.2; have := HE.out.1; unfold Hid; exact Nat.le_trans ‹_› (Nat.mul_le_mul_right 1048576 this)
  go_wp2_with fail
  go_cut [6, 7, 8] from 30 to 38 (fun p u v wx => ∃ B aS cS, p = .pointer (some ⟨B, 0, none⟩) ∧ u = .int .i64 h ∧ v = .int .i64 cd ∧ Hid (wx.heap[B]? = some (.cells #[.slice aS m.length cS, .int .i64 nr] 34 (0, 0))) ∧ w2.heap.size ≤ B ∧ B < wx.heap.size ∧ Hid (ChRow 0 wx.heap.size wx aS m) ∧ Hid (Below w2.heap.size w2 wx))
  case first =>
    refine region_rel5 (n := 12) (k := 1) (by omega) (by kernel_rfl) (by kernel_rfl) (by kernel_rfl) (fun u => ⟨#[.agg #[.slice a l.length c, .int .i64 now], .agg #[.int .i64 st, .slice ra rs.length rq, .slice wa ws.length wq], .pointer (some ⟨w.heap.size, 0, none⟩), .pointer (some ⟨w.heap.size + 1, 0, none⟩), .bool false, .int .i64 mp, u 6, u 7, undef, undef, undef, undef, undef, undef, undef, undef, undef, undef, undef, undef, .agg #[.slice a l.length c, .int .i64 now], .int .i64 1048576, .int .i64 mz, .int .i64 mz, .bool (decide (mz < 0)), .agg #[.int .i64 st, .slice ra rs.length rq, .slice wa ws.length wq], .int .i64 mz, .int .i64 mp, .int .i64 mp, .bool (decide (mp < 0)), u 30, u 31, u 32, u 33, u 34, u 35, u 36, u 37, u 38, undef, undef, undef, undef, undef, undef, undef, undef, undef, undef, undef, undef, undef, undef, undef, undef, undef, undef, undef, undef, undef, undef, undef, undef, undef, undef, undef, undef, undef, undef, undef, undef, undef, undef, undef, undef, undef, undef, undef, undef, undef, undef, undef, undef, undef, undef, undef, undef, undef, undef, undef, undef, undef, undef, undef, undef, undef, undef, undef, undef, undef, undef, undef, undef, undef, undef, undef, undef, undef, undef, undef, undef, undef, undef, undef, undef, undef, undef, undef, undef, undef, undef, undef, undef, undef, undef, undef, undef, undef, undef, undef, undef, undef, undef, undef, undef, undef, undef, undef, undef, undef], []⟩) (fun _ => undef) (fun i => match i with | 0 => 31 | 1 => 32 | 2 => 33 | 3 => 34 | 4 => 35 | 5 => 30 | 6 => 36 | 7 => 37 | 8 => 38 | 9 => 6 | 11 => 7 | _ => 400) (fun i j hi hj hh => by
        have h1 : i = 0 ∨ i = 1 ∨ i = 2 ∨ i = 3 ∨ i = 4 ∨ i = 5 ∨ i = 6 ∨ i = 7 ∨ i = 8 ∨ i = 9 ∨ i = 10 ∨ i = 11 := by omega
        have h2 : j = 0 ∨ j = 1 ∨ j = 2 ∨ j = 3 ∨ j = 4 ∨ j = 5 ∨ j = 6 ∨ j = 7 ∨ j = 8 ∨ j = 9 ∨ j = 10 ∨ j = 11 := by omega
        rcases h1 with rfl | rfl | rfl | rfl | rfl | rfl | rfl | rfl | rfl | rfl | rfl | rfl <;> rcases h2 with rfl | rfl | rfl | rfl | rfl | rfl | rfl | rfl | rfl | rfl | rfl | rfl <;> first | rfl | (simp at hh))
      (fun i y W => match i with | 0 => y = .agg #[.slice a l.length c, .int .i64 now] | 1 => ∃ a3 bs, y = .agg #[.slice a3 l.length l.length, .int .i64 now] ∧ StOwn 0 W.heap.size W a3 l bs | 2 => y = .agg #[.int .i64 st, .slice ra rs.length rq, .slice wa ws.length wq] | 3 => ∃ r3 w3, y = .agg #[.int .i64 st, .slice r3 rs.length rs.length, .slice w3 ws.length ws.length] ∧ TxOwn 0 W.heap.size W r3 w3 rs ws | 4 => ∃ x, y = .tuple #[.agg #[x, .int .i64 nr], .int .i64 h, .int .i64 cd] ∧ AnsO m x W | 5 => ∃ x, y = .tuple #[.agg #[x, .int .i64 nr], .int .i64 h, .int .i64 cd] ∧ AnsO m x W | 6 => ∃ x, y = .agg #[x, .int .i64 nr] ∧ AnsO m x W | 7 => y = .int .i64 h | 8 => y = .int .i64 cd | 9 => ∃ B cs, y = .pointer (some ⟨B, 0, none⟩) ∧ w2.heap.size ≤ B ∧ W.heap[B]? = some (.cells cs 34 (0, 0)) ∧ cs.size = 2 | 10 => True | _ => y = .int .i64 h) (AnJ 10 9 6 m nr w2) AnJ.start ?step ?last
    case step =>
      intro L u W i hi hLs hLi hj hdep
      have hzj := hj.1.size
      have qW : Hid (Below V.heap.size V W) := q2.out.trans (hj.1.mono q2.out.size)
      obtain ⟨t0, t1, t2, t3, t4⟩ := KV.out _ qW.out
      have e0 := fun o => row_cell t0 o
      have e1 := fun o => row_cell t1 o
      have TS : Hid _ := t2
      have TX : Hid _ := t3
      clear t0 t1 t2 t3 t4
      have up : ∀ {W' : World}, KeptT 34 W W' → ∀ (j : Nat) (y : Value), (fun i y W => match i with | 0 => y = .agg #[.slice a l.length c, .int .i64 now] | 1 => ∃ a3 bs, y = .agg #[.slice a3 l.length l.length, .int .i64 now] ∧ StOwn 0 W.heap.size W a3 l bs | 2 => y = .agg #[.int .i64 st, .slice ra rs.length rq, .slice wa ws.length wq] | 3 => ∃ r3 w3, y = .agg #[.int .i64 st, .slice r3 rs.length rs.length, .slice w3 ws.length ws.length] ∧ TxOwn 0 W.heap.size W r3 w3 rs ws | 4 => ∃ x, y = .tuple #[.agg #[x, .int .i64 nr], .int .i64 h, .int .i64 cd] ∧ AnsO m x W | 5 => ∃ x, y = .tuple #[.agg #[x, .int .i64 nr], .int .i64 h, .int .i64 cd] ∧ AnsO m x W | 6 => ∃ x, y = .agg #[x, .int .i64 nr] ∧ AnsO m x W | 7 => y = .int .i64 h | 8 => y = .int .i64 cd | 9 => ∃ B cs, y = .pointer (some ⟨B, 0, none⟩) ∧ w2.heap.size ≤ B ∧ W.heap[B]? = some (.cells cs 34 (0, 0)) ∧ cs.size = 2 | 10 => True | _ => y = .int .i64 h) j y W → (fun i y W => match i with | 0 => y = .agg #[.slice a l.length c, .int .i64 now] | 1 => ∃ a3 bs, y = .agg #[.slice a3 l.length l.length, .int .i64 now] ∧ StOwn 0 W.heap.size W a3 l bs | 2 => y = .agg #[.int .i64 st, .slice ra rs.length rq, .slice wa ws.length wq] | 3 => ∃ r3 w3, y = .agg #[.int .i64 st, .slice r3 rs.length rs.length, .slice w3 ws.length ws.length] ∧ TxOwn 0 W.heap.size W r3 w3 rs ws | 4 => ∃ x, y = .tuple #[.agg #[x, .int .i64 nr], .int .i64 h, .int .i64 cd] ∧ AnsO m x W | 5 => ∃ x, y = .tuple #[.agg #[x, .int .i64 nr], .int .i64 h, .int .i64 cd] ∧ AnsO m x W | 6 => ∃ x, y = .agg #[x, .int .i64 nr] ∧ AnsO m x W | 7 => y = .int .i64 h | 8 => y = .int .i64 cd | 9 => ∃ B cs, y = .pointer (some ⟨B, 0, none⟩) ∧ w2.heap.size ≤ B ∧ W.heap[B]? = some (.cells cs 34 (0, 0)) ∧ cs.size = 2 | 10 => True | _ => y = .int .i64 h) j y W' := fun {W'} hk j y hy => by
        match j, hy with
        | 0, hy => exact hy
        | 1, ⟨a3, bs, e, ho⟩ => exact ⟨a3, bs, e, ho.kept hk (by decide) (by decide)⟩
        | 2, hy => exact hy
        | 3, ⟨r3, w3, e, ho⟩ => exact ⟨r3, w3, e, ho.kept hk (by decide) (by decide)⟩
        | 4, ⟨x, e, ho⟩ => exact ⟨x, e, ho.kept hk⟩
        | 5, ⟨x, e, ho⟩ => exact ⟨x, e, ho.kept hk⟩
        | 6, ⟨x, e, ho⟩ => exact ⟨x, e, ho.kept hk⟩
        | 7, hy => exact hy
        | 8, hy => exact hy
        | 9, ⟨B, cs, e, h1, h2, h3⟩ =>
          obtain ⟨cs', g1, g2, _⟩ := hk.2 B _ cs h2
          exact ⟨B, cs', e, h1, g1, by omega⟩
        | 10, _ => trivial
        | j + 11, hy => exact hy
      have UP : Hid _ := @up
      clear up
      have hcase : i = 0 ∨ i = 1 ∨ i = 2 ∨ i = 3 ∨ i = 4 ∨ i = 5 ∨ i = 6 ∨ i = 7 ∨ i = 8 ∨ i = 9 ∨ i = 10 ∨ i = 11 := by omega
      rcases hcase with rfl | rfl | rfl | rfl | rfl | rfl | rfl | rfl | rfl | rfl | rfl | rfl
      · refine wpOp_step rfl (fun K hK => ?_)
        clear hdep
        go_simp
        exact hK _ _ ⟨_, rfl, UP.out (KeptT.refl _ _), rfl, hj.step (Below.refl _ _) (by omega) (fun _ => by decide)⟩
      · have d0 : u 31 = .agg #[.slice a l.length c, .int .i64 now] := (hdep _ rfl ⟨0, .data⟩ (by simp) rfl).2
        refine wpOp_step rfl (fun K hK => ?_)
        clear hdep e0 e1
        go_simp
        refine (to_store a c l now _ TS.out HE.out).mono ?_
        rintro e v3 ⟨a3, b3, rfl, r3, hb3⟩
        exact hK _ _ ⟨.agg #[.slice a3 l.length l.length, .int .i64 now], by simp [upd, d0], UP.out (KeptT.of hb3), ⟨a3, b3, rfl, StOwn.wide r3 (Nat.zero_le _) (Nat.le_refl _)⟩, hj.step hb3 (by omega) (fun _ => by decide)⟩
      · refine wpOp_step rfl (fun K hK => ?_)
        clear hdep
        go_simp
        exact hK _ _ ⟨_, rfl, UP.out (KeptT.refl _ _), rfl, hj.step (Below.refl _ _) (by omega) (fun _ => by decide)⟩
      · have d2 : u 33 = .agg #[.int .i64 st, .slice ra rs.length rq, .slice wa ws.length wq] := (hdep _ rfl ⟨2, .data⟩ (by simp) rfl).2
        refine wpOp_step rfl (fun K hK => ?_)
        clear hdep e0 e1
        go_simp
        refine (to_txn ra wa rq wq st rs ws _ TX.out HT.out).mono ?_
        rintro e v3 ⟨r3, w3, rfl, o3, hb3⟩
        exact hK _ _ ⟨.agg #[.int .i64 st, .slice r3 rs.length rs.length, .slice w3 ws.length ws.length], by simp [upd, d2], UP.out (KeptT.of hb3), ⟨r3, w3, rfl, TxOwn.wide o3 (Nat.zero_le _) (Nat.le_refl _)⟩, hj.step hb3 (by omega) (fun _ => by decide)⟩
      · obtain ⟨a3, b3, d1, o1⟩ : ∃ a3 bs, u 32 = .agg #[.slice a3 l.length l.length, .int .i64 now] ∧ StOwn 0 W.heap.size W a3 l bs := (hdep _ rfl ⟨1, .data⟩ (by simp) rfl).2
        obtain ⟨r3, w3, d3, o3⟩ : ∃ r3 w3, u 34 = .agg #[.int .i64 st, .slice r3 rs.length rs.length, .slice w3 ws.length ws.length] ∧ TxOwn 0 W.heap.size W r3 w3 rs ws := (hdep _ rfl ⟨3, .data⟩ (by simp) rfl).2
        refine wpOp_step rfl (fun K hK => ?_)
        clear hdep e0 e1
        go_simp
        refine (spec_ct a3 r3 w3 _ _ _ l now st rs ws _ o1.row HE.out o3.row HT.out (Nat.le_refl _) HY.out).mono ?_
        rintro e v5 ⟨⟨x, rfl, ox⟩, hb5⟩
        obtain ⟨aS, cS, rfl, _⟩ := ox.chRow2
        exact hK _ _ ⟨.tuple #[.agg #[.slice aS m.length cS, .int .i64 nr], .int .i64 h, .int .i64 cd], by simp [upd, d1, d3], UP.out (KeptT.of hb5), ⟨_, rfl, aS, cS, rfl, .inl ⟨_, ox⟩⟩, hj.step hb5 (by omega) (fun _ => by decide)⟩
      · obtain ⟨x, d4, ax⟩ : ∃ x, u 35 = .tuple #[.agg #[x, .int .i64 nr], .int .i64 h, .int .i64 cd] ∧ AnsO m x W := (hdep _ rfl ⟨4, .data⟩ (by simp) rfl).2
        refine wpOp_step rfl (fun K hK => ?_)
        clear hdep
        go_simp
        exact hK _ _ ⟨_, by simp [upd, d4], UP.out (KeptT.refl _ _), ⟨x, rfl, ax⟩, hj.step (Below.refl _ _) (by omega) (fun _ => by decide)⟩
      · obtain ⟨x, d5, ax⟩ : ∃ x, u 30 = .tuple #[.agg #[x, .int .i64 nr], .int .i64 h, .int .i64 cd] ∧ AnsO m x W := (hdep _ rfl ⟨5, .data⟩ (by simp) rfl).2
        refine wpOp_step rfl (fun K hK => ?_)
        clear hdep
        go_simp
        exact hK _ _ ⟨_, by simp [upd, d5], UP.out (KeptT.refl _ _), ⟨x, rfl, ax⟩, hj.step (Below.refl _ _) (by omega) (fun _ => by decide)⟩
      · obtain ⟨x, d5, ax⟩ : ∃ x, u 30 = .tuple #[.agg #[x, .int .i64 nr], .int .i64 h, .int .i64 cd] ∧ AnsO m x W := (hdep _ rfl ⟨5, .data⟩ (by simp) rfl).2
        refine wpOp_step rfl (fun K hK => ?_)
        clear hdep
        go_simp
        exact hK _ _ ⟨_, by simp [upd, d5], UP.out (KeptT.refl _ _), rfl, hj.step (Below.refl _ _) (by omega) (fun _ => by decide)⟩
      · obtain ⟨x, d5, ax⟩ : ∃ x, u 30 = .tuple #[.agg #[x, .int .i64 nr], .int .i64 h, .int .i64 cd] ∧ AnsO m x W := (hdep _ rfl ⟨5, .data⟩ (by simp) rfl).2
        refine wpOp_step rfl (fun K hK => ?_)
        clear hdep
        go_simp
        exact hK _ _ ⟨_, by simp [upd, d5], UP.out (KeptT.refl _ _), rfl, hj.step (Below.refl _ _) (by omega) (fun _ => by decide)⟩
      · have l10 : L.getD 10 false = false := by
          cases h8 : L.getD 10 false
          · rfl
          · have h9 := hj.2.2 h8
            rw [getD_both (by omega) h9] at hLi; cases hLi
        have bA : Below W.heap.size W (W.alloc (.cells #[.slice none 0 0, .int .i64 0] 34)) := (Below.refl _ _).alloc (Nat.le_refl _) _
        refine wpOp_step rfl (fun K hK => ?_)
        clear hdep e0 e1
        go_simp
        exact hK _ _ ⟨.pointer (some ⟨W.heap.size, 0, none⟩), by simp [upd], UP.out (KeptT.of bA), ⟨W.heap.size, _, rfl, hzj, heap_alloc_new _ _, rfl⟩, hj.step bA (by omega) (fun h => by rw [l10] at h; cases h)⟩
      · obtain ⟨B, cs, d9, hB1, hB2, hB3⟩ : ∃ B cs, u 6 = .pointer (some ⟨B, 0, none⟩) ∧ w2.heap.size ≤ B ∧ W.heap[B]? = some (.cells cs 34 (0, 0)) ∧ cs.size = 2 := (hdep _ rfl ⟨9, .data⟩ (by simp) rfl).2
        have l9 := (hdep _ rfl ⟨9, .data⟩ (by simp) rfl).1
        obtain ⟨x, d6, ax⟩ : ∃ x, u 36 = .agg #[x, .int .i64 nr] ∧ AnsO m x W := (hdep _ rfl ⟨6, .data⟩ (by simp) rfl).2
        have ax2 := ax
        obtain ⟨aS, cS, rfl, _⟩ := ax2
        obtain ⟨c0, c1, rfl⟩ : ∃ c0 c1, cs = #[c0, c1] := by
          obtain ⟨cl⟩ := cs
          obtain ⟨c0, c1, rfl⟩ := listTwo (by simpa using hB3)
          exact ⟨c0, c1, rfl⟩
        have q2 := fun o => row_cell hB2 o
        have f2 := fun o => row_frozen hB2 o
        have s1 := row_set hB2 0 (.slice aS m.length cS)
        have s2 := row_set s1 1 (.int .i64 nr)
        have kk : KeptT 34 W ((W.setCell ⟨B, 0, none⟩ (.slice aS m.length cS)).setCell ⟨B, 1, none⟩ (.int .i64 nr)) := (KeptT.set hB2).trans (KeptT.set s1)
        have S2 : Hid (((W.setCell ⟨B, 0, none⟩ (.slice aS m.length cS)).setCell ⟨B, 1, none⟩ (.int .i64 nr)).heap[B]? = some (.cells #[.slice aS m.length cS, .int .i64 nr] 34 (0, 0))) := by rw [Hid]; simpa using s2
        have KK : Hid _ := kk
        have HJ : Hid _ := hj
        have AX : Hid (AnsO m (.slice aS m.length cS) W) := ax
        clear s1 s2 kk hj ax e0 e1 hB2
        refine wpOp_step rfl (fun K hK => ?_)
        clear hdep
        go_simp
        refine hK _ _ ⟨undef, by simp [upd, d9, d6], UP.out KK.out, trivial, ?_⟩
        refine ⟨?_, fun _ => ⟨B, aS, cS, by rw [upd_ne _ _ (by decide)]; exact d9, hB1, S2.out, AX.out.kept KK.out⟩, fun _ => getD_up l9⟩
        exact (HJ.out.1.setCell (by exact hB1) _).setCell (by exact hB1) _
      · have d7 : u 37 = .int .i64 h := (hdep _ rfl ⟨7, .data⟩ (by simp) rfl).2
        refine wpOp_step rfl (fun K hK => ?_)
        clear hdep
        go_simp
        exact hK _ _ ⟨_, by simp [upd, d7], UP.out (KeptT.refl _ _), rfl, hj.step (Below.refl _ _) (by omega) (fun _ => by decide)⟩
    case last =>
      intro L u W hLs hL hj hp
      have d8 : u 38 = .int .i64 cd := hp 8 (by omega)
      have d11 : u 7 = .int .i64 h := hp 11 (by omega)
      obtain ⟨B, aB, cB, d9, hB1, hB2, aX⟩ := hj.2.1 (hL 10 (by omega))
      have AX : Hid (AnsO m (.slice aB m.length cB) W) := aX
      have HB2 : Hid _ := hB2
      have BJ : Hid _ := hj.1
      clear hp hj hB2 aX
      unfold wpTail
      refine wpOp_step rfl (fun K hK => ?_)
      go_simp
      refine hK _ _ ?_
      clear hK
      unfold wpTail
      go_wp2_with fail
      go_meet
      exact ⟨B, aB, cB, by first | rfl | exact d9, by first | rfl | exact d11, by first | rfl | exact d8, HB2, hB1, (Array.getElem?_eq_some_iff.1 HB2.out).1, AX.out.row.2, BJ⟩
  obtain ⟨w3, rfl⟩ : ∃ x, x = wc := ⟨_, rfl⟩
  obtain ⟨B3, aS, cS, rfl, rfl, rfl, C3, hB2, hB3, R3, P3⟩ := hcut
  have q3 : Hid (Below V.heap.size V w3) := q2.out.trans (P3.out.mono q2.out.size)
  have z3 := P3.out.size
  have zv3 := q3.out.size
  have KA : Hid (∀ W, Below w3.heap.size w3 W → ChRow 0 W.heap.size W aS m ∧ W.heap[B3]? = some (.cells #[.slice aS m.length cS, .int .i64 nr] 34 (0, 0)) ∧ Below V.heap.size V W) := fun W h =>
    ⟨ChRow.up R3.out h, (h.block _ hB3).trans C3.out, q3.out.trans (h.mono (by omega))⟩
  have x3 := fun o => row_cell (KV.out _ q3.out).1 o
  clear x2 y2 C3 R3 P3
  go_wp2_with fail
  refine (to_store a c l now _ (KV.out _ q3.out).2.2.1 HE.out).mono ?_
  rintro e w4 ⟨aX, bX, rfl, r4, hb4⟩
  have z4 := hb4.size
  have O4 : Hid (StOwn w3.heap.size w4.heap.size w4 aX l bX) := r4
  have q4 : Hid (Below w3.heap.size w3 w4) := hb4
  have A4 := (KV.out _ (KA.out _ hb4).2.2).2.1
  have p0 := fun ob => (World.cell?_alloc_past (w := w4) ob (w.heap.size + 1) 0 (by omega)).trans (row_cell A4 0)
  have p1 := fun ob => (World.cell?_alloc_past (w := w4) ob (w.heap.size + 1) 1 (by omega)).trans (row_cell A4 1)
  have p2 := fun ob => (World.cell?_alloc_past (w := w4) ob (w.heap.size + 1) 2 (by omega)).trans (row_cell A4 2)
  clear hb4 r4 x3 A4
  go_wp2_with fail
  clear p0 p1 p2
  obtain ⟨vb, hvb⟩ : ∃ W, W = w4.alloc (.cells #[.slice aX l.length l.length, .int .i64 now] 34) := ⟨_, rfl⟩
  rw [← hvb]
  have zvb : w4.heap.size + 1 ≤ vb.heap.size := by rw [hvb]; simp
  have bvb : Below w4.heap.size w4 vb := by rw [hvb]; exact (Below.refl _ _).alloc (Nat.le_refl _) _
  have cvb : vb.heap[w4.heap.size]? = some (.cells #[.slice aX l.length l.length, .int .i64 now] 34 (0, 0)) := by rw [hvb]; exact heap_alloc_new _ _
  have KB : Hid (∀ W, Below vb.heap.size vb W → StOwn w3.heap.size w4.heap.size W aX l bX ∧ W.heap[w4.heap.size]? = some (.cells #[.slice aX l.length l.length, .int .i64 now] 34 (0, 0)) ∧ Below w3.heap.size w3 W) := fun W h =>
    ⟨StOwn.keep (StOwn.keep O4.out (agree bvb (Nat.le_refl _))) (agree h (by omega)), (h.block _ (by omega)).trans cvb, (q4.out.trans (bvb.mono (by omega))).trans (h.mono (by omega))⟩
  clear hvb cvb bvb O4 q4
  refine (to_txn ra wa rq wq st rs ws _ (KV.out _ (KA.out _ (KB.out _ (Below.refl _ _)).2.2).2.2).2.2.2.1 HT.out).mono ?_
  rintro e w5 ⟨rX, wX, rfl, o5, hb5⟩
  have z5 := hb5.size
  have q5 : Hid (Below vb.heap.size vb w5) := hb5
  have O5 : Hid (TxOwn vb.heap.size w5.heap.size w5 rX wX rs ws) := o5
  have A5 := (KB.out _ hb5).2.1
  have p0 := fun ob => (World.cell?_alloc_past (w := w5) ob w4.heap.size 0 (by omega)).trans (row_cell A5 0)
  have p1 := fun ob => (World.cell?_alloc_past (w := w5) ob w4.heap.size 1 (by omega)).trans (row_cell A5 1)
  clear hb5 o5 A5
  go_wp2_with fail
  clear p0 p1
  obtain ⟨vc, hvc⟩ : ∃ W, W = w5.alloc (.cells #[.int .i64 st, .slice rX rs.length rs.length, .slice wX ws.length ws.length] 38) := ⟨_, rfl⟩
  rw [← hvc]
  have zvc : w5.heap.size + 1 ≤ vc.heap.size := by rw [hvc]; simp
  have bvc : Below w5.heap.size w5 vc := by rw [hvc]; exact (Below.refl _ _).alloc (Nat.le_refl _) _
  have cvc : vc.heap[w5.heap.size]? = some (.cells #[.int .i64 st, .slice rX rs.length rs.length, .slice wX ws.length ws.length] 38 (0, 0)) := by rw [hvc]; exact heap_alloc_new _ _
  have KC : Hid (∀ W, Below vc.heap.size vc W → TxOwn vb.heap.size w5.heap.size W rX wX rs ws ∧ W.heap[w5.heap.size]? = some (.cells #[.int .i64 st, .slice rX rs.length rs.length, .slice wX ws.length ws.length] 38 (0, 0)) ∧ Below vb.heap.size vb W) := fun W h =>
    ⟨TxOwn.keep (TxOwn.keep O5.out (agree bvc (Nat.le_refl _))) (agree h (by omega)), (h.block _ (by omega)).trans cvc, (q5.out.trans (bvc.mono (by omega))).trans (h.mono (by omega))⟩
  clear hvc cvc bvc O5 q5
  have T6 := KC.out _ (Below.refl _ _)
  refine (impl_ct aX rX wX _ _ _ l now st rs ws m nr h cd _ (ChRow.wide (KB.out _ T6.2.2).1.row (Nat.zero_le _) (by omega)) HE.out (TxRow.wide T6.1.row (Nat.zero_le _) (by omega)) HT.out (Nat.le_refl _) HY.out).mono ?_
  clear T6
  rintro e w6 ⟨aG, cG, bG, rfl, r6, hb6⟩
  have O6 : Hid (StHas vc.heap.size w6.heap.size w6 aG m bG) := r6
  have z6 := hb6.size
  have q6 : Hid (Below vc.heap.size vc w6) := hb6
  have A6 := (KA.out _ (KB.out _ (KC.out _ hb6).2.2).2.2).2.1
  have p0 := fun ob => (World.cell?_alloc_past (w := w6) ob B3 0 (by omega)).trans (row_cell A6 0)
  have p1 := fun ob => (World.cell?_alloc_past (w := w6) ob B3 1 (by omega)).trans (row_cell A6 1)
  clear r6 hb6 A6
  go_wp2_with fail
  clear p0 p1
  obtain ⟨vd, hvd⟩ : ∃ W, W = w6.alloc (.cells #[.slice aG m.length cG, .int .i64 nr] 34) := ⟨_, rfl⟩
  rw [← hvd]
  have zvd : w6.heap.size + 1 ≤ vd.heap.size := by rw [hvd]; simp
  have bvd : Below w6.heap.size w6 vd := by rw [hvd]; exact (Below.refl _ _).alloc (Nat.le_refl _) _
  have cvd : vd.heap[w6.heap.size]? = some (.cells #[.slice aG m.length cG, .int .i64 nr] 34 (0, 0)) := by rw [hvd]; exact heap_alloc_new _ _
  have KD : Hid (∀ W, Below vd.heap.size vd W → StHas vc.heap.size w6.heap.size W aG m bG ∧ W.heap[w6.heap.size]? = some (.cells #[.slice aG m.length cG, .int .i64 nr] 34 (0, 0)) ∧ Below vc.heap.size vc W) := fun W h =>
    ⟨StHas.keep (StHas.keep O6.out (agree bvd (Nat.le_refl _))) (agree h (by omega)), (h.block _ (by omega)).trans cvd, (q6.out.trans (bvd.mono (by omega))).trans (h.mono (by omega))⟩
  clear hvd cvd bvd O6 q6
  have D0 := KD.out _ (Below.refl _ _)
  refine (eq_store aG aS cG cS m nr _ (ChRow.wide D0.1.row (Nat.zero_le _) (by omega)) (KA.out _ (KB.out _ (KC.out _ D0.2.2).2.2).2.2).1 HF.out).mono ?_
  clear D0
  rintro e w7 ⟨rfl, hb7⟩
  have q7 : Hid (Below vd.heap.size vd w7) := hb7
  have z7 := hb7.size
  have T7 := KC.out _ (KD.out _ hb7).2.2
  have x7 := fun o => row_cell (KB.out _ T7.2.2).2.1 o
  have c7 := fun o => row_cell (KV.out _ (KA.out _ (KB.out _ T7.2.2).2.2).2.2).1 o
  clear hb7 T7
  go_wp2_with fail
  go_cut [68] from 64 to 68 (fun u wx => u = .bool false ∧ Below w7.heap.size w7 wx)
  case first =>
    go_region_with (first
      | (go_at_call 12
         refine Calls.mono (to_store a c l now _ (KV.out _ (KA.out _ (KB.out _ (KC.out _ (KD.out _ q7.out.drew).2.2).2.2).2.2).2.2).2.2.1 HE.out) ?_
         rintro e v6 ⟨a6, b6, rfl, r6, hb6⟩
         have e6 := fun o => (hb6.cell (p := ⟨w4.heap.size, o, none⟩) (show w4.heap.size < w7.heap.size by omega)).trans (x7 o)
         have R6 : Hid (ChRow 0 v6.heap.size v6 a6 l) := ChRow.wide r6.row (Nat.zero_le _) (Nat.le_refl _)
         have p6 : Hid (Below w7.heap.size w7 v6) := (Below.refl _ _).drew.trans (hb6.mono (Nat.le_refl _))
         clear r6 hb6)
      | (go_at_call 15
         refine (eq_store aX _ _ _ l now _ (ChRow.wide (KB.out _ (KC.out _ (KD.out _ (q7.out.trans (p6.out.mono (by omega)))).2.2).2.2).1.row (Nat.zero_le _) (by have := p6.out.size; omega)) R6.out HE.out).mono ?_
         rintro e v7 ⟨rfl, hb7⟩
         have p7 : Hid (Below w7.heap.size w7 v7) := p6.out.trans (hb7.mono (by have := p6.out.size; omega))))
    all_goals (try go_wp2_with fail)
    all_goals go_meet
    all_goals exact ⟨rfl, p7.out⟩
  obtain ⟨w8, rfl⟩ : ∃ x, x = wc := ⟨_, rfl⟩
  obtain ⟨rfl, hb8⟩ := hcut
  have z8 := hb8.size
  have q8 : Hid (Below vd.heap.size vd w8) := q7.out.trans (hb8.mono (by omega))
  have T8 := KC.out _ (KD.out _ q8.out).2.2
  have x8 := fun o => row_cell T8.2.1 o
  have c8 := fun o => row_cell (KV.out _ (KA.out _ (KB.out _ T8.2.2).2.2).2.2).2.1 o
  clear hb8 T8 x7 c7 q7
  go_wp2_with fail
  go_cut [73] from 69 to 73 (fun u wx => u = .bool false ∧ Below w8.heap.size w8 wx)
  case first =>
    go_region_with (first
      | (go_at_call 13
         refine Calls.mono (to_txn ra wa rq wq st rs ws _ (KV.out _ (KA.out _ (KB.out _ (KC.out _ (KD.out _ q8.out.drew).2.2).2.2).2.2).2.2).2.2.2.1 HT.out) ?_
         rintro e v8 ⟨r8, w8', rfl, o8, hb8⟩
         have e8 := fun o => (hb8.cell (p := ⟨w5.heap.size, o, none⟩) (show w5.heap.size < w8.heap.size by omega)).trans (x8 o)
         have O8 : Hid (TxRow 0 v8.heap.size v8 r8 w8' rs ws) := TxRow.wide o8.row (Nat.zero_le _) (Nat.le_refl _)
         have p8 : Hid (Below w8.heap.size w8 v8) := (Below.refl _ _).drew.trans (hb8.mono (Nat.le_refl _))
         clear o8 hb8)
      | (go_at_call 16
         refine (eq_txn rX wX _ _ _ _ _ _ st rs ws _ (TxRow.wide (KC.out _ (KD.out _ (q8.out.trans (p8.out.mono (by omega)))).2.2).1.row (Nat.zero_le _) (by have := p8.out.size; omega)) O8.out HT.out).mono ?_
         rintro e v9 ⟨rfl, hb9⟩
         have p9 : Hid (Below w8.heap.size w8 v9) := p8.out.trans (hb9.mono (by have := p8.out.size; omega))))
    all_goals (try go_wp2_with fail)
    all_goals go_meet
    all_goals exact ⟨rfl, p9.out⟩
  obtain ⟨w9, rfl⟩ : ∃ x, x = wc := ⟨_, rfl⟩
  obtain ⟨rfl, hb9⟩ := hcut
  have z9 := hb9.size
  have q9 : Hid (Below vd.heap.size vd w9) := q8.out.trans (hb9.mono (by omega))
  have T9 := KC.out _ (KD.out _ q9.out).2.2
  have x9 := fun o => row_cell (KB.out _ T9.2.2).2.1 o
  clear hb9 T9 x8 c8 q8
  go_wp2_with fail
  clear x9
  have T9 := KC.out _ (KD.out _ q9.out).2.2
  refine (mark_has aX _ l now w3.heap.size w4.heap.size bX 1 _ (.inr (KB.out _ T9.2.2).1) HE.out HSZ.out (by omega) (by omega) (by omega)).mono ?_
  clear T9
  rintro e wE ⟨rE, rfl, hrE, _, kE⟩
  have zE := kE.size
  have TD := KD.out _ q9.out
  have TC := KC.out _ TD.2.2
  have UE : Hid (Below w3.heap.size w3 wE) := (KB.out _ TC.2.2).2.2.trans (kE.below (by omega) (Nat.le_refl _))
  have OE : Hid (StHas vc.heap.size w6.heap.size wE aG m bG) := StHas.keep TD.1 (kE.agree (by omega) (.inr (by omega)))
  have GE : Hid (wE.heap[w6.heap.size]? = some (.cells #[.slice aG m.length cG, .int .i64 nr] 34 (0, 0))) := (kE.block _ (by omega) (by omega)).trans TD.2.1
  have XE : Hid (TxOwn vb.heap.size w5.heap.size wE rX wX rs ws) := TxOwn.keep TC.1 (kE.agree (by omega) (.inr (by omega)))
  have x10 := fun o => row_cell ((kE.block w5.heap.size (by omega) (by omega)).trans TC.2.1) o
  have hrE1 : 0 ≤ rE := by omega
  have hrE2 : rE ≤ 3298534883328 := by have := HSZ.out; omega
  clear TD TC hrE kE q9
  go_wp2_with fail
  clear x10
  refine (mark_txn rX wX _ _ st rs ws vb.heap.size w5.heap.size rE _ XE.out HT.out (by omega) hrE1 hrE2).mono ?_
  rintro e wM ⟨rM, rfl, hrM, _, kM⟩
  have hr0 : ¬ rM < 0 := by omega
  have zM := kM.size
  have UM : Hid (Below w3.heap.size w3 wM) := UE.out.trans (kM.below (by omega) (by omega))
  have OM : Hid (StHas vc.heap.size w6.heap.size wM aG m bG) := StHas.keep OE.out (kM.agree (by omega) (.inr (by omega)))
  have GM : Hid (wM.heap[w6.heap.size]? = some (.cells #[.slice aG m.length cG, .int .i64 nr] 34 (0, 0))) := (kM.block _ (by omega) (by omega)).trans GE.out
  clear hrM kM UE OE GE XE hrE1 hrE2
  have KE : Hid (∀ W, Below wM.heap.size wM W → StHas vc.heap.size w6.heap.size W aG m bG ∧ W.heap[w6.heap.size]? = some (.cells #[.slice aG m.length cG, .int .i64 nr] 34 (0, 0)) ∧ Below w3.heap.size w3 W) := fun W h =>
    ⟨StHas.keep OM.out (agree h (by omega)), (h.block _ (by omega)).trans GM.out, UM.out.trans (h.mono (by omega))⟩
  clear OM GM UM KD KC KB
  have T8 := KE.out _ (Below.refl _ _)
  have x8 := fun o => row_cell T8.2.1 o
  have s8 := fun o => row_cell (KA.out _ T8.2.2).2.1 o
  clear T8
  go_wp2_with fail
  have T8 := KE.out _ (Below.refl _ _)
  refine (eq_store aG aS cG cS m nr _ (ChRow.wide T8.1.row (Nat.zero_le _) (by omega)) (KA.out _ T8.2.2).1 HF.out).mono ?_
  clear T8 x8 s8
  rintro e w10 ⟨rfl, hb10⟩
  have Q10 : Hid (Below wM.heap.size wM w10) := hb10
  have z10 := hb10.size
  have x10 := fun o => row_cell (KE.out _ hb10).2.1 o
  clear hb10
  go_wp2_with fail
  clear x10
  refine (mark_has aG _ m nr vc.heap.size w6.heap.size bG 1 _ (KE.out _ Q10.out).1 HF.out (by omega) (by omega) (by omega) (by omega)).mono ?_
  rintro e wA ⟨rA, rfl, hrA, mA, kA⟩
  have zA := kA.size
  have MA : Hid (StMkd vc.heap.size w6.heap.size wA aG m bG 1) := mA
  have GA : Hid (wA.heap[w6.heap.size]? = some (.cells #[.slice aG m.length cG, .int .i64 nr] 34 (0, 0))) := (kA.block _ (by omega) (by omega)).trans (KE.out _ Q10.out).2.1
  have UA : Hid (Below w3.heap.size w3 wA) := (KE.out _ Q10.out).2.2.trans (kA.below (by omega) (by omega))
  have HRA : Hid (rA = 1 + 2 * sizeN m) := hrA
  clear mA kA KE hrA
  have KF : Hid (∀ W, Below wA.heap.size wA W → StMkd vc.heap.size w6.heap.size W aG m bG 1 ∧ W.heap[w6.heap.size]? = some (.cells #[.slice aG m.length cG, .int .i64 nr] 34 (0, 0)) ∧ Below w3.heap.size w3 W) := fun W h =>
    ⟨StMkd.keep MA.out (agree h (by omega)), (h.block _ (by omega)).trans GA.out, UA.out.trans (h.mono (by omega))⟩
  have xA := fun o => row_cell GA.out o
  clear MA GA UA
  go_wp2_with fail
  clear xA
  refine (held_has aG _ m nr vc.heap.size w6.heap.size bG 1 _ (KF.out _ (Below.refl _ _)).1 HF.out (by omega) (by omega) (by omega) (by omega)).mono ?_
  rintro e wB ⟨rB, rfl, hrB, hbB⟩
  obtain rfl : rA = rB := by rw [hrB]; exact HRA.out
  have hrp : ¬ rA < 0 := by have := HRA.out; omega
  have QB : Hid (Below wA.heap.size wA wB) := hbB
  have zB := hbB.size
  have qB : Hid (Below V.heap.size V wB) := (KA.out _ (KF.out _ hbB).2.2).2.2
  have cB := fun o => row_cell (KV.out _ qB.out).1 o
  have dB := fun o => row_cell (KV.out _ qB.out).2.1 o
  clear hrB hbB
  go_wp2_with fail
  clear cB dB
  go_cut [17, 18, 19] from 109 to 117 (fun p u v wx => ∃ B aS cS, p = .pointer (some ⟨B, 0, none⟩) ∧ u = .int .i64 h ∧ v = .int .i64 cd ∧ Hid (wx.heap[B]? = some (.cells #[.slice aS m.length cS, .int .i64 nr] 34 (0, 0))) ∧ wB.heap.size ≤ B ∧ B < wx.heap.size ∧ Hid (ChRow 0 wx.heap.size wx aS m) ∧ Hid (Below wB.heap.size wB wx))
  case first =>
    refine region_rel5 (n := 12) (k := 1) (by omega) (by kernel_rfl) (by kernel_rfl) (by kernel_rfl) (fun u => ⟨#[.agg #[.slice a (List.length l) c, .int .i64 now], .agg #[.int .i64 st, .slice ra rs.length rq, .slice wa ws.length wq], .pointer (some ⟨w.heap.size, 0, none⟩), .pointer (some ⟨w.heap.size + 1, 0, none⟩), .bool false, .int .i64 mp, .pointer (some ⟨B3, 0, none⟩), .int .i64 h, .int .i64 cd, .pointer (some ⟨w4.heap.size, 0, none⟩), .pointer (some ⟨w5.heap.size, 0, none⟩), .pointer (some ⟨w6.heap.size, 0, none⟩), .int .i64 h, .int .i64 cd, .int .i64 rM, .int .i64 rA, .int .i64 rA, u 17, u 18, undef, .agg #[.slice a (List.length l) c, .int .i64 now], .int .i64 1048576, .int .i64 mz, .int .i64 mz, .bool (decide (mz < 0)), .agg #[.int .i64 st, .slice ra rs.length rq, .slice wa ws.length wq], .int .i64 mz, .int .i64 mp, .int .i64 mp, .bool (decide (mp < 0)), u30, u31, u32, u33, u34, u35, u36, u37, u38, .agg #[.slice a (List.length l) c, .int .i64 now], .agg #[.slice aX (List.length l) (List.length l), .int .i64 now], .agg #[.int .i64 st, .slice ra rs.length rq, .slice wa ws.length wq], .agg #[.int .i64 st, .slice rX rs.length rs.length, .slice wX ws.length ws.length], .tuple #[.agg #[.slice aG (List.length m) cG, .int .i64 nr], .int .i64 h, .int .i64 cd], .agg #[.slice aX (List.length l) (List.length l), .int .i64 now], .agg #[.int .i64 st, .slice rX rs.length rs.length, .slice wX ws.length ws.length], .tuple #[.agg #[.slice aG (List.length m) cG, .int .i64 nr], .int .i64 h, .int .i64 cd], .agg #[.slice aG (List.length m) cG, .int .i64 nr], .int .i64 h, .int .i64 cd, .agg #[.slice aG (List.length m) cG, .int .i64 nr], .agg #[.slice aS (List.length m) cS, .int .i64 nr], .bool true, .bool false, .bool false, .int .i64 h, .int .i64 h, .bool false, .bool false, .bool false, .int .i64 cd, .int .i64 cd, .bool false, .bool false, u64, u65, u66, u67, .bool false, u69, u70, u71, u72, .bool false, .agg #[.slice aX (List.length l) (List.length l), .int .i64 now], .int .i64 1, .int .i64 rE, .agg #[.int .i64 st, .slice rX rs.length rs.length, .slice wX ws.length ws.length], .int .i64 rE, .int .i64 rM, .int .i64 rM, .bool (decide (rM < 0)), .bool (decide (rM < 0)), .agg #[.slice aG (List.length m) cG, .int .i64 nr], .agg #[.slice aS (List.length m) cS, .int .i64 nr], .bool true, .bool false, .bool (decide (rM < 0)), .bool (decide (rM < 0)), .int .i64 h, .int .i64 h, .bool false, .bool (decide (rM < 0)), .bool (decide (rM < 0)), .int .i64 cd, .int .i64 cd, .bool false, .bool (decide (rM < 0)), .agg #[.slice aG (List.length m) cG, .int .i64 nr], .int .i64 1, .int .i64 rA, .agg #[.slice aG (List.length m) cG, .int .i64 nr], .int .i64 1, .int .i64 rA, .int .i64 rA, .bool (decide (rA < 0)), .int .i64 rA, .int .i64 rA, .bool false, u 109, u 110, u 111, u 112, u 113, u 114, u 115, u 116, u 117, undef, undef, undef, undef, undef, undef, undef, undef, undef, undef, undef, undef, undef, undef, undef, undef, undef, undef, undef, undef, undef, undef], []⟩) (fun _ => undef) (fun i => match i with | 0 => 110 | 1 => 111 | 2 => 112 | 3 => 113 | 4 => 114 | 5 => 109 | 6 => 115 | 7 => 116 | 8 => 117 | 9 => 17 | 11 => 18 | _ => 400) (fun i j hi hj hh => by
        have h1 : i = 0 ∨ i = 1 ∨ i = 2 ∨ i = 3 ∨ i = 4 ∨ i = 5 ∨ i = 6 ∨ i = 7 ∨ i = 8 ∨ i = 9 ∨ i = 10 ∨ i = 11 := by omega
        have h2 : j = 0 ∨ j = 1 ∨ j = 2 ∨ j = 3 ∨ j = 4 ∨ j = 5 ∨ j = 6 ∨ j = 7 ∨ j = 8 ∨ j = 9 ∨ j = 10 ∨ j = 11 := by omega
        rcases h1 with rfl | rfl | rfl | rfl | rfl | rfl | rfl | rfl | rfl | rfl | rfl | rfl <;> rcases h2 with rfl | rfl | rfl | rfl | rfl | rfl | rfl | rfl | rfl | rfl | rfl | rfl <;> first | rfl | (simp at hh))
      (fun i y W => match i with | 0 => y = .agg #[.slice a l.length c, .int .i64 now] | 1 => ∃ a3 bs, y = .agg #[.slice a3 l.length l.length, .int .i64 now] ∧ StOwn 0 W.heap.size W a3 l bs | 2 => y = .agg #[.int .i64 st, .slice ra rs.length rq, .slice wa ws.length wq] | 3 => ∃ r3 w3, y = .agg #[.int .i64 st, .slice r3 rs.length rs.length, .slice w3 ws.length ws.length] ∧ TxOwn 0 W.heap.size W r3 w3 rs ws | 4 => ∃ x, y = .tuple #[.agg #[x, .int .i64 nr], .int .i64 h, .int .i64 cd] ∧ AnsO m x W | 5 => ∃ x, y = .tuple #[.agg #[x, .int .i64 nr], .int .i64 h, .int .i64 cd] ∧ AnsO m x W | 6 => ∃ x, y = .agg #[x, .int .i64 nr] ∧ AnsO m x W | 7 => y = .int .i64 h | 8 => y = .int .i64 cd | 9 => ∃ B cs, y = .pointer (some ⟨B, 0, none⟩) ∧ wB.heap.size ≤ B ∧ W.heap[B]? = some (.cells cs 34 (0, 0)) ∧ cs.size = 2 | 10 => True | _ => y = .int .i64 h) (AnJ 10 9 17 m nr wB) AnJ.start ?step ?last
    case step =>
      intro L u W i hi hLs hLi hj hdep
      have hzj := hj.1.size
      have qW : Hid (Below V.heap.size V W) := qB.out.trans (hj.1.mono qB.out.size)
      obtain ⟨t0, t1, t2, t3, t4⟩ := KV.out _ qW.out
      have e0 := fun o => row_cell t0 o
      have e1 := fun o => row_cell t1 o
      have TS : Hid _ := t2
      have TX : Hid _ := t3
      clear t0 t1 t2 t3 t4
      have up : ∀ {W' : World}, KeptT 34 W W' → ∀ (j : Nat) (y : Value), (fun i y W => match i with | 0 => y = .agg #[.slice a l.length c, .int .i64 now] | 1 => ∃ a3 bs, y = .agg #[.slice a3 l.length l.length, .int .i64 now] ∧ StOwn 0 W.heap.size W a3 l bs | 2 => y = .agg #[.int .i64 st, .slice ra rs.length rq, .slice wa ws.length wq] | 3 => ∃ r3 w3, y = .agg #[.int .i64 st, .slice r3 rs.length rs.length, .slice w3 ws.length ws.length] ∧ TxOwn 0 W.heap.size W r3 w3 rs ws | 4 => ∃ x, y = .tuple #[.agg #[x, .int .i64 nr], .int .i64 h, .int .i64 cd] ∧ AnsO m x W | 5 => ∃ x, y = .tuple #[.agg #[x, .int .i64 nr], .int .i64 h, .int .i64 cd] ∧ AnsO m x W | 6 => ∃ x, y = .agg #[x, .int .i64 nr] ∧ AnsO m x W | 7 => y = .int .i64 h | 8 => y = .int .i64 cd | 9 => ∃ B cs, y = .pointer (some ⟨B, 0, none⟩) ∧ wB.heap.size ≤ B ∧ W.heap[B]? = some (.cells cs 34 (0, 0)) ∧ cs.size = 2 | 10 => True | _ => y = .int .i64 h) j y W → (fun i y W => match i with | 0 => y = .agg #[.slice a l.length c, .int .i64 now] | 1 => ∃ a3 bs, y = .agg #[.slice a3 l.length l.length, .int .i64 now] ∧ StOwn 0 W.heap.size W a3 l bs | 2 => y = .agg #[.int .i64 st, .slice ra rs.length rq, .slice wa ws.length wq] | 3 => ∃ r3 w3, y = .agg #[.int .i64 st, .slice r3 rs.length rs.length, .slice w3 ws.length ws.length] ∧ TxOwn 0 W.heap.size W r3 w3 rs ws | 4 => ∃ x, y = .tuple #[.agg #[x, .int .i64 nr], .int .i64 h, .int .i64 cd] ∧ AnsO m x W | 5 => ∃ x, y = .tuple #[.agg #[x, .int .i64 nr], .int .i64 h, .int .i64 cd] ∧ AnsO m x W | 6 => ∃ x, y = .agg #[x, .int .i64 nr] ∧ AnsO m x W | 7 => y = .int .i64 h | 8 => y = .int .i64 cd | 9 => ∃ B cs, y = .pointer (some ⟨B, 0, none⟩) ∧ wB.heap.size ≤ B ∧ W.heap[B]? = some (.cells cs 34 (0, 0)) ∧ cs.size = 2 | 10 => True | _ => y = .int .i64 h) j y W' := fun {W'} hk j y hy => by
        match j, hy with
        | 0, hy => exact hy
        | 1, ⟨a3, bs, e, ho⟩ => exact ⟨a3, bs, e, ho.kept hk (by decide) (by decide)⟩
        | 2, hy => exact hy
        | 3, ⟨r3, w3, e, ho⟩ => exact ⟨r3, w3, e, ho.kept hk (by decide) (by decide)⟩
        | 4, ⟨x, e, ho⟩ => exact ⟨x, e, ho.kept hk⟩
        | 5, ⟨x, e, ho⟩ => exact ⟨x, e, ho.kept hk⟩
        | 6, ⟨x, e, ho⟩ => exact ⟨x, e, ho.kept hk⟩
        | 7, hy => exact hy
        | 8, hy => exact hy
        | 9, ⟨B, cs, e, h1, h2, h3⟩ =>
          obtain ⟨cs', g1, g2, _⟩ := hk.2 B _ cs h2
          exact ⟨B, cs', e, h1, g1, by omega⟩
        | 10, _ => trivial
        | j + 11, hy => exact hy
      have UP : Hid _ := @up
      clear up
      have hcase : i = 0 ∨ i = 1 ∨ i = 2 ∨ i = 3 ∨ i = 4 ∨ i = 5 ∨ i = 6 ∨ i = 7 ∨ i = 8 ∨ i = 9 ∨ i = 10 ∨ i = 11 := by omega
      rcases hcase with rfl | rfl | rfl | rfl | rfl | rfl | rfl | rfl | rfl | rfl | rfl | rfl
      · refine wpOp_step rfl (fun K hK => ?_)
        clear hdep
        go_simp
        exact hK _ _ ⟨_, rfl, UP.out (KeptT.refl _ _), rfl, hj.step (Below.refl _ _) (by omega) (fun _ => by decide)⟩
      · have d0 : u 110 = .agg #[.slice a l.length c, .int .i64 now] := (hdep _ rfl ⟨0, .data⟩ (by simp) rfl).2
        refine wpOp_step rfl (fun K hK => ?_)
        clear hdep e0 e1
        go_simp
        refine (to_store a c l now _ TS.out HE.out).mono ?_
        rintro e v3 ⟨a3, b3, rfl, r3, hb3⟩
        exact hK _ _ ⟨.agg #[.slice a3 l.length l.length, .int .i64 now], by simp [upd, d0], UP.out (KeptT.of hb3), ⟨a3, b3, rfl, StOwn.wide r3 (Nat.zero_le _) (Nat.le_refl _)⟩, hj.step hb3 (by omega) (fun _ => by decide)⟩
      · refine wpOp_step rfl (fun K hK => ?_)
        clear hdep
        go_simp
        exact hK _ _ ⟨_, rfl, UP.out (KeptT.refl _ _), rfl, hj.step (Below.refl _ _) (by omega) (fun _ => by decide)⟩
      · have d2 : u 112 = .agg #[.int .i64 st, .slice ra rs.length rq, .slice wa ws.length wq] := (hdep _ rfl ⟨2, .data⟩ (by simp) rfl).2
        refine wpOp_step rfl (fun K hK => ?_)
        clear hdep e0 e1
        go_simp
        refine (to_txn ra wa rq wq st rs ws _ TX.out HT.out).mono ?_
        rintro e v3 ⟨r3, w3, rfl, o3, hb3⟩
        exact hK _ _ ⟨.agg #[.int .i64 st, .slice r3 rs.length rs.length, .slice w3 ws.length ws.length], by simp [upd, d2], UP.out (KeptT.of hb3), ⟨r3, w3, rfl, TxOwn.wide o3 (Nat.zero_le _) (Nat.le_refl _)⟩, hj.step hb3 (by omega) (fun _ => by decide)⟩
      · obtain ⟨a3, b3, d1, o1⟩ : ∃ a3 bs, u 111 = .agg #[.slice a3 l.length l.length, .int .i64 now] ∧ StOwn 0 W.heap.size W a3 l bs := (hdep _ rfl ⟨1, .data⟩ (by simp) rfl).2
        obtain ⟨r3, w3, d3, o3⟩ : ∃ r3 w3, u 113 = .agg #[.int .i64 st, .slice r3 rs.length rs.length, .slice w3 ws.length ws.length] ∧ TxOwn 0 W.heap.size W r3 w3 rs ws := (hdep _ rfl ⟨3, .data⟩ (by simp) rfl).2
        refine wpOp_step rfl (fun K hK => ?_)
        clear hdep e0 e1
        go_simp
        refine (impl_ct a3 r3 w3 _ _ _ l now st rs ws m nr h cd _ o1.row HE.out o3.row HT.out (Nat.le_refl _) HY.out).mono ?_
        rintro e v5 ⟨aS, cS, bS, rfl, ox, hb5⟩
        exact hK _ _ ⟨.tuple #[.agg #[.slice aS m.length cS, .int .i64 nr], .int .i64 h, .int .i64 cd], by simp [upd, d1, d3], UP.out (KeptT.of hb5), ⟨_, rfl, aS, cS, rfl, .inr ⟨_, bS, ox⟩⟩, hj.step hb5 (by omega) (fun _ => by decide)⟩
      · obtain ⟨x, d4, ax⟩ : ∃ x, u 114 = .tuple #[.agg #[x, .int .i64 nr], .int .i64 h, .int .i64 cd] ∧ AnsO m x W := (hdep _ rfl ⟨4, .data⟩ (by simp) rfl).2
        refine wpOp_step rfl (fun K hK => ?_)
        clear hdep
        go_simp
        exact hK _ _ ⟨_, by simp [upd, d4], UP.out (KeptT.refl _ _), ⟨x, rfl, ax⟩, hj.step (Below.refl _ _) (by omega) (fun _ => by decide)⟩
      · obtain ⟨x, d5, ax⟩ : ∃ x, u 109 = .tuple #[.agg #[x, .int .i64 nr], .int .i64 h, .int .i64 cd] ∧ AnsO m x W := (hdep _ rfl ⟨5, .data⟩ (by simp) rfl).2
        refine wpOp_step rfl (fun K hK => ?_)
        clear hdep
        go_simp
        exact hK _ _ ⟨_, by simp [upd, d5], UP.out (KeptT.refl _ _), ⟨x, rfl, ax⟩, hj.step (Below.refl _ _) (by omega) (fun _ => by decide)⟩
      · obtain ⟨x, d5, ax⟩ : ∃ x, u 109 = .tuple #[.agg #[x, .int .i64 nr], .int .i64 h, .int .i64 cd] ∧ AnsO m x W := (hdep _ rfl ⟨5, .data⟩ (by simp) rfl).2
        refine wpOp_step rfl (fun K hK => ?_)
        clear hdep
        go_simp
        exact hK _ _ ⟨_, by simp [upd, d5], UP.out (KeptT.refl _ _), rfl, hj.step (Below.refl _ _) (by omega) (fun _ => by decide)⟩
      · obtain ⟨x, d5, ax⟩ : ∃ x, u 109 = .tuple #[.agg #[x, .int .i64 nr], .int .i64 h, .int .i64 cd] ∧ AnsO m x W := (hdep _ rfl ⟨5, .data⟩ (by simp) rfl).2
        refine wpOp_step rfl (fun K hK => ?_)
        clear hdep
        go_simp
        exact hK _ _ ⟨_, by simp [upd, d5], UP.out (KeptT.refl _ _), rfl, hj.step (Below.refl _ _) (by omega) (fun _ => by decide)⟩
      · have l10 : L.getD 10 false = false := by
          cases h8 : L.getD 10 false
          · rfl
          · have h9 := hj.2.2 h8
            rw [getD_both (by omega) h9] at hLi; cases hLi
        have bA : Below W.heap.size W (W.alloc (.cells #[.slice none 0 0, .int .i64 0] 34)) := (Below.refl _ _).alloc (Nat.le_refl _) _
        refine wpOp_step rfl (fun K hK => ?_)
        clear hdep e0 e1
        go_simp
        exact hK _ _ ⟨.pointer (some ⟨W.heap.size, 0, none⟩), by simp [upd], UP.out (KeptT.of bA), ⟨W.heap.size, _, rfl, hzj, heap_alloc_new _ _, rfl⟩, hj.step bA (by omega) (fun h => by rw [l10] at h; cases h)⟩
      · obtain ⟨B, cs, d9, hB1, hB2, hB3⟩ : ∃ B cs, u 17 = .pointer (some ⟨B, 0, none⟩) ∧ wB.heap.size ≤ B ∧ W.heap[B]? = some (.cells cs 34 (0, 0)) ∧ cs.size = 2 := (hdep _ rfl ⟨9, .data⟩ (by simp) rfl).2
        have l9 := (hdep _ rfl ⟨9, .data⟩ (by simp) rfl).1
        obtain ⟨x, d6, ax⟩ : ∃ x, u 115 = .agg #[x, .int .i64 nr] ∧ AnsO m x W := (hdep _ rfl ⟨6, .data⟩ (by simp) rfl).2
        have ax2 := ax
        obtain ⟨aS, cS, rfl, _⟩ := ax2
        obtain ⟨c0, c1, rfl⟩ : ∃ c0 c1, cs = #[c0, c1] := by
          obtain ⟨cl⟩ := cs
          obtain ⟨c0, c1, rfl⟩ := listTwo (by simpa using hB3)
          exact ⟨c0, c1, rfl⟩
        have q2 := fun o => row_cell hB2 o
        have f2 := fun o => row_frozen hB2 o
        have s1 := row_set hB2 0 (.slice aS m.length cS)
        have s2 := row_set s1 1 (.int .i64 nr)
        have kk : KeptT 34 W ((W.setCell ⟨B, 0, none⟩ (.slice aS m.length cS)).setCell ⟨B, 1, none⟩ (.int .i64 nr)) := (KeptT.set hB2).trans (KeptT.set s1)
        have S2 : Hid (((W.setCell ⟨B, 0, none⟩ (.slice aS m.length cS)).setCell ⟨B, 1, none⟩ (.int .i64 nr)).heap[B]? = some (.cells #[.slice aS m.length cS, .int .i64 nr] 34 (0, 0))) := by rw [Hid]; simpa using s2
        have KK : Hid _ := kk
        have HJ : Hid _ := hj
        have AX : Hid (AnsO m (.slice aS m.length cS) W) := ax
        clear s1 s2 kk hj ax e0 e1 hB2
        refine wpOp_step rfl (fun K hK => ?_)
        clear hdep
        go_simp
        refine hK _ _ ⟨undef, by simp [upd, d9, d6], UP.out KK.out, trivial, ?_⟩
        refine ⟨?_, fun _ => ⟨B, aS, cS, by rw [upd_ne _ _ (by decide)]; exact d9, hB1, S2.out, AX.out.kept KK.out⟩, fun _ => getD_up l9⟩
        exact (HJ.out.1.setCell (by exact hB1) _).setCell (by exact hB1) _
      · have d7 : u 116 = .int .i64 h := (hdep _ rfl ⟨7, .data⟩ (by simp) rfl).2
        refine wpOp_step rfl (fun K hK => ?_)
        clear hdep
        go_simp
        exact hK _ _ ⟨_, by simp [upd, d7], UP.out (KeptT.refl _ _), rfl, hj.step (Below.refl _ _) (by omega) (fun _ => by decide)⟩
    case last =>
      intro L u W hLs hL hj hp
      have d8 : u 117 = .int .i64 cd := hp 8 (by omega)
      have d11 : u 18 = .int .i64 h := hp 11 (by omega)
      obtain ⟨B, aB, cB, d9, hB1, hB2, aX⟩ := hj.2.1 (hL 10 (by omega))
      have AX : Hid (AnsO m (.slice aB m.length cB) W) := aX
      have HB2 : Hid _ := hB2
      have BJ : Hid _ := hj.1
      clear hp hj hB2 aX
      unfold wpTail
      refine wpOp_step rfl (fun K hK => ?_)
      go_simp
      refine hK _ _ ?_
      clear hK
      unfold wpTail
      go_wp2_with fail
      go_meet
      exact ⟨B, aB, cB, by first | rfl | exact d9, by first | rfl | exact d11, by first | rfl | exact d8, HB2, hB1, (Array.getElem?_eq_some_iff.1 HB2.out).1, AX.out.row.2, BJ⟩
  obtain ⟨wH, rfl⟩ : ∃ x, x = wc := ⟨_, rfl⟩
  obtain ⟨BH, aH, cH, rfl, rfl, rfl, CH, hBH, hBH2, RH, PH⟩ := hcut
  have QH : Hid (Below wA.heap.size wA wH) := QB.out.trans (PH.out.mono (by omega))
  have zH := PH.out.size
  have xh := fun o => row_cell CH.out o
  have xs := fun o => row_cell (KA.out _ (KF.out _ QH.out).2.2).2.1 o
  clear PH CH
  go_wp2_with fail
  clear xh xs
  refine (eq_store aH aS cH cS m nr _ RH.out (KA.out _ (KF.out _ QH.out).2.2).1 HF.out).mono ?_
  rintro e wI ⟨rfl, hbI⟩
  have QI : Hid (Below wA.heap.size wA wI) := QH.out.trans (hbI.mono (by omega))
  have zI := hbI.size
  have xI := fun o => row_cell (KF.out _ QI.out).2.1 o
  clear hbI RH
  go_wp2_with fail
  clear xI
  refine (held_has aG _ m nr vc.heap.size w6.heap.size bG 1 _ (KF.out _ QI.out).1 HF.out (by omega) (by omega) (by omega) (by omega)).mono ?_
  rintro e wF ⟨rF, rfl, hrF, hbF⟩
  obtain rfl : rA = rF := by rw [hrF]; exact HRA.out
  have QF : Hid (Below w.heap.size w wF) := (KV.out _ (KA.out _ (KF.out _ (QI.out.trans (hbF.mono (by omega)))).2.2).2.2).2.2.2.2
  clear hrF hbF
  go_wp2_with fail
  go_ret
  exact ⟨rfl, QF.out⟩

set_option maxRecDepth 100000 in
theorem lifted (os : Os) (started : os.Started) (H : Type) (enc : TypeId × Value → H) :
    ReturnsInHanded {} Try.checked os 8 .any (Rows.fnExactCommitSpec.pre6 enc Try.prog Try.f8 Rows.fnExactCommitRow.domain false) (Rows.fnExactCommitSpec.post enc Try.prog Try.f8 false true false false) := by
  refine returnsInHanded_of_change (C := Try.checked) own started (by kernel_rfl) Try.func8
    (ChangeSpec.witness6 (enc := enc) (C := Try.checked) false ⟨#[], #[.agg #[.slice none 0 0, .int .i64 0], .agg #[.int .i64 0, .slice none 0 0, .slice none 0 0]], []⟩ 8 (by kernel_rfl) (by kernel_rfl) (by kernel_rfl) (by kernel_rfl)) ?_
  intro W base args ds gs before hval0 hW hcnd _
  have hval : ∀ (j : Nat) t v, Try.f8.params[j]? = some t → args[j]? = some v → Value.okWide Try.prog W .any base t v := hval0
  have hW' := hW
  obtain ⟨p, q, hA0, hV, rfl, hfz, hnd⟩ := hW
  have hA : DataW.TrodAll enc Try.prog W 0 (fun _ => true) true Try.f8.params.toList args.toList ds p := hA0
  rw [Try.params8] at hA hval
  obtain ⟨v0, vs0, d0, ds0, p0, q0, hargs, rfl, rfl, h0, r0⟩ := trodAll_cons hA
  obtain ⟨v1, vs1, d1, ds1, p1, q1, rfl, rfl, rfl, h1, r1⟩ := trodAll_cons r0
  obtain ⟨rfl, rfl, rfl⟩ := trodAll_nil r1
  obtain rfl : args = #[v0, v1] := by cases args; simp_all
  obtain ⟨rfl, rfl⟩ := trodVars_none hV
  have g0 := h0
  have lt0 : ∀ x ∈ p0, x.block < W.heap.size := by obtain ⟨m, hm⟩ := g0; exact DataW.trod_lt m _ _ _ hm
  obtain ⟨a0, c0, l0, n0, rfl, hb0, hr0⟩ : ∃ a c, ∃ l : Chs, ∃ n : Int, v0 = .agg #[.slice a l.length c, .int .i64 n] ∧ ChsBd maxLen l ∧ ChRow 0 W.heap.size W a l := by
    obtain ⟨cs, rfl, hsz⟩ := okWide_struct Try.underlying24 (hval 0 24 v0 rfl rfl)
    obtain ⟨fuel, hf⟩ := h0
    obtain ⟨y0, y1, n, hx, hlen, h1, h2⟩ := trod_struct2 Try.underlying24 hf
    have cd : Try.prog.cellsOf 24 = 2 := by kernel_rfl
    have c1 : Try.prog.cellsOf 22 = 1 := by kernel_rfl
    have ci : Try.prog.cellsOf 3 = 1 := by kernel_rfl
    obtain ⟨u⟩ := cs
    have hu : u.length = 2 := by rw [cd] at hsz; simpa using hsz
    obtain ⟨q0, q1, rfl⟩ := listTwo hu
    obtain ⟨a, c, l, e, hb, hr⟩ := Chs_open (by simpa [Value.cells, c1] using h1)
    obtain ⟨z, e2, _, _⟩ := DataW.trod_int Try.underlying3 h2
    simp [Value.cells, ci] at e e2
    subst e e2
    exact ⟨a, c, l, z, rfl, hb, hr⟩
  have g1 := h1
  have lt1 : ∀ x ∈ p1, x.block < W.heap.size := by obtain ⟨m, hm⟩ := g1; exact DataW.trod_lt m _ _ _ hm
  obtain ⟨st1, ta1, rc1, rs1, tw1, wc1, ws1, rfl, hb1, hr1⟩ : ∃ (st : Int) (ra : Option Addr) (rc : Nat) (rs : List Int) (wa : Option Addr) (wc : Nat) (ws : List Ve), v1 = .agg #[.int .i64 st, .slice ra rs.length rc, .slice wa ws.length wc] ∧ TxBd maxLen rs ws ∧ TxRow 0 W.heap.size W ra wa rs ws := by
    obtain ⟨cs, rfl, hsz⟩ := okWide_struct Try.underlying28 (hval 1 28 v1 rfl rfl)
    obtain ⟨fuel, hf⟩ := h1
    have cd : Try.prog.cellsOf 28 = 3 := by kernel_rfl
    have ci : Try.prog.cellsOf 3 = 1 := by kernel_rfl
    have c1 : Try.prog.cellsOf 25 = 1 := by kernel_rfl
    have c2 : Try.prog.cellsOf 26 = 1 := by kernel_rfl
    obtain ⟨u⟩ := cs
    have hu : u.length = 3 := by rw [cd] at hsz; simpa using hsz
    obtain ⟨u0, u1, u2, rfl⟩ := listThree hu
    obtain ⟨xs, n', rfl, hx, _, hxl, hf⟩ := DataW.trod_struct Try.underlying28 hf
    obtain ⟨y0, y1, y2, rfl⟩ := listThree hxl
    obtain ⟨k, e0, _, _⟩ := DataW.trod_int Try.underlying3 (hf 0 _ rfl)
    obtain ⟨a1, k1, l1, e1, b1, d1⟩ := Nus_open (hf 1 _ rfl)
    obtain ⟨a2, k2, l2, e2, _, b2, d2⟩ := Pus_open (hf 2 _ rfl)
    simp [Value.cells, ci, c1, c2] at e0 e1 e2
    subst e0 e1 e2
    exact ⟨k, a1, k1, l1, a2, k2, l2, rfl, ⟨b1, b2⟩, d1, d2⟩
  clear hA0 hval0
  refine (walk a0 c0 l0 n0 ta1 tw1 rc1 wc1 st1 rs1 ws1 W hr0 hb0 hr1 hb1).mono fun e W' ⟨he, bel⟩ => ?_
  subst he
  exact ⟨_, rfl, _, _, _, [], _, [], hW', trodAll_mk1 (shut_bool Try.underlying4 _), (trodAll_cons_mk (Below.trod laidOut (by kernel_rfl) (of_decide_eq_true (by kernel_rfl)) g0 bel lt0) (trodAll_cons_mk (Below.trod laidOut (by kernel_rfl) (of_decide_eq_true (by kernel_rfl)) g1 bel lt1) trodAll_mk0)), rfl, bel.frame _, fun h => by cases h⟩

theorem over : Rows.fnExactCommitRow.holds Try.pinned (OpenSpec.ofChange Rows.fnExactCommitSpec) :=
  OpenClaim.holds_of_wide 8 Try.f8 rfl rfl rfl rfl rfl rfl rfl ⟨rfl, rfl, rfl, rfl, rfl⟩ rfl rfl rfl rfl rfl (by kernel_rfl) Try.func8 (by kernel_rfl)
    (of_decide_eq_true (by kernel_rfl)) (by unfold Func.isWrapper; first | (rw [if_pos (by decide +kernel)]; kernel_rfl) | (rw [if_neg (by decide +kernel)]; exact ⟨rfl, rfl⟩))
    (fun os started H enc _ => lifted os started H enc)
end Go.Proofs.Ytgffplbcpofkmaa.fnExactCommit
namespace Go.Proofs.Ytgffplbcpofkmaa
theorem commit_holds : Rows.FnExactCommitSaid := fnExactCommit.over
#print axioms commit_holds
end Go.Proofs.Ytgffplbcpofkmaa
