/- The program's Conflicts, Begin. -/
import Derived.Test.YtoahbfledamnnaaStTxImpl
import Derived.Test.YtoahbfledamnnaaStTxRead
namespace Go.Proofs.Ytoahbfledamnnaa.G
open Go.ChangeShapes Go.WideShapes Go.ChangeAt Go.RowKit
set_option linter.unusedVariables false

set_option maxHeartbeats 2000000 in
theorem store_tells (a : Option Addr) (c : Nat) (l : Chs) (now ts : Int) (k : Nat) (w : World) (hr : ChRow 0 w.heap.size w a l) (hbd : ChsBd 1048576 l) (hk : k < l.length) (hrise : Rise l[k]) :
    Calls Try.prog 32 #[.agg #[.slice a l.length c, .int .i64 now], .int .i64 k, .int .i64 ts] w fun e w' => e = .returned (.int .i64 (readV l[k] ts)) ∧ Below w.heap.size w w' := by
  have B0 : Hid (Below w.heap.size w (w.alloc (.cells #[.slice a l.length c, .int .i64 now] 25))) := (Below.refl _ _).alloc (Nat.le_refl _) _
  obtain ⟨b, o, a3, c3, ha, _, hbl, d0, _, r3⟩ := ChRow.cells (ChRow.up hr B0.out) k hk
  have R3 : Hid (VeRow 0 _ _ a3 l[k]) := r3
  have HX : Hid (l[k].length ≤ 1048576) := hbd.2 l[k] (List.getElem_mem hk)
  have HS : Hid _ := hrise
  have hk' : (k : Int) < l.length := by omega
  subst ha
  clear r3 hr hbd hrise
  go_enter Try.func32, Try.ntmps32
  go_wp2_with fail
  refine (value_at a3 c3 l[k] ts _ R3.out HX.out HS.out).mono ?_
  rintro e w1 ⟨rfl, b1⟩
  have Q : Hid _ := below_one b1
  clear b1
  go_wp2_with fail
  go_ret
  exact ⟨rfl, Q.out⟩
set_option maxHeartbeats 2000000 in
theorem store_changed (a : Option Addr) (c : Nat) (l : Chs) (now ts : Int) (k : Nat) (w : World) (hr : ChRow 0 w.heap.size w a l) (hbd : ChsBd 1048576 l) (hk : k < l.length) (hrise : Rise l[k]) :
    Calls Try.prog 69 #[.agg #[.slice a l.length c, .int .i64 now], .int .i64 k, .int .i64 ts] w fun e w' => e = .returned (.bool (chgB l[k] ts)) ∧ Below w.heap.size w w' := by
  have B0 : Hid (Below w.heap.size w (w.alloc (.cells #[.slice a l.length c, .int .i64 now] 25))) := (Below.refl _ _).alloc (Nat.le_refl _) _
  obtain ⟨b, o, a3, c3, ha, _, hbl, d0, _, r3⟩ := ChRow.cells (ChRow.up hr B0.out) k hk
  have R3 : Hid (VeRow 0 _ _ a3 l[k]) := r3
  have HX : Hid (l[k].length ≤ 1048576) := hbd.2 l[k] (List.getElem_mem hk)
  have HS : Hid _ := hrise
  have hk' : (k : Int) < l.length := by omega
  subst ha
  clear r3 hr hbd hrise
  go_enter Try.func69, Try.ntmps69
  go_wp2_with fail
  refine (changed_since a3 c3 l[k] ts _ R3.out HX.out HS.out).mono ?_
  rintro e w1 ⟨rfl, b1⟩
  have Q : Hid _ := below_one b1
  clear b1
  go_wp2_with fail
  go_ret
  exact ⟨rfl, Q.out⟩
set_option maxHeartbeats 2000000 in
theorem changed_start (a ra wa : Option Addr) (c rq wq rn wn : Nat) (l : Chs) (now st : Int) (k : Nat) (w : World) (hr : ChRow 0 w.heap.size w a l) (hbd : ChsBd 1048576 l) (hk : k < l.length) (hrise : Rise l[k]) :
    Calls Try.prog 58 #[.agg #[.slice a l.length c, .int .i64 now, .int .i64 st, .slice ra rn rq, .slice wa wn wq], .int .i64 k] w fun e w' => e = .returned (.bool (chgB l[k] st)) ∧ Below w.heap.size w w' := by
  have B0 : Hid (Below w.heap.size w (w.alloc (.cells #[.slice a l.length c, .int .i64 now, .int .i64 st, .slice ra rn rq, .slice wa wn wq] 66))) := (Below.refl _ _).alloc (Nat.le_refl _) _
  have HR : Hid _ := ChRow.up hr B0.out
  have HE : Hid _ := hbd
  have HS : Hid _ := hrise
  clear hr hbd hrise
  go_enter Try.func58, Try.ntmps58
  go_wp2_with fail
  refine (store_changed a c l now st k _ HR.out HE.out hk HS.out).mono ?_
  rintro e w1 ⟨rfl, b1⟩
  have Q : Hid _ := below_one b1
  clear b1
  go_wp2_with fail
  go_ret
  exact ⟨rfl, Q.out⟩
set_option maxHeartbeats 4000000 in
theorem index_func (a ra wa : Option Addr) (c rq wq : Nat) (l : Chs) (now st : Int) (rs : List Int) (ws : List Ve) (w : World) (hr : ChRow 0 w.heap.size w a l) (hbd : ChsBd 1048576 l) (ht : NuRow 0 w.heap.size w ra rs) (hl : rs.length ≤ 1048576) (hs : storeB l now = true) (hk : readsB rs = true) :
    Calls Try.prog 68 #[.slice ra rs.length rq, .func (.func 58) #[.agg #[.slice a l.length c, .int .i64 now, .int .i64 st, .slice ra rs.length rq, .slice wa ws.length wq]] #[]] w fun e w' => (∃ v : Int, e = .returned (.int .i64 v) ∧ decide (0 ≤ v) = rs.any (fun k => chgB (chAt l k.toNat) st)) ∧ Below w.heap.size w w' := by
  have HR : Hid (∀ W0, Below w.heap.size w W0 → NuRow 0 W0.heap.size W0 ra rs ∧ ChRow 0 W0.heap.size W0 a l) := fun W0 hB => ⟨NuRow.up ht hB, ChRow.up hr hB⟩
  have HE : Hid _ := hbd
  have HS : Hid _ := hs
  have HK : Hid _ := hk
  clear hr hbd ht hs hk
  go_enter Try.func68, Try.ntmps68
  go_wp2_with fail
  go_loopw [8] (fun i w' => ∃ (k : Nat), k ≤ rs.length ∧ i = .int .i64 k ∧ Hid (Below w.heap.size w w') ∧ Hid (∀ i (h : i < rs.length), i < k → chgB (chAt l rs[i].toNat) st = false)) (fun i _ => rs.length - (intOf i).toNat)
  case atStart => exact ⟨0, by omega, rfl, Below.refl _ _, fun i _ h => by omega⟩
  case round =>
    obtain ⟨wo, rfl⟩ : ∃ x, x = wr := ⟨_, rfl⟩
    obtain ⟨k, hk, rfl, HB, HA⟩ := hrel
    by_cases hlt : k < rs.length
    case neg =>
      have HN : Hid (rs.any (fun k => chgB (chAt l k.toNat) st) = false) := by
        rw [Hid, List.any_eq_false]
        intro x hx
        obtain ⟨i, hi, rfl⟩ := List.getElem_of_mem hx
        rw [HA.out i hi (by omega)]; simp
      go_wp2_with fail
      go_ret
      exact ⟨⟨-1, rfl, by rw [HN.out]; rfl⟩, HB.out⟩
    obtain ⟨b, o, ha, _, hbl, d0⟩ := NuRow.cells (HR.out _ HB.out).1 k hlt
    have hkey := (readsB_at HK.out hlt).1
    have h16 := (storeB_all HS.out).1
    obtain ⟨m, hm⟩ : ∃ m : Nat, rs[k] = m := ⟨rs[k].toNat, by omega⟩
    have hml : m < l.length := by omega
    have HRI : Hid (Rise l[m]) := store_rise HS.out hml
    have HCH : Hid (chAt l rs[k].toNat = l[m]) := by rw [Hid, hm, Int.toNat_natCast, chAt_eq hml]
    rw [hm] at d0
    subst ha
    have hlt' : (k : Int) < rs.length := by omega
    clear hm hkey h16
    cases hc : chgB l[m] st
    · have HA2 : Hid (∀ i (h : i < rs.length), i < k + 1 → chgB (chAt l rs[i].toNat) st = false) := fun i h1 h2 => by
        by_cases e : i = k
        · subst e; rw [HCH.out]; exact hc
        · exact HA.out i h1 (by omega)
      have HC : Hid _ := hc
      clear hc
      go_wp2_with fail
      refine (changed_start a _ wa c rq wq _ _ l now st m _ (HR.out _ HB.out).2 HE.out hml HRI.out).mono ?_
      rintro e w1 ⟨rfl, b1⟩
      rw [HC.out]
      have Q : Hid (Below w.heap.size w w1) := HB.out.trans (b1.mono HB.out.size)
      clear b1
      go_wp2_with fail
      exact ⟨⟨k + 1, by omega, by go_num, Q, HA2⟩, by simp [intOf]; omega⟩
    · have HN : Hid (rs.any (fun k => chgB (chAt l k.toNat) st) = true) := by
        rw [Hid, List.any_eq_true]
        exact ⟨rs[k], List.getElem_mem hlt, by rw [HCH.out]; exact hc⟩
      have HC : Hid _ := hc
      clear hc
      go_wp2_with fail
      refine (changed_start a _ wa c rq wq _ _ l now st m _ (HR.out _ HB.out).2 HE.out hml HRI.out).mono ?_
      rintro e w1 ⟨rfl, b1⟩
      rw [HC.out]
      have Q : Hid (Below w.heap.size w w1) := HB.out.trans (b1.mono HB.out.size)
      clear b1
      go_wp2_with fail
      go_ret
      exact ⟨⟨k, rfl, by rw [HN.out]; simp⟩, Q.out⟩
set_option maxHeartbeats 2000000 in
theorem contains_func (a ra wa : Option Addr) (c rq wq : Nat) (l : Chs) (now st : Int) (rs : List Int) (ws : List Ve) (w : World) (hr : ChRow 0 w.heap.size w a l) (hbd : ChsBd 1048576 l) (ht : NuRow 0 w.heap.size w ra rs) (hl : rs.length ≤ 1048576) (hs : storeB l now = true) (hk : readsB rs = true) :
    Calls Try.prog 57 #[.slice ra rs.length rq, .func (.func 58) #[.agg #[.slice a l.length c, .int .i64 now, .int .i64 st, .slice ra rs.length rq, .slice wa ws.length wq]] #[]] w fun e w' => e = .returned (.bool (rs.any (fun k => chgB (chAt l k.toNat) st))) ∧ Below w.heap.size w w' := by
  have HR : Hid _ := hr
  have HE : Hid _ := hbd
  have HT : Hid _ := ht
  have HS : Hid _ := hs
  have HK : Hid _ := hk
  clear hr hbd ht hs hk
  go_enter Try.func57, Try.ntmps57
  go_wp2_with fail
  refine (index_func a ra wa c rq wq l now st rs ws _ HR.out HE.out HT.out hl HS.out HK.out).mono ?_
  rintro e w1 ⟨⟨v, rfl, hv⟩, b1⟩
  have HV : Hid _ := hv
  clear hv
  go_wp2_with fail
  go_ret
  exact ⟨ret_b HV.out, b1⟩
set_option maxHeartbeats 4000000 in
theorem conf_any (a ra wa : Option Addr) (c rq wq : Nat) (l : Chs) (now st : Int) (rs : List Int) (ws : List Ve) (w : World) (hr : ChRow 0 w.heap.size w a l) (hbd : ChsBd 1048576 l) (ht : TxRow 0 w.heap.size w ra wa rs ws) (htb : TxBd 1048576 rs ws) (hok : txnB l now st rs ws = true) :
    Calls Try.prog 36 #[.agg #[.slice a l.length c, .int .i64 now, .int .i64 st, .slice ra rs.length rq, .slice wa ws.length wq]] w fun e w' => e = .returned (.bool (confB l st rs ws)) ∧ Below w.heap.size w w' := by
  have B0 : Hid (Below w.heap.size w (w.alloc (.cells #[.slice a l.length c, .int .i64 now, .int .i64 st, .slice ra rs.length rq, .slice wa ws.length wq] 66))) := (Below.refl _ _).alloc (Nat.le_refl _) _
  have HR : Hid _ := ChRow.up hr B0.out
  have HT : Hid _ := TxRow.up ht B0.out
  have HE : Hid _ := hbd
  have hl1 := htb.1
  have hl2 := htb.2
  have HS : Hid _ := (txnB_all hok).1
  have HK : Hid _ := (txnB_all hok).2.2.2
  clear hr hbd ht htb hok
  by_cases h0 : 0 < ws.length
  · have HN : Hid (rs.any (fun k => chgB (chAt l k.toNat) st) = confB l st rs ws) := by simp [Hid, confB, h0]
    go_enter Try.func36, Try.ntmps36
    go_wp2_with (first | (go_at_call 57; refine (contains_func a ra wa c rq wq l now st rs ws _ HR.out HE.out HT.out.1 hl1 HS.out HK.out).mono ?_; rintro e w1 ⟨rfl, b1⟩; have Q : Hid _ := below_one b1; clear b1) | fail)
    go_ret
    exact ⟨ret_b HN.out, Q.out⟩
  · have HN : Hid (false = confB l st rs ws) := by simp only [Hid, confB, decide_eq_false h0, Bool.and_false]
    have hz : ws.length = 0 := by omega
    rw [hz]
    rw [hz] at B0
    clear hz h0 HT HR
    go_enter Try.func36, Try.ntmps36
    go_wp2_with fail
    go_ret
    exact ⟨ret_b HN.out, B0.out⟩
set_option maxHeartbeats 4000000 in
theorem impl_conflicts (a ra wa : Option Addr) (c rq wq : Nat) (l : Chs) (now st : Int) (rs : List Int) (ws : List Ve) (w : World) (hr : ChRow 0 w.heap.size w a l) (hbd : ChsBd 1048576 l) (ht : TxRow 0 w.heap.size w ra wa rs ws) (htb : TxBd 1048576 rs ws) :
    Calls Try.prog 14 #[.agg #[.slice a l.length c, .int .i64 now], .agg #[.int .i64 st, .slice ra rs.length rq, .slice wa ws.length wq]] w fun e w' => e = .returned (.tuple #[.bool (confR l now st rs ws), .int .i64 (txC l now st rs ws)]) ∧ Below w.heap.size w w' := by
  obtain ⟨V, hV⟩ : ∃ V, V = (w.alloc (.cells #[.slice a l.length c, .int .i64 now] 25)).alloc (.cells #[.int .i64 st, .slice ra rs.length rq, .slice wa ws.length wq] 30) := ⟨_, rfl⟩
  have bV : Below w.heap.size w V := by
    rw [hV]
    repeat (first | exact Below.refl _ _ | refine Below.alloc ?_ (by first | omega | (simp <;> omega)) _)
  have zV : w.heap.size + 2 ≤ V.heap.size := by rw [hV]; simp
  have c0 : V.heap[w.heap.size]? = some (.cells #[.slice a l.length c, .int .i64 now] 25 (0, 0)) := by
    rw [hV, Below.heap_alloc _ _ _ (by simp)]; exact heap_alloc_new _ _
  have c1 : V.heap[w.heap.size + 1]? = some (.cells #[.int .i64 st, .slice ra rs.length rq, .slice wa ws.length wq] 30 (0, 0)) := by
    rw [hV]
    have := heap_alloc_new (w.alloc (.cells #[.slice a l.length c, .int .i64 now] 25)) (.cells #[.int .i64 st, .slice ra rs.length rq, .slice wa ws.length wq] 30)
    simpa using this
  have KV : Hid (∀ W, Below V.heap.size V W → W.heap[w.heap.size]? = some (.cells #[.slice a l.length c, .int .i64 now] 25 (0, 0)) ∧ W.heap[w.heap.size + 1]? = some (.cells #[.int .i64 st, .slice ra rs.length rq, .slice wa ws.length wq] 30 (0, 0)) ∧ Below w.heap.size w W ∧ ChRow 0 W.heap.size W a l ∧ TxRow 0 W.heap.size W ra wa rs ws) := fun W h =>
    have hw := bV.trans (h.mono (by omega))
    ⟨(h.block _ (by omega)).trans c0, (h.block _ (by omega)).trans c1, hw, ChRow.up hr hw, TxRow.up ht hw⟩
  have x0 := fun o => row_cell c0 o
  have x1 := fun o => row_cell c1 o
  have HE : Hid _ := hbd
  have HTB : Hid _ := htb
  clear hr hbd ht htb c0 c1 bV
  go_enter Try.func14, Try.ntmps14
  go_upto_region 1 with fail
  rw [← hV]
  clear hV
  go_wp2_with fail
  refine (impl_txnOK a ra wa c rq wq l now st rs ws _ (KV.out _ (Below.refl _ _)).2.2.2.1 HE.out (KV.out _ (Below.refl _ _)).2.2.2.2 HTB.out).mono ?_
  rintro e w1 ⟨rfl, b1⟩
  have B1 : Hid _ := b1
  clear b1 x0 x1
  cases hS : txnB l now st rs ws
  · have H1 : Hid (false = confR l now st rs ws) := by rw [Hid, confR, hS]; rfl
    have H2 : Hid (1 = txC l now st rs ws) := by rw [Hid, txC, hS]; rfl
    clear hS
    go_wp2_with fail
    go_ret2
    exact ⟨ret_b2 H1.out H2.out, (KV.out _ B1.out).2.2.1⟩
  · have H1 : Hid (confB l st rs ws = confR l now st rs ws) := by rw [Hid, confR, hS]; rfl
    have H2 : Hid (0 = txC l now st rs ws) := by rw [Hid, txC, hS]; rfl
    have HS : Hid _ := hS
    have y0 := fun o => row_cell (KV.out _ B1.out).1 o
    have y1 := fun o => row_cell (KV.out _ B1.out).2.1 o
    clear hS
    go_wp2_with fail
    refine (conf_any a ra wa c rq wq l now st rs ws _ (KV.out _ B1.out).2.2.2.1 HE.out (KV.out _ B1.out).2.2.2.2 HTB.out HS.out).mono ?_
    rintro e w2 ⟨rfl, b2⟩
    have Q : Hid _ := (KV.out _ (B1.out.trans (b2.mono B1.out.size))).2.2.1
    clear b2 y0 y1
    go_wp2_with fail
    go_ret2
    exact ⟨ret_b2 H1.out H2.out, Q.out⟩
set_option maxHeartbeats 2000000 in
theorem impl_begin (a : Option Addr) (c : Nat) (l : Chs) (now : Int) (w : World) (hr : ChRow 0 w.heap.size w a l) (hbd : ChsBd 1048576 l) :
    Calls Try.prog 6 #[.agg #[.slice a l.length c, .int .i64 now]] w fun e w' => (∃ ra rc wa wc, e = .returned (.tuple #[.agg #[.int .i64 (beginN l now), .slice ra 0 rc, .slice wa 0 wc], .int .i64 (badN l now)])) ∧ Below w.heap.size w w' := by
  obtain ⟨V, hV⟩ : ∃ V, V = (w.alloc (.cells #[.slice a l.length c, .int .i64 now] 25)).alloc (.cells #[.int .i64 0, .slice none 0 0, .slice none 0 0] 30) := ⟨_, rfl⟩
  have bV : Below w.heap.size w V := by
    rw [hV]
    repeat (first | exact Below.refl _ _ | refine Below.alloc ?_ (by first | omega | (simp <;> omega)) _)
  have zV : w.heap.size + 2 ≤ V.heap.size := by rw [hV]; simp
  have c0 : V.heap[w.heap.size]? = some (.cells #[.slice a l.length c, .int .i64 now] 25 (0, 0)) := by
    rw [hV, Below.heap_alloc _ _ _ (by simp)]; exact heap_alloc_new _ _
  have c1 : V.heap[w.heap.size + 1]? = some (.cells #[.int .i64 0, .slice none 0 0, .slice none 0 0] 30 (0, 0)) := by
    rw [hV]
    have := heap_alloc_new (w.alloc (.cells #[.slice a l.length c, .int .i64 now] 25)) (.cells #[.int .i64 0, .slice none 0 0, .slice none 0 0] 30)
    simpa using this
  have KV : Hid (∀ W, Below V.heap.size V W → W.heap[w.heap.size]? = some (.cells #[.slice a l.length c, .int .i64 now] 25 (0, 0)) ∧ W.heap[w.heap.size + 1]? = some (.cells #[.int .i64 0, .slice none 0 0, .slice none 0 0] 30 (0, 0)) ∧ Below w.heap.size w W ∧ ChRow 0 W.heap.size W a l) := fun W h =>
    have hw := bV.trans (h.mono (by omega))
    ⟨(h.block _ (by omega)).trans c0, (h.block _ (by omega)).trans c1, hw, ChRow.up hr hw⟩
  have x0 := fun o => row_cell c0 o
  have x1 := fun o => row_cell c1 o
  have HE : Hid _ := hbd
  clear hr hbd c0 c1 bV
  go_enter Try.func6, Try.ntmps6
  go_upto_region 1 with fail
  rw [← hV]
  clear hV
  go_wp2_with fail
  refine (impl_storeOK a c l now _ (KV.out _ (Below.refl _ _)).2.2.2 HE.out).mono ?_
  rintro e w1 ⟨rfl, b1⟩
  have z1 := b1.size
  have Q : Hid (Below w.heap.size w w1) := (KV.out _ b1).2.2.1
  have y0 := fun o => row_cell (KV.out _ b1).1 o
  have y1 := fun o => row_cell (KV.out _ b1).2.1 o
  have f1 := fun o => row_frozen (KV.out _ b1).2.1 o
  clear b1 x0 x1
  cases hS : storeB l now
  · have H1 : Hid (0 = beginN l now) := by simp [Hid, beginN, hS]
    have H2 : Hid (1 = badN l now) := by simp [Hid, badN, hS]
    clear hS
    go_wp2_with fail
    refine bodyPost_ret (v := .tuple #[.agg #[.int .i64 0, .slice none 0 0, .slice none 0 0], .int .i64 1]) (by simp [results, Try.results6, go_sem, y1]) rfl ⟨⟨none, 0, none, 0, by rw [← H1.out, ← H2.out]⟩, ?_⟩
    repeat (refine Below.setCell ?_ (by first | omega | (simp <;> omega)) _)
    exact Q.out
  · have H1 : Hid (now = beginN l now) := by simp [Hid, beginN, hS]
    have H2 : Hid (0 = badN l now) := by simp [Hid, badN, hS]
    clear hS
    go_wp2_with fail
    refine bodyPost_ret (v := .tuple #[.agg #[.int .i64 now, .slice none 0 0, .slice none 0 0], .int .i64 0]) (by simp [results, Try.results6, go_sem, y1]) rfl ⟨⟨none, 0, none, 0, by rw [← H1.out, ← H2.out]⟩, ?_⟩
    repeat (refine Below.setCell ?_ (by first | omega | (simp <;> omega)) _)
    exact Q.out
end Go.Proofs.Ytoahbfledamnnaa.G
