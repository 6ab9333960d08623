/- The program's own copies of transactions; what was written last; keys that were read. -/
import Derived.Test.YtaeknfjmbjeloaaGRegion
import Derived.Test.YtaeknfjmbjeloaaStTxSpecTwo
import Derived.Test.YtaeknfjmbjeloaaStTxRd
import Derived.Laws.CopyOwn
namespace Go.Proofs.Ytaeknfjmbjeloaa.G
open Go.ChangeShapes Go.WideShapes Go.ChangeAt Go.RowKit
set_option linter.unusedVariables false

/-- The flags of the keys that came. -/
def Came (cs : Array Value) (t : List Int) : Prop := cs.size = 16 ∧ ∀ j : Nat, j < 16 → cs[j]? = some (.bool (decide ((j : Int) ∈ t)))
theorem Came.put {cs : Array Value} {t : List Int} (h : Came cs t) {k : Nat} (hk : k < 16) : Came (cs.setIfInBounds k (.bool true)) (t ++ [(k : Int)]) := by
  refine ⟨by simp [h.1], fun j hj => ?_⟩
  by_cases e : j = k
  · subst e
    rw [Array.getElem?_setIfInBounds_self_of_lt (by rw [h.1]; omega)]; simp
  · rw [Array.getElem?_setIfInBounds_ne (by omega), h.2 j hj]
    simp; omega
set_option maxHeartbeats 4000000 in
theorem keys_once (a : Option Addr) (c : Nat) (rs : List Int) (w : World) (hr : NuRow 0 w.heap.size w a rs) (hl : rs.length ≤ 1048576) :
    Calls Try.prog 40 #[.slice a rs.length c] w fun e w' => e = .returned (.bool (readsB rs)) ∧ Below w.heap.size w w' := by
  have HR : Hid (∀ W0, Below w.heap.size w W0 → NuRow 0 W0.heap.size W0 a rs) := fun W0 hB => NuRow.up hr hB
  clear hr
  obtain ⟨cs0, hcs0⟩ : ∃ cs : Array Value, cs = #[.bool false, .bool false, .bool false, .bool false, .bool false, .bool false, .bool false, .bool false, .bool false, .bool false, .bool false, .bool false, .bool false, .bool false, .bool false, .bool false] := ⟨_, rfl⟩
  have HC0 : Hid (Came cs0 (rs.take 0)) := by
    refine ⟨by rw [hcs0]; rfl, fun j hj => ?_⟩
    rw [hcs0]
    have : j = 0 ∨ j = 1 ∨ j = 2 ∨ j = 3 ∨ j = 4 ∨ j = 5 ∨ j = 6 ∨ j = 7 ∨ j = 8 ∨ j = 9 ∨ j = 10 ∨ j = 11 ∨ j = 12 ∨ j = 13 ∨ j = 14 ∨ j = 15 := by omega
    rcases this with rfl | rfl | rfl | rfl | rfl | rfl | rfl | rfl | rfl | rfl | rfl | rfl | rfl | rfl | rfl | rfl <;> simp
  go_enter Try.func40, Try.ntmps40
  go_wp2_with fail
  rw [← hcs0]
  clear hcs0
  have B0 : Below w.heap.size w (w.alloc (.cells cs0 92)) := (Below.refl _ _).alloc (Nat.le_refl _) _
  have H0 : Hid ((w.alloc (.cells cs0 92)).heap[w.heap.size]? = some (.cells cs0 92 (0, 0))) := heap_alloc_new _ _
  go_loopw [8] (fun i w' => ∃ (k : Nat) (cs : Array Value), k ≤ rs.length ∧ i = .int .i64 k ∧ Hid (Below w.heap.size w w') ∧ Hid (w'.heap[w.heap.size]? = some (.cells cs 92 (0, 0))) ∧ Hid (Came cs (rs.take k)) ∧ Hid (∀ i, i < k → rdB rs i = true)) (fun i _ => rs.length - (intOf i).toNat)
  case atStart => exact ⟨0, cs0, by omega, rfl, B0, H0, HC0, fun i h => by omega⟩
  case round =>
    obtain ⟨wo, rfl⟩ : ∃ x, x = wr := ⟨_, rfl⟩
    obtain ⟨k, cs, hk, rfl, HB, HH, HC, HK⟩ := hrel
    clear B0 H0 HC0
    by_cases hlt : k < rs.length
    case neg =>
      have HN : Hid (true = readsB rs) := (readsB_true fun i hi => HK.out i (by omega)).symm
      go_wp2_with fail
      go_ret
      exact ⟨ret_b HN.out, HB.out⟩
    obtain ⟨b, o, ha, _, hbl, d0⟩ := NuRow.cells (HR.out _ HB.out) k hlt
    subst ha
    have HRB := rdB_eq hlt
    cases hA : keyS rs[k]
    · have HN : Hid (false = readsB rs) := (readsB_false hlt (by rw [HRB, show inS rs[k] 0 15 = false from by rw [inB_not]; intro hx; have := (keyB_iff rs[k]).2 ⟨by omega, by omega⟩; rw [hA] at this; cases this]; rfl)).symm
      clear HRB
      go_wp2_with (first | (go_at_call 28; refine (impl_isKey _ _).mono ?_; rintro e w' ⟨rfl, hw⟩; rw [hw, hA]))
      go_ret
      exact ⟨ret_b HN.out, HB.out⟩
    obtain ⟨g1, g2⟩ := (keyB_iff _).1 hA
    have HIN : Hid (inS rs[k] 0 15 = true) := (inS_iff _ _ _).2 ⟨by omega, by omega⟩
    obtain ⟨m, hm⟩ : ∃ m : Nat, rs[k] = m := ⟨rs[k].toNat, by omega⟩
    have HRB2 : Hid _ := HRB
    rw [hm] at d0 hA g1 g2 HIN HRB2
    have hm16 : m < 16 := by omega
    have cm := (row_cell HH.out m).trans (HC.out.2 m hm16)
    have HM : Hid _ := hm
    clear HRB hm
    cases hI : decide ((m : Int) ∈ rs.take k)
    · rw [hI] at cm
      have HO : Hid (rdB rs k = true) := by rw [Hid, HRB2.out, HIN.out, hI]; rfl
      have hf := row_frozen HH.out m
      have HC2 : Hid (Came (cs.setIfInBounds m (.bool true)) (rs.take (k + 1))) := by
        rw [Hid, List.take_succ_eq_append_getElem hlt, HM.out]; exact HC.out.put hm16
      have hbw : w.heap.size < wo.heap.size := (Array.getElem?_eq_some_iff.1 HH.out).1
      clear hI
      go_wp2_with (first | (go_at_call 28; refine (impl_isKey _ _).mono ?_; rintro e w' ⟨rfl, hw⟩; rw [hw, hA]))
      refine ⟨⟨k + 1, _, by omega, by go_num, HB.out.setCell (Nat.le_refl _) _, row_set HH.out _ _, HC2, ?_⟩, by simp [intOf]; omega⟩
      intro i hi
      by_cases e : i = k
      · subst e; exact HO.out
      · exact HK.out i (by omega)
    · have HN : Hid (false = readsB rs) := (readsB_false hlt (by rw [HRB2.out, HIN.out, hI]; rfl)).symm
      rw [hI] at cm
      clear hI
      go_wp2_with (first | (go_at_call 28; refine (impl_isKey _ _).mono ?_; rintro e w' ⟨rfl, hw⟩; rw [hw, hA]))
      go_ret
      exact ⟨ret_b HN.out, HB.out⟩
set_option maxHeartbeats 4000000 in
theorem impl_txnOK (a ra wa : Option Addr) (c rq wq : Nat) (l : Chs) (now st : Int) (rs : List Int) (ws : List Ve) (w : World) (hr : ChRow 0 w.heap.size w a l) (hbd : ChsBd 1048576 l) (ht : TxRow 0 w.heap.size w ra wa rs ws) (htb : TxBd 1048576 rs ws) :
    Calls Try.prog 17 #[.agg #[.slice a l.length c, .int .i64 now], .agg #[.int .i64 st, .slice ra rs.length rq, .slice wa ws.length wq]] w fun e w' => e = .returned (.bool (txnB l now st rs ws)) ∧ Below w.heap.size w w' := by
  obtain ⟨V, hV⟩ : ∃ V, V = (w.alloc (.cells #[.slice a l.length c, .int .i64 now] 25)).alloc (.cells #[.int .i64 st, .slice ra rs.length rq, .slice wa ws.length wq] 30) := ⟨_, rfl⟩
  have bV : Below w.heap.size w V := by
    rw [hV]
    repeat (first | exact Below.refl _ _ | refine Below.alloc ?_ (by first | omega | (simp <;> omega)) _)
  have zV : w.heap.size + 2 ≤ V.heap.size := by rw [hV]; simp
  have c0 : V.heap[w.heap.size]? = some (.cells #[.slice a l.length c, .int .i64 now] 25 (0, 0)) := by
    rw [hV, Below.heap_alloc _ _ _ (by simp)]; exact heap_alloc_new _ _
  have c1 : V.heap[w.heap.size + 1]? = some (.cells #[.int .i64 st, .slice ra rs.length rq, .slice wa ws.length wq] 30 (0, 0)) := by
    rw [hV]
    have := heap_alloc_new (w.alloc (.cells #[.slice a l.length c, .int .i64 now] 25)) (.cells #[.int .i64 st, .slice ra rs.length rq, .slice wa ws.length wq] 30)
    simpa using this
  have KV : Hid (∀ W, Below V.heap.size V W → W.heap[w.heap.size + 1]? = some (.cells #[.int .i64 st, .slice ra rs.length rq, .slice wa ws.length wq] 30 (0, 0)) ∧ Below w.heap.size w W ∧ ChRow 0 W.heap.size W a l ∧ TxRow 0 W.heap.size W ra wa rs ws) := fun W h =>
    have hw := bV.trans (h.mono (by omega))
    ⟨(h.block _ (by omega)).trans c1, hw, ChRow.up hr hw, TxRow.up ht hw⟩
  have x0 := fun o => row_cell c0 o
  have x1 := fun o => row_cell c1 o
  have HE : Hid _ := hbd
  have hl1 := htb.1
  have hl2 := htb.2
  clear hr hbd ht htb c0 c1 bV
  go_enter Try.func17, Try.ntmps17
  go_upto_region 1 with fail
  rw [← hV]
  clear hV
  by_cases hh : hourN l now st = 0
  case neg =>
    have HN : Hid (false = txnB l now st rs ws) := by
      unfold Hid
      symm
      rw [Bool.eq_false_iff]
      intro h
      obtain ⟨h1, h2, _, _⟩ := txnB_all h
      exact hh (by simp [hourN, h1, (inS_iff st 0 now).2 h2])
    have hh' : (hourN l now st == 0) = false := by simpa using hh
    clear hh
    go_wp2_with (first | (go_at_call 39; refine (impl_hourFault a c l now st _ (KV.out _ (Below.refl _ _)).2.2.1 HE.out).mono ?_; rintro e w1 ⟨rfl, b1⟩; have Q : Hid _ := (KV.out _ b1).2.1; clear b1; generalize hourN l now st = z at *) | fail)
    go_ret
    exact ⟨ret_b HN.out, Q.out⟩
  have HS : Hid (storeB l now = true ∧ inS st 0 now = true) := by
    unfold hourN at hh
    split at hh
    · split at hh
      · exact ⟨by assumption, by assumption⟩
      · cases hh
    · cases hh
  have HH : Hid _ := hh
  clear hh
  cases hK : readsB rs
  · have HN : Hid (false = txnB l now st rs ws) := by simp [Hid, txnB, txB, hK]
    have HK : Hid _ := hK
    clear hK
    go_wp2_with (first
      | (go_at_call 39; refine (impl_hourFault a c l now st _ (KV.out _ (Below.refl _ _)).2.2.1 HE.out).mono ?_; rintro e w1 ⟨rfl, b1⟩; rw [HH.out]; have y1 := fun o => row_cell (KV.out _ b1).1 o; have B1 : Hid _ := b1; clear b1)
      | (go_at_call 40; refine (keys_once ra rq rs _ (KV.out _ B1.out).2.2.2.1 hl1).mono ?_; rintro e w2 ⟨rfl, b2⟩; rw [HK.out]; have Q : Hid _ := (KV.out _ (B1.out.trans (b2.mono B1.out.size))).2.1; clear b2) | fail)
    go_ret
    exact ⟨ret_b HN.out, Q.out⟩
  have HN : Hid (putsB ws = txnB l now st rs ws) := by simp [Hid, txnB, txB, hK, HS.out.1, HS.out.2]
  have HK : Hid _ := hK
  clear hK
  go_wp2_with (first
      | (go_at_call 39; refine (impl_hourFault a c l now st _ (KV.out _ (Below.refl _ _)).2.2.1 HE.out).mono ?_; rintro e w1 ⟨rfl, b1⟩; rw [HH.out]; have y1 := fun o => row_cell (KV.out _ b1).1 o; have B1 : Hid _ := b1; clear b1)
      | (go_at_call 40; refine (keys_once ra rq rs _ (KV.out _ B1.out).2.2.2.1 hl1).mono ?_; rintro e w2 ⟨rfl, b2⟩; rw [HK.out]; have B2 : Hid _ := B1.out.trans (b2.mono B1.out.size); clear b2; clear y1; have y2 := fun o => row_cell (KV.out _ B2.out).1 o)
      | (go_at_call 24; refine (impl_putsOK wa wq ws _ (KV.out _ B2.out).2.2.2.2 hl2).mono ?_; rintro e w3 ⟨rfl, b3⟩; have Q : Hid _ := (KV.out _ (B2.out.trans (b3.mono B2.out.size))).2.1; clear b3) | fail)
  go_ret
  exact ⟨ret_b HN.out, Q.out⟩
end Go.Proofs.Ytaeknfjmbjeloaa.G
namespace Go.Proofs.Ytaeknfjmbjeloaa.G
open Go.ChangeShapes Go.WideShapes Go.ChangeAt Go.RowKit
set_option linter.unusedVariables false

set_option maxHeartbeats 2000000 in
theorem store_tells (a : Option Addr) (c : Nat) (l : Chs) (now ts : Int) (k : Nat) (w : World) (hr : ChRow 0 w.heap.size w a l) (hbd : ChsBd 1048576 l) (hk : k < l.length) (hrise : Rise l[k]) :
    Calls Try.prog 32 #[.agg #[.slice a l.length c, .int .i64 now], .int .i64 k, .int .i64 ts] w fun e w' => e = .returned (.int .i64 (readV l[k] ts)) ∧ Below w.heap.size w w' := by
  have B0 : Hid (Below w.heap.size w (w.alloc (.cells #[.slice a l.length c, .int .i64 now] 25))) := (Below.refl _ _).alloc (Nat.le_refl _) _
  obtain ⟨b, o, a3, c3, ha, _, hbl, d0, _, r3⟩ := ChRow.cells (ChRow.up hr B0.out) k hk
  have R3 : Hid (VeRow 0 _ _ a3 l[k]) := r3
  have HX : Hid (l[k].length ≤ 1048576) := hbd.2 l[k] (List.getElem_mem hk)
  have HS : Hid _ := hrise
  have hk' : (k : Int) < l.length := by omega
  subst ha
  clear r3 hr hbd hrise
  go_enter Try.func32, Try.ntmps32
  go_wp2_with fail
  refine (value_at a3 c3 l[k] ts _ R3.out HX.out HS.out).mono ?_
  rintro e w1 ⟨rfl, b1⟩
  have Q : Hid _ := below_one b1
  clear b1
  go_wp2_with fail
  go_ret
  exact ⟨rfl, Q.out⟩
set_option maxHeartbeats 2000000 in
theorem store_changed (a : Option Addr) (c : Nat) (l : Chs) (now ts : Int) (k : Nat) (w : World) (hr : ChRow 0 w.heap.size w a l) (hbd : ChsBd 1048576 l) (hk : k < l.length) (hrise : Rise l[k]) :
    Calls Try.prog 68 #[.agg #[.slice a l.length c, .int .i64 now], .int .i64 k, .int .i64 ts] w fun e w' => e = .returned (.bool (chgB l[k] ts)) ∧ Below w.heap.size w w' := by
  have B0 : Hid (Below w.heap.size w (w.alloc (.cells #[.slice a l.length c, .int .i64 now] 25))) := (Below.refl _ _).alloc (Nat.le_refl _) _
  obtain ⟨b, o, a3, c3, ha, _, hbl, d0, _, r3⟩ := ChRow.cells (ChRow.up hr B0.out) k hk
  have R3 : Hid (VeRow 0 _ _ a3 l[k]) := r3
  have HX : Hid (l[k].length ≤ 1048576) := hbd.2 l[k] (List.getElem_mem hk)
  have HS : Hid _ := hrise
  have hk' : (k : Int) < l.length := by omega
  subst ha
  clear r3 hr hbd hrise
  go_enter Try.func68, Try.ntmps68
  go_wp2_with fail
  refine (changed_since a3 c3 l[k] ts _ R3.out HX.out HS.out).mono ?_
  rintro e w1 ⟨rfl, b1⟩
  have Q : Hid _ := below_one b1
  clear b1
  go_wp2_with fail
  go_ret
  exact ⟨rfl, Q.out⟩
set_option maxHeartbeats 2000000 in
theorem changed_start (a ra wa : Option Addr) (c rq wq rn wn : Nat) (l : Chs) (now st : Int) (k : Nat) (w : World) (hr : ChRow 0 w.heap.size w a l) (hbd : ChsBd 1048576 l) (hk : k < l.length) (hrise : Rise l[k]) :
    Calls Try.prog 58 #[.agg #[.slice a l.length c, .int .i64 now, .int .i64 st, .slice ra rn rq, .slice wa wn wq], .int .i64 k] w fun e w' => e = .returned (.bool (chgB l[k] st)) ∧ Below w.heap.size w w' := by
  have B0 : Hid (Below w.heap.size w (w.alloc (.cells #[.slice a l.length c, .int .i64 now, .int .i64 st, .slice ra rn rq, .slice wa wn wq] 66))) := (Below.refl _ _).alloc (Nat.le_refl _) _
  have HR : Hid _ := ChRow.up hr B0.out
  have HE : Hid _ := hbd
  have HS : Hid _ := hrise
  clear hr hbd hrise
  go_enter Try.func58, Try.ntmps58
  go_wp2_with fail
  refine (store_changed a c l now st k _ HR.out HE.out hk HS.out).mono ?_
  rintro e w1 ⟨rfl, b1⟩
  have Q : Hid _ := below_one b1
  clear b1
  go_wp2_with fail
  go_ret
  exact ⟨rfl, Q.out⟩
set_option maxHeartbeats 4000000 in
theorem index_func (a ra wa : Option Addr) (c rq wq : Nat) (l : Chs) (now st : Int) (rs : List Int) (ws : List Ve) (w : World) (hr : ChRow 0 w.heap.size w a l) (hbd : ChsBd 1048576 l) (ht : NuRow 0 w.heap.size w ra rs) (hl : rs.length ≤ 1048576) (hs : storeB l now = true) (hk : readsB rs = true) :
    Calls Try.prog 67 #[.slice ra rs.length rq, .func (.func 58) #[.agg #[.slice a l.length c, .int .i64 now, .int .i64 st, .slice ra rs.length rq, .slice wa ws.length wq]] #[]] w fun e w' => (∃ v : Int, e = .returned (.int .i64 v) ∧ decide (0 ≤ v) = rs.any (fun k => chgB (chAt l k.toNat) st)) ∧ Below w.heap.size w w' := by
  have HR : Hid (∀ W0, Below w.heap.size w W0 → NuRow 0 W0.heap.size W0 ra rs ∧ ChRow 0 W0.heap.size W0 a l) := fun W0 hB => ⟨NuRow.up ht hB, ChRow.up hr hB⟩
  have HE : Hid _ := hbd
  have HS : Hid _ := hs
  have HK : Hid _ := hk
  clear hr hbd ht hs hk
  go_enter Try.func67, Try.ntmps67
  go_wp2_with fail
  go_loopw [8] (fun i w' => ∃ (k : Nat), k ≤ rs.length ∧ i = .int .i64 k ∧ Hid (Below w.heap.size w w') ∧ Hid (∀ i (h : i < rs.length), i < k → chgB (chAt l rs[i].toNat) st = false)) (fun i _ => rs.length - (intOf i).toNat)
  case atStart => exact ⟨0, by omega, rfl, Below.refl _ _, fun i _ h => by omega⟩
  case round =>
    obtain ⟨wo, rfl⟩ : ∃ x, x = wr := ⟨_, rfl⟩
    obtain ⟨k, hk, rfl, HB, HA⟩ := hrel
    by_cases hlt : k < rs.length
    case neg =>
      have HN : Hid (rs.any (fun k => chgB (chAt l k.toNat) st) = false) := by
        rw [Hid, List.any_eq_false]
        intro x hx
        obtain ⟨i, hi, rfl⟩ := List.getElem_of_mem hx
        rw [HA.out i hi (by omega)]; simp
      go_wp2_with fail
      go_ret
      exact ⟨⟨-1, rfl, by rw [HN.out]; rfl⟩, HB.out⟩
    obtain ⟨b, o, ha, _, hbl, d0⟩ := NuRow.cells (HR.out _ HB.out).1 k hlt
    have hkey := (readsB_at HK.out hlt).1
    have h16 := (storeB_all HS.out).1
    obtain ⟨m, hm⟩ : ∃ m : Nat, rs[k] = m := ⟨rs[k].toNat, by omega⟩
    have hml : m < l.length := by omega
    have HRI : Hid (Rise l[m]) := store_rise HS.out hml
    have HCH : Hid (chAt l rs[k].toNat = l[m]) := by rw [Hid, hm, Int.toNat_natCast, chAt_eq hml]
    rw [hm] at d0
    subst ha
    have hlt' : (k : Int) < rs.length := by omega
    clear hm hkey h16
    cases hc : chgB l[m] st
    · have HA2 : Hid (∀ i (h : i < rs.length), i < k + 1 → chgB (chAt l rs[i].toNat) st = false) := fun i h1 h2 => by
        by_cases e : i = k
        · subst e; rw [HCH.out]; exact hc
        · exact HA.out i h1 (by omega)
      have HC : Hid _ := hc
      clear hc
      go_wp2_with fail
      refine (changed_start a _ wa c rq wq _ _ l now st m _ (HR.out _ HB.out).2 HE.out hml HRI.out).mono ?_
      rintro e w1 ⟨rfl, b1⟩
      rw [HC.out]
      have Q : Hid (Below w.heap.size w w1) := HB.out.trans (b1.mono HB.out.size)
      clear b1
      go_wp2_with fail
      exact ⟨⟨k + 1, by omega, by go_num, Q, HA2⟩, by simp [intOf]; omega⟩
    · have HN : Hid (rs.any (fun k => chgB (chAt l k.toNat) st) = true) := by
        rw [Hid, List.any_eq_true]
        exact ⟨rs[k], List.getElem_mem hlt, by rw [HCH.out]; exact hc⟩
      have HC : Hid _ := hc
      clear hc
      go_wp2_with fail
      refine (changed_start a _ wa c rq wq _ _ l now st m _ (HR.out _ HB.out).2 HE.out hml HRI.out).mono ?_
      rintro e w1 ⟨rfl, b1⟩
      rw [HC.out]
      have Q : Hid (Below w.heap.size w w1) := HB.out.trans (b1.mono HB.out.size)
      clear b1
      go_wp2_with fail
      go_ret
      exact ⟨⟨k, rfl, by rw [HN.out]; simp⟩, Q.out⟩
set_option maxHeartbeats 2000000 in
theorem contains_func (a ra wa : Option Addr) (c rq wq : Nat) (l : Chs) (now st : Int) (rs : List Int) (ws : List Ve) (w : World) (hr : ChRow 0 w.heap.size w a l) (hbd : ChsBd 1048576 l) (ht : NuRow 0 w.heap.size w ra rs) (hl : rs.length ≤ 1048576) (hs : storeB l now = true) (hk : readsB rs = true) :
    Calls Try.prog 57 #[.slice ra rs.length rq, .func (.func 58) #[.agg #[.slice a l.length c, .int .i64 now, .int .i64 st, .slice ra rs.length rq, .slice wa ws.length wq]] #[]] w fun e w' => e = .returned (.bool (rs.any (fun k => chgB (chAt l k.toNat) st))) ∧ Below w.heap.size w w' := by
  have HR : Hid _ := hr
  have HE : Hid _ := hbd
  have HT : Hid _ := ht
  have HS : Hid _ := hs
  have HK : Hid _ := hk
  clear hr hbd ht hs hk
  go_enter Try.func57, Try.ntmps57
  go_wp2_with fail
  refine (index_func a ra wa c rq wq l now st rs ws _ HR.out HE.out HT.out hl HS.out HK.out).mono ?_
  rintro e w1 ⟨⟨v, rfl, hv⟩, b1⟩
  have HV : Hid _ := hv
  clear hv
  go_wp2_with fail
  go_ret
  exact ⟨ret_b HV.out, b1⟩
set_option maxHeartbeats 4000000 in
theorem conf_any (a ra wa : Option Addr) (c rq wq : Nat) (l : Chs) (now st : Int) (rs : List Int) (ws : List Ve) (w : World) (hr : ChRow 0 w.heap.size w a l) (hbd : ChsBd 1048576 l) (ht : TxRow 0 w.heap.size w ra wa rs ws) (htb : TxBd 1048576 rs ws) (hok : txnB l now st rs ws = true) :
    Calls Try.prog 36 #[.agg #[.slice a l.length c, .int .i64 now, .int .i64 st, .slice ra rs.length rq, .slice wa ws.length wq]] w fun e w' => e = .returned (.bool (confB l st rs ws)) ∧ Below w.heap.size w w' := by
  have B0 : Hid (Below w.heap.size w (w.alloc (.cells #[.slice a l.length c, .int .i64 now, .int .i64 st, .slice ra rs.length rq, .slice wa ws.length wq] 66))) := (Below.refl _ _).alloc (Nat.le_refl _) _
  have HR : Hid _ := ChRow.up hr B0.out
  have HT : Hid _ := TxRow.up ht B0.out
  have HE : Hid _ := hbd
  have hl1 := htb.1
  have hl2 := htb.2
  have HS : Hid _ := (txnB_all hok).1
  have HK : Hid _ := (txnB_all hok).2.2.2
  clear hr hbd ht htb hok
  by_cases h0 : 0 < ws.length
  · have HN : Hid (rs.any (fun k => chgB (chAt l k.toNat) st) = confB l st rs ws) := by simp [Hid, confB, h0]
    go_enter Try.func36, Try.ntmps36
    go_wp2_with (first | (go_at_call 57; refine (contains_func a ra wa c rq wq l now st rs ws _ HR.out HE.out HT.out.1 hl1 HS.out HK.out).mono ?_; rintro e w1 ⟨rfl, b1⟩; have Q : Hid _ := below_one b1; clear b1) | fail)
    go_ret
    exact ⟨ret_b HN.out, Q.out⟩
  · have HN : Hid (false = confB l st rs ws) := by simp only [Hid, confB, decide_eq_false h0, Bool.and_false]
    have hz : ws.length = 0 := by omega
    rw [hz]
    rw [hz] at B0
    clear hz h0 HT HR
    go_enter Try.func36, Try.ntmps36
    go_wp2_with fail
    go_ret
    exact ⟨ret_b HN.out, B0.out⟩
set_option maxHeartbeats 4000000 in
theorem impl_conflicts (a ra wa : Option Addr) (c rq wq : Nat) (l : Chs) (now st : Int) (rs : List Int) (ws : List Ve) (w : World) (hr : ChRow 0 w.heap.size w a l) (hbd : ChsBd 1048576 l) (ht : TxRow 0 w.heap.size w ra wa rs ws) (htb : TxBd 1048576 rs ws) :
    Calls Try.prog 14 #[.agg #[.slice a l.length c, .int .i64 now], .agg #[.int .i64 st, .slice ra rs.length rq, .slice wa ws.length wq]] w fun e w' => e = .returned (.tuple #[.bool (confR l now st rs ws), .int .i64 (txC l now st rs ws)]) ∧ Below w.heap.size w w' := by
  obtain ⟨V, hV⟩ : ∃ V, V = (w.alloc (.cells #[.slice a l.length c, .int .i64 now] 25)).alloc (.cells #[.int .i64 st, .slice ra rs.length rq, .slice wa ws.length wq] 30) := ⟨_, rfl⟩
  have bV : Below w.heap.size w V := by
    rw [hV]
    repeat (first | exact Below.refl _ _ | refine Below.alloc ?_ (by first | omega | (simp <;> omega)) _)
  have zV : w.heap.size + 2 ≤ V.heap.size := by rw [hV]; simp
  have c0 : V.heap[w.heap.size]? = some (.cells #[.slice a l.length c, .int .i64 now] 25 (0, 0)) := by
    rw [hV, Below.heap_alloc _ _ _ (by simp)]; exact heap_alloc_new _ _
  have c1 : V.heap[w.heap.size + 1]? = some (.cells #[.int .i64 st, .slice ra rs.length rq, .slice wa ws.length wq] 30 (0, 0)) := by
    rw [hV]
    have := heap_alloc_new (w.alloc (.cells #[.slice a l.length c, .int .i64 now] 25)) (.cells #[.int .i64 st, .slice ra rs.length rq, .slice wa ws.length wq] 30)
    simpa using this
  have KV : Hid (∀ W, Below V.heap.size V W → W.heap[w.heap.size]? = some (.cells #[.slice a l.length c, .int .i64 now] 25 (0, 0)) ∧ W.heap[w.heap.size + 1]? = some (.cells #[.int .i64 st, .slice ra rs.length rq, .slice wa ws.length wq] 30 (0, 0)) ∧ Below w.heap.size w W ∧ ChRow 0 W.heap.size W a l ∧ TxRow 0 W.heap.size W ra wa rs ws) := fun W h =>
    have hw := bV.trans (h.mono (by omega))
    ⟨(h.block _ (by omega)).trans c0, (h.block _ (by omega)).trans c1, hw, ChRow.up hr hw, TxRow.up ht hw⟩
  have x0 := fun o => row_cell c0 o
  have x1 := fun o => row_cell c1 o
  have HE : Hid _ := hbd
  have HTB : Hid _ := htb
  clear hr hbd ht htb c0 c1 bV
  go_enter Try.func14, Try.ntmps14
  go_upto_region 1 with fail
  rw [← hV]
  clear hV
  go_wp2_with fail
  refine (impl_txnOK a ra wa c rq wq l now st rs ws _ (KV.out _ (Below.refl _ _)).2.2.2.1 HE.out (KV.out _ (Below.refl _ _)).2.2.2.2 HTB.out).mono ?_
  rintro e w1 ⟨rfl, b1⟩
  have B1 : Hid _ := b1
  clear b1 x0 x1
  cases hS : txnB l now st rs ws
  · have H1 : Hid (false = confR l now st rs ws) := by rw [Hid, confR, hS]; rfl
    have H2 : Hid (1 = txC l now st rs ws) := by rw [Hid, txC, hS]; rfl
    clear hS
    go_wp2_with fail
    go_ret2
    exact ⟨ret_b2 H1.out H2.out, (KV.out _ B1.out).2.2.1⟩
  · have H1 : Hid (confB l st rs ws = confR l now st rs ws) := by rw [Hid, confR, hS]; rfl
    have H2 : Hid (0 = txC l now st rs ws) := by rw [Hid, txC, hS]; rfl
    have HS : Hid _ := hS
    have y0 := fun o => row_cell (KV.out _ B1.out).1 o
    have y1 := fun o => row_cell (KV.out _ B1.out).2.1 o
    clear hS
    go_wp2_with fail
    refine (conf_any a ra wa c rq wq l now st rs ws _ (KV.out _ B1.out).2.2.2.1 HE.out (KV.out _ B1.out).2.2.2.2 HTB.out HS.out).mono ?_
    rintro e w2 ⟨rfl, b2⟩
    have Q : Hid _ := (KV.out _ (B1.out.trans (b2.mono B1.out.size))).2.2.1
    clear b2 y0 y1
    go_wp2_with fail
    go_ret2
    exact ⟨ret_b2 H1.out H2.out, Q.out⟩
set_option maxHeartbeats 2000000 in
theorem impl_begin (a : Option Addr) (c : Nat) (l : Chs) (now : Int) (w : World) (hr : ChRow 0 w.heap.size w a l) (hbd : ChsBd 1048576 l) :
    Calls Try.prog 6 #[.agg #[.slice a l.length c, .int .i64 now]] w fun e w' => (∃ ra rc wa wc, e = .returned (.tuple #[.agg #[.int .i64 (beginN l now), .slice ra 0 rc, .slice wa 0 wc], .int .i64 (badN l now)])) ∧ Below w.heap.size w w' := by
  obtain ⟨V, hV⟩ : ∃ V, V = (w.alloc (.cells #[.slice a l.length c, .int .i64 now] 25)).alloc (.cells #[.int .i64 0, .slice none 0 0, .slice none 0 0] 30) := ⟨_, rfl⟩
  have bV : Below w.heap.size w V := by
    rw [hV]
    repeat (first | exact Below.refl _ _ | refine Below.alloc ?_ (by first | omega | (simp <;> omega)) _)
  have zV : w.heap.size + 2 ≤ V.heap.size := by rw [hV]; simp
  have c0 : V.heap[w.heap.size]? = some (.cells #[.slice a l.length c, .int .i64 now] 25 (0, 0)) := by
    rw [hV, Below.heap_alloc _ _ _ (by simp)]; exact heap_alloc_new _ _
  have c1 : V.heap[w.heap.size + 1]? = some (.cells #[.int .i64 0, .slice none 0 0, .slice none 0 0] 30 (0, 0)) := by
    rw [hV]
    have := heap_alloc_new (w.alloc (.cells #[.slice a l.length c, .int .i64 now] 25)) (.cells #[.int .i64 0, .slice none 0 0, .slice none 0 0] 30)
    simpa using this
  have KV : Hid (∀ W, Below V.heap.size V W → W.heap[w.heap.size]? = some (.cells #[.slice a l.length c, .int .i64 now] 25 (0, 0)) ∧ W.heap[w.heap.size + 1]? = some (.cells #[.int .i64 0, .slice none 0 0, .slice none 0 0] 30 (0, 0)) ∧ Below w.heap.size w W ∧ ChRow 0 W.heap.size W a l) := fun W h =>
    have hw := bV.trans (h.mono (by omega))
    ⟨(h.block _ (by omega)).trans c0, (h.block _ (by omega)).trans c1, hw, ChRow.up hr hw⟩
  have x0 := fun o => row_cell c0 o
  have x1 := fun o => row_cell c1 o
  have HE : Hid _ := hbd
  clear hr hbd c0 c1 bV
  go_enter Try.func6, Try.ntmps6
  go_upto_region 1 with fail
  rw [← hV]
  clear hV
  go_wp2_with fail
  refine (impl_storeOK a c l now _ (KV.out _ (Below.refl _ _)).2.2.2 HE.out).mono ?_
  rintro e w1 ⟨rfl, b1⟩
  have z1 := b1.size
  have Q : Hid (Below w.heap.size w w1) := (KV.out _ b1).2.2.1
  have y0 := fun o => row_cell (KV.out _ b1).1 o
  have y1 := fun o => row_cell (KV.out _ b1).2.1 o
  have f1 := fun o => row_frozen (KV.out _ b1).2.1 o
  clear b1 x0 x1
  cases hS : storeB l now
  · have H1 : Hid (0 = beginN l now) := by simp [Hid, beginN, hS]
    have H2 : Hid (1 = badN l now) := by simp [Hid, badN, hS]
    clear hS
    go_wp2_with fail
    refine bodyPost_ret (v := .tuple #[.agg #[.int .i64 0, .slice none 0 0, .slice none 0 0], .int .i64 1]) (by simp [results, Try.results6, go_sem, y1]) rfl ⟨⟨none, 0, none, 0, by rw [← H1.out, ← H2.out]⟩, ?_⟩
    repeat (refine Below.setCell ?_ (by first | omega | (simp <;> omega)) _)
    exact Q.out
  · have H1 : Hid (now = beginN l now) := by simp [Hid, beginN, hS]
    have H2 : Hid (0 = badN l now) := by simp [Hid, badN, hS]
    clear hS
    go_wp2_with fail
    refine bodyPost_ret (v := .tuple #[.agg #[.int .i64 now, .slice none 0 0, .slice none 0 0], .int .i64 0]) (by simp [results, Try.results6, go_sem, y1]) rfl ⟨⟨none, 0, none, 0, by rw [← H1.out, ← H2.out]⟩, ?_⟩
    repeat (refine Below.setCell ?_ (by first | omega | (simp <;> omega)) _)
    exact Q.out
end Go.Proofs.Ytaeknfjmbjeloaa.G
namespace Go.Proofs.Ytaeknfjmbjeloaa.G
open Go.ChangeShapes Go.WideShapes Go.ChangeAt Go.RowKit
set_option linter.unusedVariables false

set_option maxHeartbeats 2000000 in
theorem last_written (wa : Option Addr) (wq : Nat) (ws : List Ve) (key : Int) (w : World) (hr : VeRow 0 w.heap.size w wa ws) (hl : ws.length ≤ 1048576) :
    Calls Try.prog 30 #[.slice wa ws.length wq, .int .i64 key] w fun e w' => e = .returned (.tuple #[.int .i64 (wroteV ws key), .bool (wroteB ws key)]) ∧ Below w.heap.size w w' := by
  have HR : Hid (VeRow 0 w.heap.size w wa ws) := hr
  have HB : Hid (Below w.heap.size w w) := Below.refl _ _
  clear hr
  go_enter Try.func30, Try.ntmps30
  go_wp2_with fail
  go_loop [6] (fun i => ∃ (n : Nat) (z : Int), n ≤ ws.length ∧ i = .int .i64 z ∧ z = (n : Int) - 1 ∧ Hid (∀ j (hj : j < ws.length), n ≤ j → ws[j].ts ≠ key)) (fun i => (intOf i + 1).toNat)
  case atStart => exact ⟨ws.length, _, Nat.le_refl _, rfl, rfl, fun j hj h => by omega⟩
  case round =>
    obtain ⟨n, z, hn, rfl, hz, HN⟩ := hrel
    by_cases h0 : n = 0
    · subst h0
      have hz' : ¬ 0 ≤ z := by omega
      have HL : Hid (lastW key ws = none) := by rw [Hid, lastW_from (Nat.zero_le _) HN.out]; rfl
      have H1 : Hid (0 = wroteV ws key) := by rw [Hid, wroteV, HL.out]; rfl
      have H2 : Hid (false = wroteB ws key) := by rw [Hid, wroteB, HL.out]; rfl
      clear hz
      go_wp2_with fail
      go_ret2
      exact ⟨ret_ib H1.out H2.out, HB.out⟩
    · obtain ⟨m, rfl⟩ : ∃ m, n = m + 1 := ⟨n - 1, by omega⟩
      obtain rfl : z = (m : Int) := by omega
      have hm : m < ws.length := by omega
      obtain ⟨b, o, ha, _, hbl, d0, d1⟩ := VeRow.cells HR.out m hm
      subst ha
      have hlt' : (m : Int) < ws.length := by omega
      have hge : (0 : Int) ≤ m := by omega
      by_cases he : ws[m].ts = key
      · have HL : Hid (lastW key ws = some ws[m].v) := by rw [Hid, lastW_from hn HN.out, lastW_take2 hm, if_pos he]
        have H1 : Hid (ws[m].v = wroteV ws key) := by rw [Hid, wroteV, HL.out]; rfl
        have H2 : Hid (true = wroteB ws key) := by rw [Hid, wroteB, HL.out]; rfl
        rw [he] at d0
        clear he hz
        go_wp2_with fail
        go_ret2
        exact ⟨ret_ib H1.out H2.out, HB.out⟩
      · have he' : (ws[m].ts == key) = false := by simpa using he
        have HN2 : Hid (∀ j (hj : j < ws.length), m ≤ j → ws[j].ts ≠ key) := fun j hj h => by
          by_cases e : j = m
          · subst e; exact he
          · exact HN.out j hj (by omega)
        clear he hz
        go_wp2_with fail
        go_round
        case rel => exact ⟨m, _, by omega, by first | rfl | go_num, by omega, HN2⟩
        case measure => simp [intOf]
set_option maxHeartbeats 1000000 in
theorem ints_index (a : Option Addr) (c : Nat) (x : List Int) (n : Int) (w : World) (hr : NuRow 0 w.heap.size w a x) (hl : x.length ≤ 1048576) :
    Calls Try.prog 53 #[.slice a x.length c, .int .i64 n] w fun e w' => (∃ v : Int, e = .returned (.int .i64 v) ∧ decide (0 ≤ v) = decide (n ∈ x)) ∧ w' = w := by
  have HR : Hid _ := hr
  clear hr
  go_enter Try.func53, Try.ntmps53
  go_wp2_with fail
  go_loop [8] (fun i => ∃ (k : Nat), k ≤ x.length ∧ i = .int .i64 k ∧ Hid (∀ i (h : i < x.length), i < k → x[i] ≠ n)) (fun i => x.length - (intOf i).toNat)
  case atStart => exact ⟨0, by omega, rfl, fun i _ h => by omega⟩
  case round =>
    obtain ⟨k, hk, rfl, HK⟩ := hrel
    by_cases hlt : k < x.length
    · obtain ⟨b, o, ha, _, hbl, d0⟩ := NuRow.cells HR.out k hlt
      subst ha
      have hlt' : (k : Int) < x.length := by omega
      by_cases he : x[k] = n
      · have HT : Hid (decide (n ∈ x) = true) := decide_eq_true (by rw [← he]; exact List.getElem_mem hlt)
        rw [he] at d0
        clear he
        go_wp2_with fail
        go_ret
        exact ⟨⟨k, rfl, by simp [of_decide_eq_true HT.out]⟩, rfl⟩
      · have he' : (n == x[k]) = false := by simpa using fun h => he h.symm
        have HK2 : Hid (∀ i (h : i < x.length), i < k + 1 → x[i] ≠ n) := fun i h1 h2 => by
          by_cases e : i = k
          · subst e; exact he
          · exact HK.out i h1 (by omega)
        clear he
        go_wp2_with fail
        go_round
        case rel => exact ⟨k + 1, by omega, by go_num, HK2⟩
        case measure => simp [intOf]; omega
    · have HT : Hid (decide (n ∈ x) = false) := by
        refine decide_eq_false fun h => ?_
        obtain ⟨i, hi, e⟩ := List.getElem_of_mem h
        exact HK.out i hi (by omega) e
      go_wp2_with fail
      go_ret
      exact ⟨⟨-1, rfl, by simp [of_decide_eq_false HT.out]⟩, rfl⟩
set_option maxHeartbeats 1000000 in
theorem ints_contains (a : Option Addr) (c : Nat) (x : List Int) (n : Int) (w : World) (hr : NuRow 0 w.heap.size w a x) (hl : x.length ≤ 1048576) :
    Calls Try.prog 31 #[.slice a x.length c, .int .i64 n] w fun e w' => e = .returned (.bool (decide (n ∈ x))) ∧ w' = w := by
  have HR : Hid _ := hr
  clear hr
  go_enter Try.func31, Try.ntmps31
  go_wp2_with fail
  refine (ints_index a c x n _ HR.out hl).mono ?_
  rintro e w1 ⟨⟨v, rfl, hv⟩, hw⟩
  rw [hw]
  have HV : Hid _ := hv
  clear hv
  go_wp2_with fail
  go_ret
  exact ⟨ret_b HV.out, rfl⟩
set_option maxRecDepth 100000 in
theorem info_PuT : ∃ i, Try.prog.info? 43 = some i ∧ i.zero = some (.agg #[.int .i64 0, .int .i64 0]) ∧ i.size = 2 ∧ i.bytes = 16 := by
  refine ⟨_, rfl, ?_, ?_, ?_⟩ <;> kernel_rfl
theorem run_copy_one0 {P : Program} (w : World) (dT sT ty elem : TypeId) (dCap : Nat) (d a : Option Addr) (sCap : Nat) (hu : P.underlying dT = some (.slice elem)) (hs : (P.info? elem).map (·.size) = some 1) :
    (Builtin.copy_ #[dT, sT] ty #[.slice d 0 dCap, .slice a 0 sCap]).run P w = .ok (goInt 0) w := by
  cases hq : P.info? elem with
  | none => simp [hq] at hs
  | some i =>
    cases a with
    | none => cases d <;> simp [Builtin.copy_, run_underlying hu, Builtin.lenOf, Builtin.firstCells, sizeOf, typeInfo, hq, storeCells]
    | some a =>
      have hl := run_loadCells_list (P := P) w a [] (by simp)
      rw [List.length_nil] at hl
      cases d <;> simp [Builtin.copy_, run_underlying hu, Builtin.lenOf, Builtin.firstCells, sizeOf, typeInfo, hq, hl, storeCells]
theorem infoS_int : (Try.prog.info? 3).map (·.size) = some 1 := by kernel_rfl
theorem infoS_Put : (Try.prog.info? 43).map (·.size) = some 2 := by kernel_rfl
theorem copy_nu (x : List Int) (a : Option Addr) (g c N0 : Nat) (cs : Array Value) (W : World) (hr : NuRow 0 W.heap.size W a x) (hh : W.heap[g]? = some (.cells cs 3 (0, 0))) (hs : cs.size = x.length) :
    ∃ W' cs', (Builtin.copy_ #[27, 27] 3 #[.slice (some ⟨g, 0, none⟩) x.length x.length, .slice a x.length c]).run Try.prog W = .ok (goInt x.length) W' ∧ W'.heap[g]? = some (.cells cs' 3 (0, 0)) ∧ cs'.toList = nuV x ∧ (∀ k, k ≠ g → W'.heap[k]? = W.heap[k]?) ∧ W'.heap.size = W.heap.size ∧ (∀ B w0, Below B w0 W → B ≤ g → Below B w0 W') := by
  by_cases h0 : x = []
  · subst h0
    have : cs.toList = [] := List.eq_nil_of_length_eq_zero (by simpa using hs)
    exact ⟨W, cs, run_copy_one0 W _ _ _ _ _ _ _ _ Try.underlying27 infoS_int, hh, this, fun _ _ => rfl, rfl, fun _ _ h _ => h⟩
  · rcases hr with h | ⟨b, o, rfl, _, hb, hx⟩
    · exact absurd h h0
    have hlen := nuV_len x
    have hrun := run_copy_row (P := Try.prog) W 27 27 3 3 g 0 x.length x.length ⟨b, o, none⟩ x.length c cs _ (nuV x) Try.underlying27 infoS_int hh (by rw [hlen]; exact (Nat.min_self _).symm) (nuV_src hx) (by omega) (nuV_one x)
    have hlist : (List.take 0 cs.toList ++ nuV x ++ List.drop (0 + (nuV x).length) cs.toList) = nuV x := by
      rw [List.drop_eq_nil_of_le (by simp; omega)]; simp
    rw [hlist, hlen] at hrun
    exact ⟨_, _, hrun, setRow_heap W g cs _ _ _ hh, by simp, fun k hk => setRow_other W g k _ hk, by simp, fun B w0 h1 h2 => below_setRow h1 h2 _⟩
theorem copy_pu (x : List Ve) (a : Option Addr) (g c N0 : Nat) (cs : Array Value) (W : World) (hr : VeRow 0 W.heap.size W a x) (hh : W.heap[g]? = some (.cells cs 43 (0, 0))) (hs : cs.size = x.length * 2) :
    ∃ W' cs', (Builtin.copy_ #[28, 28] 3 #[.slice (some ⟨g, 0, none⟩) x.length x.length, .slice a x.length c]).run Try.prog W = .ok (goInt x.length) W' ∧ W'.heap[g]? = some (.cells cs' 43 (0, 0)) ∧ cs'.toList = veCells x ∧ (∀ k, k ≠ g → W'.heap[k]? = W.heap[k]?) ∧ W'.heap.size = W.heap.size ∧ (∀ B w0, Below B w0 W → B ≤ g → Below B w0 W') := by
  by_cases h0 : x = []
  · subst h0
    have : cs.toList = [] := List.eq_nil_of_length_eq_zero (by simpa using hs)
    exact ⟨W, cs, run_copy_two0 W _ _ _ _ 0 0 _ _ _ _ Try.underlying28 infoS_Put, hh, this, fun _ _ => rfl, rfl, fun _ _ h _ => h⟩
  · rcases hr with h | ⟨b, o, rfl, _, hb, hx⟩
    · exact absurd h h0
    have hlen := veCells_len x
    have hrun := run_copy_two (P := Try.prog) W 28 28 3 43 g 0 x.length x.length ⟨b, o, none⟩ x.length c x.length cs _ (veCells x) Try.underlying28 infoS_Put hh (Nat.min_self _) hlen (veCells_src hx) (by omega) (veCells_one x)
    have hlist : (List.take 0 cs.toList ++ veCells x ++ List.drop (0 + (veCells x).length) cs.toList) = veCells x := by
      rw [List.drop_eq_nil_of_le (by simp; omega)]; simp
    rw [hlist] at hrun
    exact ⟨_, _, hrun, setRow_heap W g cs _ _ _ hh, by simp, fun k hk => setRow_other W g k _ hk, by simp, fun B w0 h1 h2 => below_setRow h1 h2 _⟩
theorem alloc3 (V : World) (c1 c2 c3 : Array Value) (t1 t2 t3 : TypeId) : (((V.alloc (.cells c1 t1)).alloc (.cells c2 t2)).alloc (.cells c3 t3)).drew.heap[V.heap.size]? = some (.cells c1 t1 (0, 0)) ∧ (((V.alloc (.cells c1 t1)).alloc (.cells c2 t2)).alloc (.cells c3 t3)).drew.heap[V.heap.size + 1]? = some (.cells c2 t2 (0, 0)) ∧ (((V.alloc (.cells c1 t1)).alloc (.cells c2 t2)).alloc (.cells c3 t3)).drew.heap[V.heap.size + 1 + 1]? = some (.cells c3 t3 (0, 0)) ∧ Below V.heap.size V (((V.alloc (.cells c1 t1)).alloc (.cells c2 t2)).alloc (.cells c3 t3)).drew := by
  refine ⟨?_, ?_, ?_, ?_⟩
  · show (((V.alloc (.cells c1 t1)).alloc (.cells c2 t2)).alloc (.cells c3 t3)).heap[V.heap.size]? = _
    rw [Below.heap_alloc _ _ _ (by simp; omega), Below.heap_alloc _ _ _ (by simp)]; exact heap_alloc_new _ _
  · show (((V.alloc (.cells c1 t1)).alloc (.cells c2 t2)).alloc (.cells c3 t3)).heap[V.heap.size + 1]? = _
    rw [Below.heap_alloc _ _ _ (by simp)]
    have := heap_alloc_new (V.alloc (.cells c1 t1)) (.cells c2 t2)
    simpa using this
  · show (((V.alloc (.cells c1 t1)).alloc (.cells c2 t2)).alloc (.cells c3 t3)).heap[V.heap.size + 1 + 1]? = _
    have := heap_alloc_new ((V.alloc (.cells c1 t1)).alloc (.cells c2 t2)) (.cells c3 t3)
    simpa using this
  · refine Below.drew ?_
    repeat (first | exact Below.refl _ _ | refine Below.alloc ?_ (by first | omega | (simp <;> omega)) _)
/-- A new transaction whose rows are made, not yet filled. -/
def CpT (V : World) (st : Int) (rn wn : Nat) (cs1 cs2 : Array Value) (u : Value) (W : World) : Prop :=
  ∃ g1 g2 g3, u = .pointer (some ⟨g3, 0, none⟩) ∧ V.heap.size ≤ g1 ∧ V.heap.size ≤ g2 ∧ V.heap.size ≤ g3 ∧ W.heap[g1]? = some (.cells cs1 3 (0, 0)) ∧ W.heap[g2]? = some (.cells cs2 43 (0, 0)) ∧
    W.heap[g3]? = some (.cells #[.int .i64 st, .slice (some ⟨g1, 0, none⟩) rn rn, .slice (some ⟨g2, 0, none⟩) wn wn] 30 (0, 0)) ∧ Below V.heap.size V W
set_option maxHeartbeats 4000000 in
theorem copy_txn (ra wa : Option Addr) (rq wq : Nat) (st : Int) (rs : List Int) (ws : List Ve) (w : World) (ht : TxRow 0 w.heap.size w ra wa rs ws) (htb : TxBd 1048576 rs ws) :
    Calls Try.prog 29 #[.agg #[.int .i64 st, .slice ra rs.length rq, .slice wa ws.length wq]] w fun e w' => ∃ g1 g2, e = .returned (.agg #[.int .i64 st, .slice (some ⟨g1, 0, none⟩) rs.length rs.length, .slice (some ⟨g2, 0, none⟩) ws.length ws.length]) ∧ TxO w.heap.size w' (.slice (some ⟨g1, 0, none⟩) rs.length rs.length) (.slice (some ⟨g2, 0, none⟩) ws.length ws.length) rs ws ∧ Below w.heap.size w w' := by
  obtain ⟨V, hV⟩ : ∃ V, V = (w.alloc (.cells #[.int .i64 st, .slice ra rs.length rq, .slice wa ws.length wq] 30)).alloc (.cells #[.int .i64 0, .slice none 0 0, .slice none 0 0] 30) := ⟨_, rfl⟩
  have bV : Below w.heap.size w V := by
    rw [hV]
    repeat (first | exact Below.refl _ _ | refine Below.alloc ?_ (by first | omega | (simp <;> omega)) _)
  have zV : w.heap.size + 2 ≤ V.heap.size := by rw [hV]; simp
  have c0 : V.heap[w.heap.size]? = some (.cells #[.int .i64 st, .slice ra rs.length rq, .slice wa ws.length wq] 30 (0, 0)) := by
    rw [hV, Below.heap_alloc _ _ _ (by simp)]; exact heap_alloc_new _ _
  have c1 : V.heap[w.heap.size + 1]? = some (.cells #[.int .i64 0, .slice none 0 0, .slice none 0 0] 30 (0, 0)) := by
    rw [hV]
    have := heap_alloc_new (w.alloc (.cells #[.int .i64 st, .slice ra rs.length rq, .slice wa ws.length wq] 30)) (.cells #[.int .i64 0, .slice none 0 0, .slice none 0 0] 30)
    simpa using this
  have x0 := fun o => row_cell c0 o
  obtain ⟨i1, hi1, hz1, hsz1, hby1⟩ := info_int
  obtain ⟨i2, hi2, hz2, hsz2, hby2⟩ := info_PuT
  have hl1 := htb.1
  have hl2 := htb.2
  have hmk1 := fun W => run_make (P := Try.prog) W 27 3 i1 _ Try.underlying27 hi1 hz1 .i64 .i64 (rs.length : Int) (rs.length : Int) (by omega) (by omega) (by rw [hby1]; omega) (by omega)
  have hmk2 := fun W => run_make (P := Try.prog) W 28 43 i2 _ Try.underlying28 hi2 hz2 .i64 .i64 (ws.length : Int) (ws.length : Int) (by omega) (by omega) (by rw [hby2]; omega) (by omega)
  rw [hsz1, Int.toNat_natCast, Nat.mul_one] at hmk1
  rw [hsz2, Int.toNat_natCast] at hmk2
  have hs1 := size_madeCells (Value.int .i64 0).cells rs.length
  have hs2 := size_madeCells (Value.agg #[.int .i64 0, .int .i64 0]).cells (ws.length * 2)
  generalize madeCells (Value.int .i64 0).cells rs.length = cs1 at *
  generalize madeCells (Value.agg #[.int .i64 0, .int .i64 0]).cells (ws.length * 2) = cs2 at *
  clear hi1 hz1 hsz1 hby1 hi2 hz2 hsz2 hby2
  go_enter Try.func29, Try.ntmps29
  go_upto_region 1 with fail
  rw [← hV]
  clear hV
  have p1 := fun ob o => (World.cell?_alloc_past (w := V) ob w.heap.size o (by omega)).trans (x0 o)
  have p2 := fun ob ob2 o => (World.cell?_alloc_past (w := V.alloc ob) ob2 w.heap.size o (by simp; omega)).trans (p1 ob o)
  have p3 := fun ob ob2 ob3 o => (World.cell?_alloc_past (w := (V.alloc ob).alloc ob2) ob3 w.heap.size o (by simp; omega)).trans (p2 ob ob2 o)
  have HT : Hid (∀ W, Below V.heap.size V W → W.heap[w.heap.size]? = some (.cells #[.int .i64 st, .slice ra rs.length rq, .slice wa ws.length wq] 30 (0, 0)) ∧ W.heap[w.heap.size + 1]? = some (.cells #[.int .i64 0, .slice none 0 0, .slice none 0 0] 30 (0, 0)) ∧ TxRow 0 W.heap.size W ra wa rs ws ∧ Below w.heap.size w W) := fun W h =>
    have hw := bV.trans (h.mono (by omega))
    ⟨(h.block _ (by omega)).trans c0, (h.block _ (by omega)).trans c1, TxRow.up ht hw, hw⟩
  have HS1 : Hid _ := hs1
  have HS2 : Hid _ := hs2
  clear ht htb bV c0 c1 hs1 hs2
  go_cut [3] from 4 to 14 (fun u wx => CpT V st rs.length ws.length cs1 cs2 u wx)
  case first =>
    go_region
    all_goals (try go_wp2_with fail)
    all_goals go_meet
    all_goals (obtain ⟨h1, h2, h3, hb⟩ := alloc3 V _ _ _ _ _ _; first
      | exact ⟨_, _, _, rfl, by omega, by omega, by omega, h1, h2, h3, hb⟩
      | exact ⟨_, _, _, rfl, by omega, by omega, by omega, h1, h3, h2, hb⟩
      | exact ⟨_, _, _, rfl, by omega, by omega, by omega, h2, h1, h3, hb⟩
      | exact ⟨_, _, _, rfl, by omega, by omega, by omega, h2, h3, h1, hb⟩
      | exact ⟨_, _, _, rfl, by omega, by omega, by omega, h3, h1, h2, hb⟩
      | exact ⟨_, _, _, rfl, by omega, by omega, by omega, h3, h2, h1, hb⟩)
  clear p1 p2 p3 x0 hmk1 hmk2
  obtain ⟨wx, rfl⟩ : ∃ x, x = wc := ⟨_, rfl⟩
  obtain ⟨g1, g2, g3, rfl, k1, k2, k3, G1, G2, G3, BX⟩ := hcut
  have n12 : g1 ≠ g2 := by rintro rfl; rw [G1] at G2; simp at G2
  have n13 : g1 ≠ g3 := by rintro rfl; rw [G1] at G3; simp at G3
  have n23 : g2 ≠ g3 := by rintro rfl; rw [G2] at G3; simp at G3
  obtain ⟨t0, t1, t2, t3⟩ := HT.out _ BX
  obtain ⟨W1, d1, hr1, H1, e1, o1, s1, b1⟩ := copy_nu rs ra g1 rq 0 cs1 wx t2.1 G1 HS1.out
  have BX1 := b1 _ _ BX (by omega)
  obtain ⟨u0, u1, u2, u3⟩ := HT.out _ BX1
  have G2' := (o1 g2 (Ne.symm n12)).trans G2
  have G3' := (o1 g3 (Ne.symm n13)).trans G3
  obtain ⟨W2, d2, hr2, H2, e2, o2, s2, b2⟩ := copy_pu ws wa g2 wq 0 cs2 W1 u2.2 G2' HS2.out
  have BX2 := b2 _ _ BX1 (by omega)
  obtain ⟨v0, v1, v2, v3⟩ := HT.out _ BX2
  have G3'' := (o2 g3 (Ne.symm n23)).trans G3'
  have G1'' := (o2 g1 n12).trans H1
  have zx := (Array.getElem?_eq_some_iff.1 G1'').1
  have zy := (Array.getElem?_eq_some_iff.1 H2).1
  have FIN : Hid (TxO (w.heap.size + 2) W2 (.slice (some ⟨g1, 0, none⟩) rs.length rs.length) (.slice (some ⟨g2, 0, none⟩) ws.length ws.length) rs ws) := by
    refine ⟨⟨by rw [nuV_len, Nat.mul_one], .inr ⟨g1, rs.length, d1, rfl, by omega, G1'', Nat.le_refl _, by unfold maxLen; omega, ?_, ?_⟩⟩, ⟨veCells_len ws, .inr ⟨g2, ws.length, d2, rfl, by omega, H2, Nat.le_refl _, by unfold maxLen; omega, ?_, ?_⟩⟩⟩
    · rw [← Array.length_toList, e1, nuV_len, Nat.mul_one]
    · rw [e1, List.take_of_length_le (by rw [nuV_len]; omega)]
    · rw [← Array.length_toList, e2, veCells_len]
    · rw [e2, List.take_of_length_le (by rw [veCells_len]; omega)]
  have BW : Hid (Below w.heap.size w W2) := v3
  have HW : Hid (w.heap.size + 1 < V.heap.size) := by unfold Hid; omega
  have y0 := fun o => row_cell t0 o
  have y3 := fun o => row_cell G3 o
  have z0 := fun o => row_cell u0 o
  have z3 := fun o => row_cell G3' o
  have q3 := fun o => row_cell G3'' o
  have q1 := fun o => row_cell v1 o
  have f1 := fun o => row_frozen v1 o
  clear t0 t1 t2 t3 u0 u1 u2 u3 v0 v1 v2 v3 G1 G2 G3 G2' G3' G3'' G1'' H1 H2 o1 o2 b1 b2 BX BX1 BX2 e1 e2 HT HS1 HS2
  go_wp2_with fail
  refine bodyPost_ret (v := .agg #[.int .i64 st, .slice (some ⟨g1, 0, none⟩) rs.length rs.length, .slice (some ⟨g2, 0, none⟩) ws.length ws.length]) (by simp [results, Try.results29, go_sem, q1]) rfl ⟨g1, g2, rfl, ?_, ?_⟩
  · refine TxO.low (TxO.move FIN.out (fun k h1 h2 => ?_)) (show w.heap.size ≤ w.heap.size + 2 by omega)
    repeat rw [heap_set _ _ _ _ _ (by omega)]
  · repeat (refine Below.setCell ?_ (by first | omega | (simp <;> omega)) _)
    exact BW.out
end Go.Proofs.Ytaeknfjmbjeloaa.G
