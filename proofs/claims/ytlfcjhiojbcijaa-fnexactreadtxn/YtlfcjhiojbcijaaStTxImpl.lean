/- The program's TxnOK. -/
import Derived.Test.YtlfcjhiojbcijaaStTxSpec
namespace Go.Proofs.Ytlfcjhiojbcijaa.G
open Go.ChangeShapes Go.WideShapes Go.ChangeAt Go.RowKit
set_option linter.unusedVariables false

/-- The flags of the keys that came. -/
def Came (cs : Array Value) (t : List Int) : Prop := cs.size = 16 ∧ ∀ j : Nat, j < 16 → cs[j]? = some (.bool (decide ((j : Int) ∈ t)))
theorem Came.put {cs : Array Value} {t : List Int} (h : Came cs t) {k : Nat} (hk : k < 16) : Came (cs.setIfInBounds k (.bool true)) (t ++ [(k : Int)]) := by
  refine ⟨by simp [h.1], fun j hj => ?_⟩
  by_cases e : j = k
  · subst e
    rw [Array.getElem?_setIfInBounds_self_of_lt (by rw [h.1]; omega)]; simp
  · rw [Array.getElem?_setIfInBounds_ne (by omega), h.2 j hj]
    simp; omega
set_option maxHeartbeats 4000000 in
theorem keys_once (a : Option Addr) (c : Nat) (rs : List Int) (w : World) (hr : NuRow 0 w.heap.size w a rs) (hl : rs.length ≤ 1048576) :
    Calls Try.prog 53 #[.slice a rs.length c] w fun e w' => e = .returned (.bool (readsB rs)) ∧ Below w.heap.size w w' := by
  have HR : Hid (∀ W0, Below w.heap.size w W0 → NuRow 0 W0.heap.size W0 a rs) := fun W0 hB => NuRow.up hr hB
  clear hr
  obtain ⟨cs0, hcs0⟩ : ∃ cs : Array Value, cs = #[.bool false, .bool false, .bool false, .bool false, .bool false, .bool false, .bool false, .bool false, .bool false, .bool false, .bool false, .bool false, .bool false, .bool false, .bool false, .bool false] := ⟨_, rfl⟩
  have HC0 : Hid (Came cs0 (rs.take 0)) := by
    refine ⟨by rw [hcs0]; rfl, fun j hj => ?_⟩
    rw [hcs0]
    have : j = 0 ∨ j = 1 ∨ j = 2 ∨ j = 3 ∨ j = 4 ∨ j = 5 ∨ j = 6 ∨ j = 7 ∨ j = 8 ∨ j = 9 ∨ j = 10 ∨ j = 11 ∨ j = 12 ∨ j = 13 ∨ j = 14 ∨ j = 15 := by omega
    rcases this with rfl | rfl | rfl | rfl | rfl | rfl | rfl | rfl | rfl | rfl | rfl | rfl | rfl | rfl | rfl | rfl <;> simp
  go_enter Try.func53, Try.ntmps53
  go_wp2_with fail
  rw [← hcs0]
  clear hcs0
  have B0 : Below w.heap.size w (w.alloc (.cells cs0 96)) := (Below.refl _ _).alloc (Nat.le_refl _) _
  have H0 : Hid ((w.alloc (.cells cs0 96)).heap[w.heap.size]? = some (.cells cs0 96 (0, 0))) := heap_alloc_new _ _
  go_loopw [8] (fun i w' => ∃ (k : Nat) (cs : Array Value), k ≤ rs.length ∧ i = .int .i64 k ∧ Hid (Below w.heap.size w w') ∧ Hid (w'.heap[w.heap.size]? = some (.cells cs 96 (0, 0))) ∧ Hid (Came cs (rs.take k)) ∧ Hid (∀ i, i < k → rdB rs i = true)) (fun i _ => rs.length - (intOf i).toNat)
  case atStart => exact ⟨0, cs0, by omega, rfl, B0, H0, HC0, fun i h => by omega⟩
  case round =>
    obtain ⟨wo, rfl⟩ : ∃ x, x = wr := ⟨_, rfl⟩
    obtain ⟨k, cs, hk, rfl, HB, HH, HC, HK⟩ := hrel
    clear B0 H0 HC0
    by_cases hlt : k < rs.length
    case neg =>
      have HN : Hid (true = readsB rs) := (readsB_true fun i hi => HK.out i (by omega)).symm
      go_wp2_with fail
      go_ret
      exact ⟨ret_b HN.out, HB.out⟩
    obtain ⟨b, o, ha, _, hbl, d0⟩ := NuRow.cells (HR.out _ HB.out) k hlt
    subst ha
    have HRB := rdB_eq hlt
    cases hA : keyS rs[k]
    · have HN : Hid (false = readsB rs) := (readsB_false hlt (by rw [HRB, show inS rs[k] 0 15 = false from by rw [inB_not]; intro hx; have := (keyB_iff rs[k]).2 ⟨by omega, by omega⟩; rw [hA] at this; cases this]; rfl)).symm
      clear HRB
      go_wp2_with (first | (go_at_call 29; refine (impl_isKey _ _).mono ?_; rintro e w' ⟨rfl, hw⟩; rw [hw, hA]))
      go_ret
      exact ⟨ret_b HN.out, HB.out⟩
    obtain ⟨g1, g2⟩ := (keyB_iff _).1 hA
    have HIN : Hid (inS rs[k] 0 15 = true) := (inS_iff _ _ _).2 ⟨by omega, by omega⟩
    obtain ⟨m, hm⟩ : ∃ m : Nat, rs[k] = m := ⟨rs[k].toNat, by omega⟩
    have HRB2 : Hid _ := HRB
    rw [hm] at d0 hA g1 g2 HIN HRB2
    have hm16 : m < 16 := by omega
    have cm := (row_cell HH.out m).trans (HC.out.2 m hm16)
    have HM : Hid _ := hm
    clear HRB hm
    cases hI : decide ((m : Int) ∈ rs.take k)
    · rw [hI] at cm
      have HO : Hid (rdB rs k = true) := by rw [Hid, HRB2.out, HIN.out, hI]; rfl
      have hf := row_frozen HH.out m
      have HC2 : Hid (Came (cs.setIfInBounds m (.bool true)) (rs.take (k + 1))) := by
        rw [Hid, List.take_succ_eq_append_getElem hlt, HM.out]; exact HC.out.put hm16
      have hbw : w.heap.size < wo.heap.size := (Array.getElem?_eq_some_iff.1 HH.out).1
      clear hI
      go_wp2_with (first | (go_at_call 29; refine (impl_isKey _ _).mono ?_; rintro e w' ⟨rfl, hw⟩; rw [hw, hA]))
      refine ⟨⟨k + 1, _, by omega, by go_num, HB.out.setCell (Nat.le_refl _) _, row_set HH.out _ _, HC2, ?_⟩, by simp [intOf]; omega⟩
      intro i hi
      by_cases e : i = k
      · subst e; exact HO.out
      · exact HK.out i (by omega)
    · have HN : Hid (false = readsB rs) := (readsB_false hlt (by rw [HRB2.out, HIN.out, hI]; rfl)).symm
      rw [hI] at cm
      clear hI
      go_wp2_with (first | (go_at_call 29; refine (impl_isKey _ _).mono ?_; rintro e w' ⟨rfl, hw⟩; rw [hw, hA]))
      go_ret
      exact ⟨ret_b HN.out, HB.out⟩
set_option maxHeartbeats 4000000 in
theorem impl_txnOK (a ra wa : Option Addr) (c rq wq : Nat) (l : Chs) (now st : Int) (rs : List Int) (ws : List Ve) (w : World) (hr : ChRow 0 w.heap.size w a l) (hbd : ChsBd 1048576 l) (ht : TxRow 0 w.heap.size w ra wa rs ws) (htb : TxBd 1048576 rs ws) :
    Calls Try.prog 28 #[.agg #[.slice a l.length c, .int .i64 now], .agg #[.int .i64 st, .slice ra rs.length rq, .slice wa ws.length wq]] w fun e w' => e = .returned (.bool (txnB l now st rs ws)) ∧ Below w.heap.size w w' := by
  obtain ⟨V, hV⟩ : ∃ V, V = (w.alloc (.cells #[.slice a l.length c, .int .i64 now] 38)).alloc (.cells #[.int .i64 st, .slice ra rs.length rq, .slice wa ws.length wq] 33) := ⟨_, rfl⟩
  have bV : Below w.heap.size w V := by
    rw [hV]
    repeat (first | exact Below.refl _ _ | refine Below.alloc ?_ (by first | omega | (simp <;> omega)) _)
  have zV : w.heap.size + 2 ≤ V.heap.size := by rw [hV]; simp
  have c0 : V.heap[w.heap.size]? = some (.cells #[.slice a l.length c, .int .i64 now] 38 (0, 0)) := by
    rw [hV, Below.heap_alloc _ _ _ (by simp)]; exact heap_alloc_new _ _
  have c1 : V.heap[w.heap.size + 1]? = some (.cells #[.int .i64 st, .slice ra rs.length rq, .slice wa ws.length wq] 33 (0, 0)) := by
    rw [hV]
    have := heap_alloc_new (w.alloc (.cells #[.slice a l.length c, .int .i64 now] 38)) (.cells #[.int .i64 st, .slice ra rs.length rq, .slice wa ws.length wq] 33)
    simpa using this
  have KV : Hid (∀ W, Below V.heap.size V W → W.heap[w.heap.size + 1]? = some (.cells #[.int .i64 st, .slice ra rs.length rq, .slice wa ws.length wq] 33 (0, 0)) ∧ Below w.heap.size w W ∧ ChRow 0 W.heap.size W a l ∧ TxRow 0 W.heap.size W ra wa rs ws) := fun W h =>
    have hw := bV.trans (h.mono (by omega))
    ⟨(h.block _ (by omega)).trans c1, hw, ChRow.up hr hw, TxRow.up ht hw⟩
  have x0 := fun o => row_cell c0 o
  have x1 := fun o => row_cell c1 o
  have HE : Hid _ := hbd
  have hl1 := htb.1
  have hl2 := htb.2
  clear hr hbd ht htb c0 c1 bV
  go_enter Try.func28, Try.ntmps28
  go_upto_region 1 with fail
  rw [← hV]
  clear hV
  by_cases hh : hourN l now st = 0
  case neg =>
    have HN : Hid (false = txnB l now st rs ws) := by
      unfold Hid
      symm
      rw [Bool.eq_false_iff]
      intro h
      obtain ⟨h1, h2, _, _⟩ := txnB_all h
      exact hh (by simp [hourN, h1, (inS_iff st 0 now).2 h2])
    have hh' : (hourN l now st == 0) = false := by simpa using hh
    clear hh
    go_wp2_with (first | (go_at_call 52; refine (impl_hourFault a c l now st _ (KV.out _ (Below.refl _ _)).2.2.1 HE.out).mono ?_; rintro e w1 ⟨rfl, b1⟩; have Q : Hid _ := (KV.out _ b1).2.1; clear b1; generalize hourN l now st = z at *) | fail)
    go_ret
    exact ⟨ret_b HN.out, Q.out⟩
  have HS : Hid (storeB l now = true ∧ inS st 0 now = true) := by
    unfold hourN at hh
    split at hh
    · split at hh
      · exact ⟨by assumption, by assumption⟩
      · cases hh
    · cases hh
  have HH : Hid _ := hh
  clear hh
  cases hK : readsB rs
  · have HN : Hid (false = txnB l now st rs ws) := by simp [Hid, txnB, txB, hK]
    have HK : Hid _ := hK
    clear hK
    go_wp2_with (first
      | (go_at_call 52; refine (impl_hourFault a c l now st _ (KV.out _ (Below.refl _ _)).2.2.1 HE.out).mono ?_; rintro e w1 ⟨rfl, b1⟩; rw [HH.out]; have y1 := fun o => row_cell (KV.out _ b1).1 o; have B1 : Hid _ := b1; clear b1)
      | (go_at_call 53; refine (keys_once ra rq rs _ (KV.out _ B1.out).2.2.2.1 hl1).mono ?_; rintro e w2 ⟨rfl, b2⟩; rw [HK.out]; have Q : Hid _ := (KV.out _ (B1.out.trans (b2.mono B1.out.size))).2.1; clear b2) | fail)
    go_ret
    exact ⟨ret_b HN.out, Q.out⟩
  have HN : Hid (putsB ws = txnB l now st rs ws) := by simp [Hid, txnB, txB, hK, HS.out.1, HS.out.2]
  have HK : Hid _ := hK
  clear hK
  go_wp2_with (first
      | (go_at_call 52; refine (impl_hourFault a c l now st _ (KV.out _ (Below.refl _ _)).2.2.1 HE.out).mono ?_; rintro e w1 ⟨rfl, b1⟩; rw [HH.out]; have y1 := fun o => row_cell (KV.out _ b1).1 o; have B1 : Hid _ := b1; clear b1)
      | (go_at_call 53; refine (keys_once ra rq rs _ (KV.out _ B1.out).2.2.2.1 hl1).mono ?_; rintro e w2 ⟨rfl, b2⟩; rw [HK.out]; have B2 : Hid _ := B1.out.trans (b2.mono B1.out.size); clear b2; clear y1; have y2 := fun o => row_cell (KV.out _ B2.out).1 o)
      | (go_at_call 54; refine (impl_putsOK wa wq ws _ (KV.out _ B2.out).2.2.2.2 hl2).mono ?_; rintro e w3 ⟨rfl, b3⟩; have Q : Hid _ := (KV.out _ (B2.out.trans (b3.mono B2.out.size))).2.1; clear b3) | fail)
  go_ret
  exact ⟨ret_b HN.out, Q.out⟩
end Go.Proofs.Ytlfcjhiojbcijaa.G
