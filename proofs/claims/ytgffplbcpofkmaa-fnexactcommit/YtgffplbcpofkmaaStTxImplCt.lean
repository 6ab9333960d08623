/- The program's Commit. -/
import Derived.Test.YtgffplbcpofkmaaStTxImplTwo
import Derived.Test.YtgffplbcpofkmaaStTxCommit
import Derived.Test.YtgffplbcpofkmaaStWaBoth
namespace Go.Proofs.Ytgffplbcpofkmaa.G
open Go.ChangeShapes Go.WideShapes Go.ChangeAt Go.RowKit
set_option linter.unusedVariables false

set_option maxHeartbeats 8000000 in
theorem impl_ct (a ra wa : Option Addr) (c rq wq : Nat) (l : Chs) (now st : Int) (rs : List Int) (ws : List Ve) (m : Chs) (nr h cd : Int) (w : World) (hs : ChRow 0 w.heap.size w a l) (hsb : ChsBd 1048576 l) (hr : TxRow 0 w.heap.size w ra wa rs ws) (hbd : TxBd 1048576 rs ws) (hcap : rs.length ≤ rq) (hct : CtIs l now st rs ws m nr h cd) :
    Calls Try.prog 30 #[.agg #[.slice a l.length c, .int .i64 now], .agg #[.int .i64 st, .slice ra rs.length rq, .slice wa ws.length wq]] w fun e w' => ∃ a' c' bs, e = .returned (.tuple #[.agg #[.slice a' m.length c', .int .i64 nr], .int .i64 h, .int .i64 cd]) ∧ StHas w.heap.size w'.heap.size w' a' m bs ∧ Below w.heap.size w w' := by
  have HI : Hid _ := hct
  clear hct
  obtain ⟨V, hV⟩ : ∃ V, V = ((w.alloc (.cells #[.slice a l.length c, .int .i64 now] 34)).alloc (.cells #[.int .i64 st, .slice ra rs.length rq, .slice wa ws.length wq] 38)).alloc (.cells #[.slice none 0 0, .int .i64 0] 34) := ⟨_, rfl⟩
  have bV : Below w.heap.size w V := by
    rw [hV]
    repeat (first | exact Below.refl _ _ | refine Below.alloc ?_ (by first | omega | (simp <;> omega)) _)
  have zV : w.heap.size + 3 ≤ V.heap.size := by rw [hV]; simp
  have c0 : V.heap[w.heap.size]? = some (.cells #[.slice a l.length c, .int .i64 now] 34 (0, 0)) := by
    rw [hV, Below.heap_alloc _ _ _ (by simp <;> omega), Below.heap_alloc _ _ _ (by simp <;> omega)]; exact heap_alloc_new _ _
  have c1 : V.heap[w.heap.size + 1]? = some (.cells #[.int .i64 st, .slice ra rs.length rq, .slice wa ws.length wq] 38 (0, 0)) := by
    rw [hV, Below.heap_alloc _ _ _ (by simp <;> omega)]
    have := heap_alloc_new (w.alloc (.cells #[.slice a l.length c, .int .i64 now] 34)) (.cells #[.int .i64 st, .slice ra rs.length rq, .slice wa ws.length wq] 38)
    simpa using this
  have c2 : V.heap[w.heap.size + 1 + 1]? = some (.cells #[.slice none 0 0, .int .i64 0] 34 (0, 0)) := by
    rw [hV]
    have := heap_alloc_new ((w.alloc (.cells #[.slice a l.length c, .int .i64 now] 34)).alloc (.cells #[.int .i64 st, .slice ra rs.length rq, .slice wa ws.length wq] 38)) (.cells #[.slice none 0 0, .int .i64 0] 34)
    simpa using this
  have KV : Hid (∀ W, Below V.heap.size V W → W.heap[w.heap.size]? = some (.cells #[.slice a l.length c, .int .i64 now] 34 (0, 0)) ∧ W.heap[w.heap.size + 1]? = some (.cells #[.int .i64 st, .slice ra rs.length rq, .slice wa ws.length wq] 38 (0, 0)) ∧ W.heap[w.heap.size + 1 + 1]? = some (.cells #[.slice none 0 0, .int .i64 0] 34 (0, 0)) ∧ ChRow 0 W.heap.size W a l ∧ TxRow 0 W.heap.size W ra wa rs ws ∧ Below w.heap.size w W) := fun W h =>
    have hw := bV.trans (h.mono (by omega))
    ⟨(h.block _ (by omega)).trans c0, (h.block _ (by omega)).trans c1, (h.block _ (by omega)).trans c2, ChRow.up hs hw, TxRow.up hr hw, hw⟩
  have HE : Hid (ChsBd 1048576 l) := hsb
  have HD : Hid (TxBd 1048576 rs ws) := hbd
  have x0 := fun o => row_cell c0 o
  have x1 := fun o => row_cell c1 o
  clear hs hr hbd hsb c0 c1 c2 bV
  go_enter Try.func30, Try.ntmps30
  go_upto_region 1 with fail
  rw [← hV]
  clear hV
  go_wp2_with fail
  refine (impl_txnOK a ra wa c rq wq l now st rs ws _ (KV.out _ (Below.refl _ _)).2.2.2.1 HE.out (KV.out _ (Below.refl _ _)).2.2.2.2.1 HD.out hcap).mono ?_
  rintro e w1 ⟨rfl, hb1⟩
  have q1 : Hid (Below V.heap.size V w1) := hb1
  have z1 := hb1.size
  have xa1 := fun o => row_cell (KV.out _ q1.out).1 o
  have xb1 := fun o => row_cell (KV.out _ q1.out).2.1 o
  have xc1 := fun o => row_cell (KV.out _ q1.out).2.2.1 o
  have yc1 := fun o => row_frozen (KV.out _ q1.out).2.2.1 o
  have TB1 : Hid (Below w.heap.size w w1) := (KV.out _ q1.out).2.2.2.2.2
  clear hb1 x0 x1
  cases hS : txnB l now st rs ws
  · obtain ⟨_, rfl, rfl, rfl, rfl⟩ : txnB l now st rs ws = false ∧ m = [] ∧ nr = 0 ∧ h = 0 ∧ cd = 1 := by
      rcases HI.out with h | ⟨h, _⟩
      · exact h
      · rw [hS] at h; cases h
    clear HI hS
    go_wp2_with fail
    refine bodyPost_ret (v := .tuple #[.agg #[.slice none 0 0, .int .i64 0], .int .i64 0, .int .i64 1]) (by simp [results, Try.results30, go_sem, xc1]) rfl ⟨none, 0, fun _ => 0, rfl, .inl rfl, ?_⟩
    repeat (refine Below.setCell ?_ (by first | omega | (simp <;> omega)) _)
    exact TB1.out
  have HS : Hid (txnB l now st rs ws = true) := hS
  have HC : Hid (CoIs l now st rs ws m nr h cd) := by
    rcases HI.out with ⟨h, _⟩ | ⟨_, h⟩
    · rw [hS] at h; cases h
    · exact h
  have hal := txnB_all hS
  have HST : Hid (storeB l now = true) := hal.1
  have HPU : Hid (putsB ws = true) := hal.2.2.1
  have hwl : ws.length ≤ 400 := (putsB_all hal.2.2.1).1
  clear hS hal HI
  by_cases h0 : ws.length = 0
  · obtain ⟨e1, e2, e3, rfl⟩ : m = l ∧ nr = now ∧ h = st ∧ cd = 0 := by
      rcases HC.out with ⟨_, h1⟩ | ⟨h1, _⟩ | ⟨h1, _⟩ | ⟨h1, _⟩
      · exact h1
      all_goals omega
    replace e1 := e1.symm
    replace e2 := e2.symm
    replace e3 := e3.symm
    subst e1 e2 e3
    have h0' : ((ws.length : Int) == 0) = true := beq_iff_eq.2 (by omega)
    clear HC h0
    go_upto_region 4 with fail
    go_region_with (first
      | (go_at_call 66
         refine Calls.mono (impl_copyStore a c l now _ (KV.out _ q1.out.drew).2.2.2.1 HE.out) ?_
         rintro e v2 ⟨g, bs, rfl, p2, hb2⟩
         have P2 : Hid (StP w1.heap.size v2 g l bs) := p2
         have q2 : Hid (Below V.heap.size V v2) := q1.out.drew.trans (hb2.mono z1)
         have z2 := hb2.size
         have kb := fun o => row_cell (KV.out _ q2.out).2.1 o
         have kz := fun o => row_cell (KV.out _ q2.out).2.2.1 o
         have kf := fun o => row_frozen (KV.out _ q2.out).2.2.1 o
         have BW : Hid (Below w.heap.size w v2) := (KV.out _ q2.out).2.2.2.2.2
         clear p2 hb2))
    all_goals (try go_wp2_with fail)
    all_goals (refine bodyPost_ret (v := .tuple #[.agg #[.slice (some ⟨g, 0, none⟩) l.length l.length, .int .i64 now], .int .i64 st, .int .i64 0]) (by simp [results, Try.results30, go_sem, kz]) rfl ⟨_, _, bs, rfl, .inr (StP.own (StP.low (StP.move P2.out (by simp) (fun j h1 h2 => ?_)) (by omega))), ?_⟩)
    all_goals (first
      | (repeat (refine Below.setCell ?_ (by first | omega | (simp <;> omega)) _)
         exact BW.out)
      | (repeat rw [heap_set _ _ _ _ _ (by omega)]))
  have h0' : ((ws.length : Int) == 0) = false := beq_eq_false_iff_ne.2 (by omega)
  go_wp2_with fail
  refine (conf_any a ra wa c rq wq l now st rs ws _ (KV.out _ q1.out).2.2.2.1 HE.out (KV.out _ q1.out).2.2.2.2.1 HD.out HS.out).mono ?_
  rintro e w2 ⟨rfl, hb2⟩
  have z2 := hb2.size
  have q2 : Hid (Below V.heap.size V w2) := q1.out.trans (hb2.mono z1)
  have xa2 := fun o => row_cell (KV.out _ q2.out).1 o
  have xb2 := fun o => row_cell (KV.out _ q2.out).2.1 o
  clear hb2 xa1 xb1 xc1 yc1
  cases hF : confB l st rs ws
  · have HW : Hid (WaIs l now ws m nr h cd) := by
      rcases HC.out with ⟨h1, _⟩ | ⟨_, h1, _⟩ | ⟨h1, _, h2, h3⟩ | ⟨h1, _, h2, h3⟩
      · exact absurd h1 h0
      · rw [hF] at h1; cases h1
      · exact .inr (.inr (.inr (.inl ⟨by omega, HST.out, HPU.out, h2, h3⟩)))
      · exact .inr (.inr (.inr (.inr (.inr ⟨h1, by omega, HST.out, HPU.out, h2, h3⟩))))
    clear HC hF h0 h0'
    go_wp2_with fail
    refine (impl_wa a wa c wq l ws now _ (KV.out _ q2.out).2.2.2.1 (KV.out _ q2.out).2.2.2.2.1.2 HE.out (by omega) HW.out).mono ?_
    rintro e w3 ⟨a3, c3, bs, rfl, p3, hb3⟩
    have P3 : Hid (StHas w2.heap.size w3.heap.size w3 a3 m bs) := p3
    have z3 := hb3.size
    have q3 : Hid (Below V.heap.size V w3) := q2.out.trans (hb3.mono (by omega))
    have kz := fun o => row_cell (KV.out _ q3.out).2.2.1 o
    have kf := fun o => row_frozen (KV.out _ q3.out).2.2.1 o
    have BW : Hid (Below w.heap.size w w3) := (KV.out _ q3.out).2.2.2.2.2
    clear p3 hb3 xa2 xb2
    go_wp2_with fail
    refine bodyPost_ret (v := .tuple #[.agg #[.slice a3 m.length c3, .int .i64 nr], .int .i64 h, .int .i64 cd]) (by simp [results, Try.results30, go_sem, kz]) rfl ⟨a3, c3, bs, rfl, ?_, ?_⟩
    · have h5 := StHas.keep P3.out (w' := (w3.setCell ⟨w.heap.size + 1 + 1, 0, none⟩ (.slice a3 m.length c3)).setCell ⟨w.heap.size + 1 + 1, 1, none⟩ (.int .i64 nr)) (fun j h1 h2 => by repeat rw [heap_set _ _ _ _ _ (by omega)])
      rcases h5 with h5 | h5
      · exact .inl h5
      · exact .inr (StOwn.wide h5 (by omega) (by simp))
    · repeat (refine Below.setCell ?_ (by first | omega | (simp <;> omega)) _)
      exact BW.out
  · obtain ⟨e1, e2, rfl, rfl⟩ : m = l ∧ nr = now ∧ h = 0 ∧ cd = 16 := by
      rcases HC.out with ⟨h1, _⟩ | ⟨_, _, h1⟩ | ⟨_, h1, _⟩ | ⟨_, h1, _⟩
      · exact absurd h1 h0
      · exact h1
      all_goals rw [hF] at h1; cases h1
    replace e1 := e1.symm
    replace e2 := e2.symm
    subst e1 e2
    clear HC hF h0 h0'
    go_wp2_with fail
    refine (impl_copyStore a c l now _ (KV.out _ q2.out).2.2.2.1 HE.out).mono ?_
    rintro e w3 ⟨g, bs, rfl, p3, hb3⟩
    have P3 : Hid (StP w2.heap.size w3 g l bs) := p3
    have z3 := hb3.size
    have q3 : Hid (Below V.heap.size V w3) := q2.out.trans (hb3.mono (by omega))
    have kz := fun o => row_cell (KV.out _ q3.out).2.2.1 o
    have kf := fun o => row_frozen (KV.out _ q3.out).2.2.1 o
    have BW : Hid (Below w.heap.size w w3) := (KV.out _ q3.out).2.2.2.2.2
    clear p3 hb3 xa2 xb2
    go_wp2_with fail
    refine bodyPost_ret (v := .tuple #[.agg #[.slice (some ⟨g, 0, none⟩) l.length l.length, .int .i64 now], .int .i64 0, .int .i64 16]) (by simp [results, Try.results30, go_sem, kz]) rfl ⟨_, _, bs, rfl, .inr (StP.own (StP.low (StP.move P3.out (by simp) (fun j h1 h2 => ?_)) (by omega))), ?_⟩
    · repeat rw [heap_set _ _ _ _ _ (by omega)]
    · repeat (refine Below.setCell ?_ (by first | omega | (simp <;> omega)) _)
      exact BW.out
end Go.Proofs.Ytgffplbcpofkmaa.G
