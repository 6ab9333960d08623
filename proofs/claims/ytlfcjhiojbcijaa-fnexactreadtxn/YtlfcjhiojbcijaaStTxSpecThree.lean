/- The specification's ReadTxn, WriteTxn and Commit. -/
import Derived.Test.YtlfcjhiojbcijaaStTxRead
import Derived.Test.YtlfcjhiojbcijaaStWrSpecTwo
import Derived.Deep.CutBlock
import Derived.Deep.CutRange
namespace Go.Proofs.Ytlfcjhiojbcijaa.G
open Go.ChangeShapes Go.WideShapes Go.ChangeAt Go.RowKit
set_option linter.unusedVariables false

/-- What ReadTxn answers: a transaction, a value, a code. -/
def RtIs (l : Chs) (now st : Int) (rs : List Int) (ws : List Ve) (key : Int) (st' : Int) (rs' : List Int) (ws' : List Ve) (v cd : Int) : Prop :=
  (txnB l now st rs ws = false ∧ st' = 0 ∧ rs' = [] ∧ ws' = [] ∧ v = 0 ∧ cd = 1) ∨
  (txnB l now st rs ws = true ∧ inS key 0 15 = false ∧ st' = 0 ∧ rs' = [] ∧ ws' = [] ∧ v = 0 ∧ cd = 4) ∨
  (txnB l now st rs ws = true ∧ inS key 0 15 = true ∧ st' = st ∧ rs' = rdK rs ws key ∧ ws' = ws ∧ v = rdV l st ws key ∧ cd = 0)
/-- A transaction, a value and a code that a call tells. -/
def TvS (w : World) (st' : Int) (rs' : List Int) (ws' : List Ve) (v cd : Int) (e : Ending) (w' : World) : Prop := (∃ ra' rq' wa' wq', e = .returned (.tuple #[.agg #[.int .i64 st', .slice ra' rs'.length rq', .slice wa' ws'.length wq'], .int .i64 v, .int .i64 cd]) ∧ TxOwn 0 w'.heap.size w' ra' wa' rs' ws') ∧ Below w.heap.size w w'
theorem rtIs (l : Chs) (now st : Int) (rs : List Int) (ws : List Ve) (key : Int) (hb : TxBd 1048576 rs ws) : ∃ st' rs' ws' v cd, RtIs l now st rs ws key st' rs' ws' v cd ∧ TxBd 1048576 rs' ws' := by
  cases hT : txnB l now st rs ws
  · exact ⟨_, _, _, _, _, .inl ⟨hT, rfl, rfl, rfl, rfl, rfl⟩, Nat.zero_le _, Nat.zero_le _⟩
  cases hK : inS key 0 15
  · exact ⟨_, _, _, _, _, .inr (.inl ⟨hT, hK, rfl, rfl, rfl, rfl, rfl⟩), Nat.zero_le _, Nat.zero_le _⟩
  · exact ⟨_, _, _, _, _, .inr (.inr ⟨hT, hK, rfl, rfl, rfl, rfl, rfl⟩), by have := rdK_len (ws := ws) (key := key) (txnB_all hT).2.2.2; omega, hb.2⟩
set_option maxHeartbeats 4000000 in
theorem spec_rt (a ra wa : Option Addr) (c rq wq : Nat) (l : Chs) (now st : Int) (rs : List Int) (ws : List Ve) (key : Int) (w : World) (hs : ChRow 0 w.heap.size w a l) (hsb : ChsBd 1048576 l) (hr : TxRow 0 w.heap.size w ra wa rs ws) (hbd : TxBd 1048576 rs ws) (hcap : rs.length ≤ rq) {st' : Int} {rs' : List Int} {ws' : List Ve} {v cd : Int} (h : RtIs l now st rs ws key st' rs' ws' v cd) :
    Calls Try.prog 7 #[.agg #[.slice a l.length c, .int .i64 now], .agg #[.int .i64 st, .slice ra rs.length rq, .slice wa ws.length wq], .int .i64 key] w fun e w' => TvS w st' rs' ws' v cd e w' := by
  have HI : Hid (RtIs l now st rs ws key st' rs' ws' v cd) := h
  clear h
  obtain ⟨V, hV⟩ : ∃ V, V = ((w.alloc (.cells #[.slice a l.length c, .int .i64 now] 38)).alloc (.cells #[.int .i64 st, .slice ra rs.length rq, .slice wa ws.length wq] 33)).alloc (.cells #[.int .i64 0, .slice none 0 0, .slice none 0 0] 33) := ⟨_, rfl⟩
  have bV : Below w.heap.size w V := by
    rw [hV]
    repeat (first | exact Below.refl _ _ | refine Below.alloc ?_ (by first | omega | (simp <;> omega)) _)
  have zV : w.heap.size + 3 ≤ V.heap.size := by rw [hV]; simp
  have c0 : V.heap[w.heap.size]? = some (.cells #[.slice a l.length c, .int .i64 now] 38 (0, 0)) := by
    rw [hV, Below.heap_alloc _ _ _ (by simp <;> omega), Below.heap_alloc _ _ _ (by simp <;> omega)]; exact heap_alloc_new _ _
  have c1 : V.heap[w.heap.size + 1]? = some (.cells #[.int .i64 st, .slice ra rs.length rq, .slice wa ws.length wq] 33 (0, 0)) := by
    rw [hV, Below.heap_alloc _ _ _ (by simp <;> omega)]
    have := heap_alloc_new (w.alloc (.cells #[.slice a l.length c, .int .i64 now] 38)) (.cells #[.int .i64 st, .slice ra rs.length rq, .slice wa ws.length wq] 33)
    simpa using this
  have c2 : V.heap[w.heap.size + 1 + 1]? = some (.cells #[.int .i64 0, .slice none 0 0, .slice none 0 0] 33 (0, 0)) := by
    rw [hV]
    have := heap_alloc_new ((w.alloc (.cells #[.slice a l.length c, .int .i64 now] 38)).alloc (.cells #[.int .i64 st, .slice ra rs.length rq, .slice wa ws.length wq] 33)) (.cells #[.int .i64 0, .slice none 0 0, .slice none 0 0] 33)
    simpa using this
  have KV : Hid (∀ W, Below V.heap.size V W → W.heap[w.heap.size]? = some (.cells #[.slice a l.length c, .int .i64 now] 38 (0, 0)) ∧ W.heap[w.heap.size + 1]? = some (.cells #[.int .i64 st, .slice ra rs.length rq, .slice wa ws.length wq] 33 (0, 0)) ∧ W.heap[w.heap.size + 1 + 1]? = some (.cells #[.int .i64 0, .slice none 0 0, .slice none 0 0] 33 (0, 0)) ∧ ChRow 0 W.heap.size W a l ∧ TxRow 0 W.heap.size W ra wa rs ws ∧ Below w.heap.size w W) := fun W h =>
    have hw := bV.trans (h.mono (by omega))
    ⟨(h.block _ (by omega)).trans c0, (h.block _ (by omega)).trans c1, (h.block _ (by omega)).trans c2, ChRow.up hs hw, TxRow.up hr hw, hw⟩
  have HE : Hid (ChsBd 1048576 l) := hsb
  have HD : Hid (TxBd 1048576 rs ws) := hbd
  have HW0 : Hid (TxRow 0 w.heap.size w ra wa rs ws) := hr
  have HS0 : Hid (ChRow 0 w.heap.size w a l) := hs
  have x0 := fun o => row_cell c0 o
  have x1 := fun o => row_cell c1 o
  have x2 := fun o => row_cell c2 o
  have y2 := fun o => row_frozen c2 o
  clear hs hr hbd hsb c0 c1 c2 bV
  go_enter Try.func7, Try.ntmps7
  go_upto_region 1 with fail
  rw [← hV]
  clear hV
  go_wp2_with fail
  refine (spec_txnOK a ra wa c rq wq l now st rs ws _ (KV.out _ (Below.refl _ _)).2.2.2.1 HE.out (KV.out _ (Below.refl _ _)).2.2.2.2.1 HD.out hcap).mono ?_
  rintro e w1 ⟨rfl, hb1⟩
  have q1 : Hid (Below V.heap.size V w1) := hb1
  obtain ⟨t0, t1, t2, t3, t4, t5⟩ := KV.out _ q1.out
  have xa1 := fun o => row_cell t0 o
  have xb1 := fun o => row_cell t1 o
  have yb1 := fun o => row_frozen t1 o
  have xc1 := fun o => row_cell t2 o
  have yc1 := fun o => row_frozen t2 o
  have TS1 : Hid (ChRow 0 w1.heap.size w1 a l) := t3
  have TT1 : Hid (TxRow 0 w1.heap.size w1 ra wa rs ws) := t4
  have TB1 : Hid (Below w.heap.size w w1) := t5
  have z1 := hb1.size
  clear t0 t1 t2 t3 t4 t5 hb1
  clear x0 x1 x2 y2
  cases hS : txnB l now st rs ws
  · obtain ⟨_, rfl, rfl, rfl, rfl, rfl⟩ : txnB l now st rs ws = false ∧ st' = 0 ∧ rs' = [] ∧ ws' = [] ∧ v = 0 ∧ cd = 1 := by
      rcases HI.out with h | ⟨h, _⟩ | ⟨h, _⟩
      · exact h
      · rw [hS] at h; cases h
      · rw [hS] at h; cases h
    clear HI hS
    go_wp2_with fail
    refine bodyPost_ret (v := .tuple #[.agg #[.int .i64 0, .slice none 0 0, .slice none 0 0], .int .i64 0, .int .i64 1]) (by simp [results, Try.results7, go_sem, xc1]) rfl ⟨⟨none, 0, none, 0, rfl, .inl rfl, .inl rfl⟩, ?_⟩
    repeat (refine Below.setCell ?_ (by first | omega | (simp <;> omega)) _)
    exact TB1.out
  have HS : Hid (txnB l now st rs ws = true) := hS
  clear hS
  cases hK : inS key 0 15
  · obtain ⟨_, _, rfl, rfl, rfl, rfl, rfl⟩ : txnB l now st rs ws = true ∧ inS key 0 15 = false ∧ st' = 0 ∧ rs' = [] ∧ ws' = [] ∧ v = 0 ∧ cd = 4 := by
      rcases HI.out with ⟨h, _⟩ | h | ⟨_, h, _⟩
      · rw [HS.out] at h; cases h
      · exact h
      · rw [hK] at h; cases h
    have HK : Hid _ := hK
    clear HI hK
    go_wp2_with (first | (go_at_call 22; refine (spec_inS _ _ _ _ HK.out).mono ?_; rintro e w' ⟨rfl, hw'⟩; rw [hw']; clear hw' w') | fail)
    refine bodyPost_ret (v := .tuple #[.agg #[.int .i64 0, .slice none 0 0, .slice none 0 0], .int .i64 0, .int .i64 4]) (by simp [results, Try.results7, go_sem, xc1]) rfl ⟨⟨none, 0, none, 0, rfl, .inl rfl, .inl rfl⟩, ?_⟩
    repeat (refine Below.setCell ?_ (by first | omega | (simp <;> omega)) _)
    exact TB1.out
  · obtain ⟨_, _, rfl, rfl, rfl, rfl, rfl⟩ : txnB l now st rs ws = true ∧ inS key 0 15 = true ∧ st' = st ∧ rs' = rdK rs ws key ∧ ws' = ws ∧ v = rdV l st ws key ∧ cd = 0 := by
      rcases HI.out with ⟨h, _⟩ | ⟨_, h, _⟩ | h
      · rw [HS.out] at h; cases h
      · rw [hK] at h; cases h
      · exact h
    have HK : Hid _ := hK
    obtain ⟨k, rfl⟩ : ∃ k : Nat, key = k := ⟨key.toNat, by have := (inS_iff _ _ _).1 hK; omega⟩
    have hk16 : k < 16 := by have := (inS_iff _ _ _).1 hK; omega
    have hal := txnB_all HS.out
    have H16 : Hid (l.length = 16) := (storeB_all hal.1).1
    have hrl := rdK_len (ws := ws') (key := k) hal.2.2.2
    have hwl : ws'.length ≤ 400 := (putsB_all hal.2.2.1).1
    clear HI hK hal
    go_wp2_with (first | (go_at_call 22; refine (spec_inS _ _ _ _ HK.out).mono ?_; rintro e w' ⟨rfl, hw'⟩; rw [hw']; clear hw' w') | fail)
    refine (spec_rd a ra wa c rq wq l now st' rs ws' k _ TS1.out HE.out TT1.out HD.out hcap H16.out hk16).mono ?_
    rintro e w2 ⟨⟨ra2, rq2, rfl, n2⟩, hb2⟩
    obtain ⟨R, hR⟩ : ∃ R, R = rdK rs ws' k := ⟨_, rfl⟩
    rw [← hR] at n2 hrl ⊢
    have HR : Hid _ := hR
    have N2 : Hid _ := n2
    clear hR n2
    obtain ⟨vv, hvv⟩ : ∃ x, x = rdV l st' ws' k := ⟨_, rfl⟩
    rw [← hvv]
    have HVV : Hid _ := hvv
    clear hvv
    have q2 : Hid (Below V.heap.size V w2) := q1.out.trans (hb2.mono (by omega))
    obtain ⟨t0, t1, t2, t3, t4, t5⟩ := KV.out _ q2.out
    have xa2 := fun o => row_cell t0 o
    have xb2 := fun o => row_cell t1 o
    have yb2 := fun o => row_frozen t1 o
    have xc2 := fun o => row_cell t2 o
    have yc2 := fun o => row_frozen t2 o
    have TS2 : Hid (ChRow 0 w2.heap.size w2 a l) := t3
    have TT2 : Hid (TxRow 0 w2.heap.size w2 ra wa rs ws') := t4
    have TB2 : Hid (Below w.heap.size w w2) := t5
    have z2 := hb2.size
    clear t0 t1 t2 t3 t4 t5 hb2
    go_wp2_with fail
    obtain ⟨U, hU⟩ : ∃ x : World, x = w2.alloc (.cells #[.int .i64 st', .slice ra2 R.length rq2, .slice wa ws'.length wq] 33) := ⟨_, rfl⟩
    rw [← hU]
    have bU : Below w2.heap.size w2 U := by rw [hU]; exact (Below.refl _ _).alloc (Nat.le_refl _) _
    have zU := bU.size
    have NU : Hid (TxRow 0 U.heap.size U ra2 wa R ws') := ⟨NuRow.up N2.out bU, VeRow.up TT2.out.2 bU⟩
    have QU : Hid (Below V.heap.size V U) := q2.out.trans (bU.mono (by omega))
    clear hU bU
    refine (spec_own ra2 wa rq2 wq st' R ws' _ NU.out ⟨by omega, by omega⟩).mono ?_
    rintro e w3 ⟨rv, wv, rfl, o3, b3⟩
    obtain ⟨ra3, rq3, wa3, wq3, rfl, rfl, o4⟩ := o3.own
    have O4 : Hid (TxOwn U.heap.size w3.heap.size w3 ra3 wa3 R ws') := o4
    have Q3 : Hid (Below V.heap.size V w3) := QU.out.trans (b3.mono (by have := QU.out.size; omega))
    obtain ⟨t0, t1, t2, t3, t4, t5⟩ := KV.out _ Q3.out
    have xc3 := fun o => row_cell t2 o
    have yc3 := fun o => row_frozen t2 o
    have TB3 : Hid _ := t5
    have z3 := b3.size
    clear t0 t1 t2 t3 t4 t5 o3 o4 b3
    go_wp2_with fail
    refine bodyPost_ret (v := .tuple #[.agg #[.int .i64 st', .slice ra3 R.length rq3, .slice wa3 ws'.length wq3], .int .i64 vv, .int .i64 0]) (by simp [results, Try.results7, go_sem, xc3]) rfl ⟨⟨ra3, rq3, wa3, wq3, by rw [HR.out, HVV.out], ?_⟩, ?_⟩
    · rw [← HR.out]
      refine TxOwn.wide (TxOwn.keep O4.out (fun k h1 h2 => ?_)) (Nat.zero_le _) (by simp)
      repeat rw [heap_set _ _ _ _ _ (by omega)]
    · repeat (refine Below.setCell ?_ (by first | omega | (simp <;> omega)) _)
      exact TB3.out
end Go.Proofs.Ytlfcjhiojbcijaa.G
