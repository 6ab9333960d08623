/- The specification's Commit. -/
import Derived.Test.YtoahbfledamnnaaStTxRead
import Derived.Deep.CutBlock
import Derived.Deep.CutRange
import Derived.Test.YtoahbfledamnnaaStTxImplThree
import Derived.Test.YtoahbfledamnnaaStDraw
import Derived.Test.YtoahbfledamnnaaStKids
namespace Go.Proofs.Ytoahbfledamnnaa.G
open Go.ChangeShapes Go.WideShapes Go.ChangeAt Go.RowKit
set_option linter.unusedVariables false

/-- What WriteTxn answers: a transaction, a code. -/
def WtIs (l : Chs) (now st : Int) (rs : List Int) (ws : List Ve) (pk pv : Int) (st' : Int) (rs' : List Int) (ws' : List Ve) (cd : Int) : Prop :=
  (txnB l now st rs ws = false ∧ st' = 0 ∧ rs' = [] ∧ ws' = [] ∧ cd = 1) ∨
  (txnB l now st rs ws = true ∧ putB pk pv = false ∧ st' = 0 ∧ rs' = [] ∧ ws' = [] ∧ cd = 4) ∨
  (txnB l now st rs ws = true ∧ putB pk pv = true ∧ ws.length = 400 ∧ st' = st ∧ rs' = rs ∧ ws' = ws ∧ cd = 6) ∨
  (txnB l now st rs ws = true ∧ putB pk pv = true ∧ ws.length ≠ 400 ∧ st' = st ∧ rs' = rs ∧ ws' = ws ++ [⟨pk, pv⟩] ∧ cd = 0)
/-- A transaction and a code that a call tells. -/
def TcS (w : World) (st' : Int) (rs' : List Int) (ws' : List Ve) (cd : Int) (e : Ending) (w' : World) : Prop := (∃ ra' rq' wa' wq', e = .returned (.tuple #[.agg #[.int .i64 st', .slice ra' rs'.length rq', .slice wa' ws'.length wq'], .int .i64 cd]) ∧ TxOwn 0 w'.heap.size w' ra' wa' rs' ws') ∧ Below w.heap.size w w'
theorem puts_one (k v : Int) : putsB [⟨k, v⟩] = putB k v := by simp [putsB]
theorem app_put3 (xs : List Ve) (p : Ve) (v : Value) (base h : Nat) (W : World) (ho : W.ownsRow base 43 2 v xs.length (veCells xs)) (hu : W.heap[h]? = some (.cells #[.int .i64 p.ts, .int .i64 p.v] 43 (0, 0))) (hk : xs.length ≤ 1048576) (hb : base ≤ W.heap.size) :
    ∃ g cap W', (Builtin.append_ #[28, 28] 28 #[v, .slice (some ⟨h, 0, none⟩) 1 1]).run Try.prog W = .ok (.slice (some ⟨g, 0, none⟩) (xs.length + 1) cap) W' ∧ W'.ownsRow base 43 2 (.slice (some ⟨g, 0, none⟩) (xs.length + 1) cap) (xs.length + 1) (veCells (xs ++ [p])) ∧ W.grownBy W' v.ownBlock ∧ g < W'.heap.size := by
  obtain ⟨i, hi, hz, hsz, hby⟩ := info_PuX
  have e : veCells (xs ++ [p]) = veCells xs ++ [.int .i64 p.ts, .int .i64 p.v] := by simp [veCells]
  rw [e]
  obtain ⟨g, cap, W', h1, h2, h3, h4, h5⟩ := run_append_lies (P := Try.prog) W 28 28 base 43 i _ 2 16 Try.underlying28 hi hz hsz hby rfl (by decide) v xs.length (veCells xs) ho ⟨h, 0, none⟩ 1 1 [.int .i64 p.ts, .int .i64 p.v] rfl (fun j x hx => by
    rw [add_plain]
    match j, hx with
    | 0, hx => simp only [List.getElem?_cons_zero, Option.some.injEq] at hx; subst hx; exact row_cell hu 0
    | 1, hx => simp only [List.getElem?_cons_succ, List.getElem?_cons_zero, Option.some.injEq] at hx; subst hx; exact row_cell hu 1) (fun x hx => by
      simp only [List.mem_cons, List.not_mem_nil, or_false] at hx
      rcases hx with rfl | rfl <;> rfl) (by omega) (by unfold maxLen; omega) (by omega) hb W.heap.size rfl
  exact ⟨g, cap, W', h1, h2, h3, h5⟩
end Go.Proofs.Ytoahbfledamnnaa.G
namespace Go.Proofs.Ytoahbfledamnnaa.G
open Go.ChangeShapes Go.WideShapes Go.ChangeAt Go.RowKit
set_option linter.unusedVariables false

set_option maxHeartbeats 8000000 in
set_option maxRecDepth 4000 in
theorem impl_wt0 (a ra wa : Option Addr) (c rq wq : Nat) (l : Chs) (now st : Int) (rs : List Int) (ws : List Ve) (pk pv : Int) (w : World) (hs : ChRow 0 w.heap.size w a l) (hsb : ChsBd 1048576 l) (hr : TxRow 0 w.heap.size w ra wa rs ws) (hbd : TxBd 1048576 rs ws) {st' : Int} {rs' : List Int} {ws' : List Ve} {cd : Int} (h : WtIs l now st rs ws pk pv st' rs' ws' cd) :
    Calls Try.prog 12 #[.agg #[.slice a l.length c, .int .i64 now], .agg #[.int .i64 st, .slice ra rs.length rq, .slice wa ws.length wq], .agg #[.int .i64 pk, .int .i64 pv]] w fun e w' => (∃ ra' rq' wa' wq', e = .returned (.tuple #[.agg #[.int .i64 st', .slice ra' rs'.length rq', .slice wa' ws'.length wq'], .int .i64 cd]) ∧ TxOwn w.heap.size w'.heap.size w' ra' wa' rs' ws') ∧ Below w.heap.size w w' := by
  have HI : Hid (WtIs l now st rs ws pk pv st' rs' ws' cd) := h
  clear h
  obtain ⟨V, hV⟩ : ∃ V, V = ((((w.alloc (.cells #[.slice a l.length c, .int .i64 now] 25)).alloc (.cells #[.int .i64 st, .slice ra rs.length rq, .slice wa ws.length wq] 30)).alloc (.cells #[.int .i64 pk, .int .i64 pv] 43)).alloc (.cells #[.int .i64 0, .slice none 0 0, .slice none 0 0] 30)) := ⟨_, rfl⟩
  have bV : Below w.heap.size w V := by
    rw [hV]
    repeat (first | exact Below.refl _ _ | refine Below.alloc ?_ (by first | omega | (simp <;> omega)) _)
  have zV : w.heap.size + 4 ≤ V.heap.size := by rw [hV]; simp
  have c0 : V.heap[w.heap.size]? = some (.cells #[.slice a l.length c, .int .i64 now] 25 (0, 0)) := by
    rw [hV, Below.heap_alloc _ _ _ (by simp <;> omega), Below.heap_alloc _ _ _ (by simp <;> omega), Below.heap_alloc _ _ _ (by simp <;> omega)]
    have := heap_alloc_new w (.cells #[.slice a l.length c, .int .i64 now] 25)
    simpa using this
  have c1 : V.heap[w.heap.size + 1]? = some (.cells #[.int .i64 st, .slice ra rs.length rq, .slice wa ws.length wq] 30 (0, 0)) := by
    rw [hV, Below.heap_alloc _ _ _ (by simp <;> omega), Below.heap_alloc _ _ _ (by simp <;> omega)]
    have := heap_alloc_new (w.alloc (.cells #[.slice a l.length c, .int .i64 now] 25)) (.cells #[.int .i64 st, .slice ra rs.length rq, .slice wa ws.length wq] 30)
    simpa using this
  have c2 : V.heap[w.heap.size + 1 + 1]? = some (.cells #[.int .i64 pk, .int .i64 pv] 43 (0, 0)) := by
    rw [hV, Below.heap_alloc _ _ _ (by simp <;> omega)]
    have := heap_alloc_new ((w.alloc (.cells #[.slice a l.length c, .int .i64 now] 25)).alloc (.cells #[.int .i64 st, .slice ra rs.length rq, .slice wa ws.length wq] 30)) (.cells #[.int .i64 pk, .int .i64 pv] 43)
    simpa using this
  have c3 : V.heap[w.heap.size + 1 + 1 + 1]? = some (.cells #[.int .i64 0, .slice none 0 0, .slice none 0 0] 30 (0, 0)) := by
    rw [hV]
    have := heap_alloc_new (((w.alloc (.cells #[.slice a l.length c, .int .i64 now] 25)).alloc (.cells #[.int .i64 st, .slice ra rs.length rq, .slice wa ws.length wq] 30)).alloc (.cells #[.int .i64 pk, .int .i64 pv] 43)) (.cells #[.int .i64 0, .slice none 0 0, .slice none 0 0] 30)
    simpa using this
  have KV : Hid (∀ W, Below V.heap.size V W → W.heap[w.heap.size]? = some (.cells #[.slice a l.length c, .int .i64 now] 25 (0, 0)) ∧ W.heap[w.heap.size + 1]? = some (.cells #[.int .i64 st, .slice ra rs.length rq, .slice wa ws.length wq] 30 (0, 0)) ∧ W.heap[w.heap.size + 1 + 1]? = some (.cells #[.int .i64 pk, .int .i64 pv] 43 (0, 0)) ∧ W.heap[w.heap.size + 1 + 1 + 1]? = some (.cells #[.int .i64 0, .slice none 0 0, .slice none 0 0] 30 (0, 0)) ∧ ChRow 0 W.heap.size W a l ∧ TxRow 0 W.heap.size W ra wa rs ws ∧ Below w.heap.size w W) := fun W h =>
    have hw := bV.trans (h.mono (by omega))
    ⟨(h.block _ (by omega)).trans c0, (h.block _ (by omega)).trans c1, (h.block _ (by omega)).trans c2, (h.block _ (by omega)).trans c3, ChRow.up hs hw, TxRow.up hr hw, hw⟩
  have HE : Hid (ChsBd 1048576 l) := hsb
  have HD : Hid (TxBd 1048576 rs ws) := hbd
  have HW0 : Hid (TxRow 0 w.heap.size w ra wa rs ws) := hr
  have x0 := fun o => row_cell c0 o
  have x1 := fun o => row_cell c1 o
  clear hs hr hbd hsb c0 c1 c2 c3 bV
  go_enter Try.func12, Try.ntmps12
  go_upto_region 1 with fail
  rw [← hV]
  clear hV
  go_wp2_with fail
  refine (impl_txnOK a ra wa c rq wq l now st rs ws _ (KV.out _ (Below.refl _ _)).2.2.2.2.1 HE.out (KV.out _ (Below.refl _ _)).2.2.2.2.2.1 HD.out).mono ?_
  rintro e w1 ⟨rfl, hb1⟩
  have q1 : Hid (Below V.heap.size V w1) := hb1
  obtain ⟨t0, t1, t2, t3, t4, t5, t6⟩ := KV.out _ q1.out
  have xa1 := fun o => row_cell t0 o
  have xb1 := fun o => row_cell t1 o
  have yb1 := fun o => row_frozen t1 o
  have xp1 := fun o => row_cell t2 o
  have xc1 := fun o => row_cell t3 o
  have yc1 := fun o => row_frozen t3 o
  have B11 : Hid _ := t1
  have B31 : Hid _ := t3
  have TS1 : Hid (ChRow 0 w1.heap.size w1 a l) := t4
  have TT1 : Hid (TxRow 0 w1.heap.size w1 ra wa rs ws) := t5
  have TB1 : Hid (Below w.heap.size w w1) := t6
  have z1 := hb1.size
  clear t0 t1 t2 t3 t4 t5 t6 hb1
  clear x0 x1
  cases hS : txnB l now st rs ws
  · obtain ⟨_, rfl, rfl, rfl, rfl⟩ : txnB l now st rs ws = false ∧ st' = 0 ∧ rs' = [] ∧ ws' = [] ∧ cd = 1 := by
      rcases HI.out with h | ⟨h, _⟩ | ⟨h, _⟩ | ⟨h, _⟩
      · exact h
      all_goals rw [hS] at h; cases h
    clear HI hS
    go_wp2_with fail
    refine bodyPost_ret (v := .tuple #[.agg #[.int .i64 0, .slice none 0 0, .slice none 0 0], .int .i64 1]) (by simp [results, Try.results12, go_sem, xc1]) rfl ⟨⟨none, 0, none, 0, rfl, .inl rfl, .inl rfl⟩, ?_⟩
    repeat (refine Below.setCell ?_ (by first | omega | (simp <;> omega)) _)
    exact TB1.out
  have HS : Hid (txnB l now st rs ws = true) := hS
  have hal := txnB_all hS
  have hwl : ws.length ≤ 400 := (putsB_all hal.2.2.1).1
  have hrl := readsB_len hal.2.2.2
  clear hS hal
  go_wp2_with fail
  refine (impl_putOK pk pv _).mono ?_
  rintro e w2 ⟨rfl, hb2⟩
  have q2 : Hid (Below V.heap.size V w2) := q1.out.trans (hb2.mono (by have := q1.out.size; omega))
  obtain ⟨t0, t1, t2, t3, t4, t5, t6⟩ := KV.out _ q2.out
  have xa2 := fun o => row_cell t0 o
  have xb2 := fun o => row_cell t1 o
  have yb2 := fun o => row_frozen t1 o
  have xp2 := fun o => row_cell t2 o
  have xc2 := fun o => row_cell t3 o
  have yc2 := fun o => row_frozen t3 o
  have B12 : Hid _ := t1
  have B32 : Hid _ := t3
  have TS2 : Hid (ChRow 0 w2.heap.size w2 a l) := t4
  have TT2 : Hid (TxRow 0 w2.heap.size w2 ra wa rs ws) := t5
  have TB2 : Hid (Below w.heap.size w w2) := t6
  have z2 := hb2.size
  clear t0 t1 t2 t3 t4 t5 t6 hb2
  clear xa1 xb1 yb1 xp1 xc1 yc1
  cases hP : putB pk pv
  · obtain ⟨_, _, rfl, rfl, rfl, rfl⟩ : txnB l now st rs ws = true ∧ putB pk pv = false ∧ st' = 0 ∧ rs' = [] ∧ ws' = [] ∧ cd = 4 := by
      rcases HI.out with ⟨h, _⟩ | h | ⟨_, h, _⟩ | ⟨_, h, _⟩
      · rw [HS.out] at h; cases h
      · exact h
      all_goals rw [hP] at h; cases h
    clear HI hP
    go_wp2_with fail
    refine bodyPost_ret (v := .tuple #[.agg #[.int .i64 0, .slice none 0 0, .slice none 0 0], .int .i64 4]) (by simp [results, Try.results12, go_sem, xc2]) rfl ⟨⟨none, 0, none, 0, rfl, .inl rfl, .inl rfl⟩, ?_⟩
    repeat (refine Below.setCell ?_ (by first | omega | (simp <;> omega)) _)
    exact TB2.out
  by_cases h4 : ws.length = 400
  · obtain ⟨_, _, _, rfl, rfl, rfl, rfl⟩ : txnB l now st rs ws = true ∧ putB pk pv = true ∧ ws.length = 400 ∧ st' = st ∧ rs' = rs ∧ ws' = ws ∧ cd = 6 := by
      rcases HI.out with ⟨h, _⟩ | ⟨_, h, _⟩ | h | ⟨_, _, h, _⟩
      · rw [HS.out] at h; cases h
      · rw [hP] at h; cases h
      · exact h
      · exact absurd h4 h
    have h4' : ((ws'.length : Int) == 400) = true := by rw [h4]; rfl
    have HL : Hid (ws'.length = 400) := h4
    clear HI hP h4
    go_wp2_with fail
    have hq := copy_txn ra wa rq wq st' rs' ws' _ TT2.out HD.out
    rw [HL.out] at hq
    refine hq.mono ?_
    clear hq h4' hwl
    rintro e w3 ⟨g1, g2, rfl, o3, hb3⟩
    have o4 : TxOwn w2.heap.size w3.heap.size w3 (some ⟨g1, 0, none⟩) (some ⟨g2, 0, none⟩) rs' ws' := by
      obtain ⟨ra3, rq3, wa3, wq3, e1, e2, o4⟩ := o3.own
      simp only [Value.slice.injEq] at e1 e2
      rw [e1.1, e2.1]; exact o4
    obtain ⟨ra3, hra3⟩ : ∃ x : Option Addr, x = some ⟨g1, 0, none⟩ := ⟨_, rfl⟩
    obtain ⟨wa3, hwa3⟩ : ∃ x : Option Addr, x = some ⟨g2, 0, none⟩ := ⟨_, rfl⟩
    obtain ⟨rq3, hrq3⟩ : ∃ x : Nat, x = rs'.length := ⟨_, rfl⟩
    obtain ⟨wq3, hwq3⟩ : ∃ x : Nat, x = 400 := ⟨_, rfl⟩
    rw [← hra3, ← hwa3] at o4 ⊢
    clear hra3 hwa3 hrq3 hwq3 rq3 wq3
    have O4 : Hid (TxOwn w2.heap.size w3.heap.size w3 ra3 wa3 rs' ws') := o4
    have q3 : Hid (Below V.heap.size V w3) := q2.out.trans (hb3.mono (by omega))
    obtain ⟨t0, t1, t2, t3, t4, t5, t6⟩ := KV.out _ q3.out
    have xa3 := fun o => row_cell t0 o
    have xb3 := fun o => row_cell t1 o
    have yb3 := fun o => row_frozen t1 o
    have xp3 := fun o => row_cell t2 o
    have xc3 := fun o => row_cell t3 o
    have yc3 := fun o => row_frozen t3 o
    have B13 : Hid _ := t1
    have B33 : Hid _ := t3
    have TS3 : Hid (ChRow 0 w3.heap.size w3 a l) := t4
    have TT3 : Hid (TxRow 0 w3.heap.size w3 ra wa rs' ws') := t5
    have TB3 : Hid (Below w.heap.size w w3) := t6
    have z3 := hb3.size
    clear t0 t1 t2 t3 t4 t5 t6 hb3
    clear o3 o4 xa2 xb2 yb2 xp2 xc2 yc2
    go_wp2_with fail
    refine bodyPost_ret (v := .tuple #[.agg #[.int .i64 st', .slice ra3 rs'.length rs'.length, .slice wa3 ws'.length 400], .int .i64 6]) (by first | (simp [results, Try.results12, go_sem, xc3]; done) | (simp [results, Try.results12, go_sem, xc3]; exact HL.out.symm)) rfl ⟨⟨ra3, _, wa3, _, rfl, ?_⟩, ?_⟩
    · refine TxOwn.wide (TxOwn.keep O4.out (fun k h1 h2 => ?_)) (by omega) (by simp)
      repeat rw [heap_set _ _ _ _ _ (by omega)]
    · repeat (refine Below.setCell ?_ (by first | omega | (simp <;> omega)) _)
      exact TB3.out
  · obtain ⟨_, _, _, rfl, rfl, rfl, rfl⟩ : txnB l now st rs ws = true ∧ putB pk pv = true ∧ ws.length ≠ 400 ∧ st' = st ∧ rs' = rs ∧ ws' = ws ++ [⟨pk, pv⟩] ∧ cd = 0 := by
      rcases HI.out with ⟨h, _⟩ | ⟨_, h, _⟩ | ⟨_, _, h, _⟩ | h
      · rw [HS.out] at h; cases h
      · rw [hP] at h; cases h
      · exact absurd h h4
      · exact h
    have h4' : ((ws.length : Int) == 400) = false := by simp; omega
    clear HI hP h4
    go_wp2_with fail
    refine (copy_txn ra wa rq wq st' rs' ws _ TT2.out HD.out).mono ?_
    rintro e w3 ⟨g1, g2, rfl, o3, hb3⟩
    obtain ⟨rv, hrv⟩ : ∃ x : Value, x = .slice (some ⟨g1, 0, none⟩) rs'.length rs'.length := ⟨_, rfl⟩
    have q3 : Hid (Below V.heap.size V w3) := q2.out.trans (hb3.mono (by omega))
    obtain ⟨t0, t1, t2, t3, t4, t5, t6⟩ := KV.out _ q3.out
    have z3 := hb3.size
    have z3' := q3.out.size
    obtain ⟨U2, hU2⟩ : ∃ x : World, x = w3.alloc (.cells #[.int .i64 st', .slice (some ⟨g1, 0, none⟩) rs'.length rs'.length, .slice (some ⟨g2, 0, none⟩) ws.length ws.length] 30) := ⟨_, rfl⟩
    have b2 : Below w3.heap.size w3 U2 := by rw [hU2]; exact (Below.refl _ _).alloc (Nat.le_refl _) _
    have u1 : U2.heap[w3.heap.size]? = some (.cells #[.int .i64 st', .slice (some ⟨g1, 0, none⟩) rs'.length rs'.length, .slice (some ⟨g2, 0, none⟩) ws.length ws.length] 30 (0, 0)) := by rw [hU2]; exact heap_alloc_new _ _
    have u2 := (b2.block _ (by omega)).trans t2
    have u3 := (b2.block _ (by omega)).trans t3
    have zU2 := b2.size
    have zU2' := (Array.getElem?_eq_some_iff.1 u1).1
    have BU2 : Below w.heap.size w U2 := t6.trans (b2.mono (by have := t6.size; omega))
    have OU2 : TxO (w.heap.size + 4) U2 (.slice (some ⟨g1, 0, none⟩) rs'.length rs'.length) (.slice (some ⟨g2, 0, none⟩) ws.length ws.length) rs' ws := TxO.low (TxO.move o3 (fun k h1 h2 => b2.block k h2)) (by omega)
    have O3 : TxO w2.heap.size w3 (.slice (some ⟨g1, 0, none⟩) rs'.length rs'.length) (.slice (some ⟨g2, 0, none⟩) ws.length ws.length) rs' ws := o3
    obtain ⟨U3, hU3⟩ : ∃ x : World, x = U2.alloc (.cells #[.int .i64 pk, .int .i64 pv] 43) := ⟨_, rfl⟩
    have b3 : Below U2.heap.size U2 U3 := by rw [hU3]; exact (Below.refl _ _).alloc (Nat.le_refl _) _
    have cU3 : U3.heap[U2.heap.size]? = some (.cells #[.int .i64 pk, .int .i64 pv] 43 (0, 0)) := by rw [hU3]; exact heap_alloc_new _ _
    have zU3 := b3.size
    have hg2 : g2 < w3.heap.size := (own_lt3 O3.2 g2 rfl).2
    have hg2' : w2.heap.size ≤ g2 := (own_lt3 O3.2 g2 rfl).1
    have hg1 : g1 < w3.heap.size := (own_lt3 O3.1 g1 rfl).2
    have hg1' : w2.heap.size ≤ g1 := (own_lt3 O3.1 g1 rfl).1
    have hn12 : g1 ≠ g2 := by
      rcases O3.1.2 with ⟨e1, _⟩ | ⟨ga, ca, cua, ea, _, ha, _⟩
      · cases e1
      rcases O3.2.2 with ⟨e2, _⟩ | ⟨gb, cb, cub, eb, _, hb, _⟩
      · cases e2
      simp only [Value.slice.injEq, Option.some.injEq, Addr.mk.injEq] at ea eb
      obtain ⟨⟨rfl, _⟩, _⟩ := ea
      obtain ⟨⟨rfl, _⟩, _⟩ := eb
      rintro rfl
      rw [ha] at hb; simp at hb
    obtain ⟨g4, k4, W4, hrun, o4, gr4, hg4⟩ := app_put3 ws ⟨pk, pv⟩ (.slice (some ⟨g2, 0, none⟩) ws.length ws.length) (w.heap.size + 4) U2.heap.size U3 (own_below OU2.2 b3) cU3 (by omega) (by omega)
    have kept : ∀ g, g < U2.heap.size → g ≠ g2 → W4.heap[g]? = U2.heap[g]? := fun g hg hn => (gr4.block g (by omega) (fun e => hn (by simpa [Value.ownBlock] using e))).trans (b3.block g (by omega))
    have v1 := (kept w3.heap.size (by omega) (by omega)).trans u1
    have v3 := (kept (w.heap.size + 1 + 1 + 1) (by omega) (by omega)).trans u3
    have x4 := fun o => row_cell v1 o
    have y4 := fun o => row_frozen v1 o
    have x5 := fun o => row_cell v3 o
    have y5 := fun o => row_frozen v3 o
    have xu1 := fun o => row_cell u1 o
    have xu2 := fun o => row_cell u2 o
    have BW4 : Hid (Below w.heap.size w W4) := (BU2.trans (b3.mono (by omega))).grown gr4 (by have := BU2.size; omega) (fun g e => by simp [Value.ownBlock] at e; omega)
    have hz4 := gr4.size
    have O4W : Hid (W4.ownsRow (w.heap.size + 4) 43 2 (.slice (some ⟨g4, 0, none⟩) (ws.length + 1) k4) (ws ++ [(⟨pk, pv⟩ : Ve)]).length (veCells (ws ++ [⟨pk, pv⟩]))) := by rw [Hid]; simpa using o4
    have R4W : Hid (W4.ownsRow (w.heap.size + 4) 3 1 (.slice (some ⟨g1, 0, none⟩) rs'.length rs'.length) rs'.length (nuV rs')) := own_set (own_below OU2.1 b3) (fun g hg => by
      simp only [Value.ownBlock, Option.some.injEq] at hg
      subst hg
      exact (kept _ (by omega) hn12).trans (b3.block _ (by omega)).symm)
    have hg4n : g4 ≠ w3.heap.size ∧ w.heap.size + 4 ≤ g4 := by
      rcases O4W.out.2 with ⟨e1, _⟩ | ⟨ga, ca, cua, ea, h1, ha, _⟩
      · cases e1
      simp only [Value.slice.injEq, Option.some.injEq, Addr.mk.injEq] at ea
      obtain ⟨⟨rfl, _⟩, _⟩ := ea
      refine ⟨?_, h1⟩
      rintro rfl
      rw [v1] at ha; simp at ha
    have HRUN : Hid _ := hrun
    have HU2 : Hid (U2 = _) := hU2
    have HU3 : Hid (U3 = U2.alloc (.cells #[.int .i64 pk, .int .i64 pv] 43)) := hU3
    clear hU2 hU3 b3 cU3 hrun o4 gr4 kept v1 v3 u1 u2 u3 OU2 BU2 O3 o3 b2 t0 t1 t2 t3 t4 t5 t6 hrv rv
    clear xa2 xb2 yb2 xp2 xc2 yc2
    go_upto_region 8 with fail
    rw [← HU2.out]
    go_wp2_with (first | (at_builtin; rw [← HU3.out]; refine wpList_append_run rfl _ _ _ rfl _ _ _ _ rfl rfl HRUN.out ?_) | fail)
    refine bodyPost_ret (v := .tuple #[.agg #[.int .i64 st', .slice (some ⟨g1, 0, none⟩) rs'.length rs'.length, .slice (some ⟨g4, 0, none⟩) (ws.length + 1) k4], .int .i64 0]) (by simp [results, Try.results12, go_sem, x5]) rfl ⟨⟨some ⟨g1, 0, none⟩, rs'.length, some ⟨g4, 0, none⟩, k4, by simp, ?_⟩, ?_⟩
    · have mv : ∀ {W' : World}, (∀ k, k ≠ w3.heap.size → w.heap.size + 4 ≤ k → W'.heap[k]? = W4.heap[k]?) → W'.heap.size = W4.heap.size → TxOwn w.heap.size W'.heap.size W' (some ⟨g1, 0, none⟩) (some ⟨g4, 0, none⟩) rs' (ws ++ [⟨pk, pv⟩]) := fun {W'} hk hs => by
        have h1 : TxO (w.heap.size + 4) W' (.slice (some ⟨g1, 0, none⟩) rs'.length rs'.length) (.slice (some ⟨g4, 0, none⟩) (ws.length + 1) k4) rs' (ws ++ [⟨pk, pv⟩]) := ⟨own_set R4W.out (fun g hg => by
          simp only [Value.ownBlock, Option.some.injEq] at hg; subst hg; exact hk _ (by omega) (by omega)), own_set O4W.out (fun g hg => by
          simp only [Value.ownBlock, Option.some.injEq] at hg; subst hg; exact hk _ hg4n.1 hg4n.2)⟩
        obtain ⟨r1, r2, a1, a2, e1, e2, h3⟩ := h1.own
        simp only [Value.slice.injEq] at e1 e2
        rw [e1.1, e2.1]
        exact TxOwn.wide h3 (by omega) (Nat.le_refl _)
      refine mv (fun k hk hk2 => ?_) (by simp)
      repeat rw [heap_set _ _ _ _ _ (by omega)]
    · repeat (refine Below.setCell ?_ (by first | omega | (simp <;> omega)) _)
      exact BW4.out
theorem impl_wt (a ra wa : Option Addr) (c rq wq : Nat) (l : Chs) (now st : Int) (rs : List Int) (ws : List Ve) (pk pv : Int) (sa : Int) (ra' : List Int) (wa' : List Ve) (cd : Int) (w : World) (hs : ChRow 0 w.heap.size w a l) (hsb : ChsBd 1048576 l) (hr : TxRow 0 w.heap.size w ra wa rs ws) (hbd : TxBd 1048576 rs ws) (h : WtIs l now st rs ws pk pv sa ra' wa' cd) :
    Calls Try.prog 12 #[.agg #[.slice a l.length c, .int .i64 now], .agg #[.int .i64 st, .slice ra rs.length rq, .slice wa ws.length wq], .agg #[.int .i64 pk, .int .i64 pv]] w fun e w' => ∃ r1 c1 w1 c2, e = .returned (.tuple #[.agg #[.int .i64 sa, .slice r1 ra'.length c1, .slice w1 wa'.length c2], .int .i64 cd]) ∧ TxOwn w.heap.size w'.heap.size w' r1 w1 ra' wa' ∧ Below w.heap.size w w' := by
  refine (impl_wt0 a ra wa c rq wq l now st rs ws pk pv w hs hsb hr hbd h).mono ?_
  rintro e w' ⟨⟨r1, c1, w1, c2, he, ho⟩, hb⟩
  exact ⟨r1, c1, w1, c2, he, ho, hb⟩
end Go.Proofs.Ytoahbfledamnnaa.G
namespace Go.Proofs.Ytoahbfledamnnaa.G
open Go.ChangeShapes Go.WideShapes Go.ChangeAt Go.RowKit
set_option linter.unusedVariables false

set_option maxHeartbeats 1000000 in
theorem spec_write_nil2 (a pa : Option Addr) (m c pc : Nat) (now : Int) (w : World) :
    Calls Try.prog 46 #[.agg #[.slice a m c, .int .i64 now], .slice pa 0 pc] w fun e w' => e = .returned (.agg #[.slice a m c, .int .i64 now]) ∧ Below w.heap.size w w' := by
  go_enter Try.func46, Try.ntmps46
  go_wp2_with fail
  refine bodyPost_ret (v := .agg #[.slice a m c, .int .i64 now]) (by simp [results, Try.results46, go_sem]) rfl ⟨rfl, ?_⟩
  repeat (first | exact Below.refl _ _ | refine Below.setCell ?_ (by first | omega | (simp <;> omega)) _ | refine Below.alloc ?_ (by first | omega | (simp <;> omega)) _)
theorem OwnK.chRow2 {lo : Nat} {w : World} {v : Value} {l : Chs} (h : OwnK lo w v l) : ∃ a c, v = .slice a l.length c ∧ ChRow lo w.heap.size w a l := by
  obtain ⟨vs, h1, h2⟩ := h
  exact Kids.row h1 h2
/-- What a WriteAll answers: a store, an hour, a code. -/
def WaS (w : World) (m : Chs) (nr h cd : Int) (e : Ending) (w' : World) : Prop := ∃ a' c', e = .returned (.tuple #[.agg #[.slice a' m.length c', .int .i64 nr], .int .i64 h, .int .i64 cd]) ∧ ChRow w.heap.size w'.heap.size w' a' m ∧ Below w.heap.size w w'
/-- What l06Write makes, of something or of nothing. -/
theorem spec_write (a pa : Option Addr) (c pc : Nat) (l : Chs) (ps : List Ve) (now : Int) (w : World) (hr : ChRow 0 w.heap.size w a l) (hp : VeRow 0 w.heap.size w pa ps) (h2 : storeB l now = true) (h3 : putsB ps = true) {m : Chs} {nr : Int} (h : (ps.length = 0 ∧ m = l ∧ nr = now) ∨ (0 < ps.length ∧ m = wrAll (now + 1) l ps ∧ nr = now + 1)) :
    Calls Try.prog 46 #[.agg #[.slice a l.length c, .int .i64 now], .slice pa ps.length pc] w fun e w' => ∃ a2 c2, e = .returned (.agg #[.slice a2 m.length c2, .int .i64 nr]) ∧ ChRow 0 w'.heap.size w' a2 m ∧ Below w.heap.size w w' := by
  have hbd := storeB_bd h2
  obtain ⟨h16, hn0, hn1, _⟩ := storeB_all h2
  rcases h with ⟨h0, rfl, rfl⟩ | ⟨h0, rfl, rfl⟩
  · rw [h0]
    refine (spec_write_nil2 a pa m.length c pc nr w).mono ?_
    rintro e w' ⟨rfl, hb⟩
    exact ⟨a, c, rfl, ChRow.up hr hb, hb⟩
  · refine (spec_l06Write a pa c pc l ps now w hr hp ⟨by omega, fun x hx => by have := hbd x hx; omega⟩ h0 (by have := (putsB_all h3).1; omega) h16 (fun i hi => putB_key ((putsB_all h3).2 ps[i] (List.getElem_mem hi))) ⟨hn0, by omega⟩).mono ?_
    rintro e w' ⟨v, rfl, ho, hb⟩
    obtain ⟨a2, c2, rfl, r2⟩ := ho.chRow2
    exact ⟨a2, c2, rfl, ChRow.wide r2 (Nat.zero_le _) (Nat.le_refl _), hb⟩
end Go.Proofs.Ytoahbfledamnnaa.G
namespace Go.Proofs.Ytoahbfledamnnaa.G
open Go.ChangeShapes Go.WideShapes Go.ChangeAt Go.RowKit
set_option linter.unusedVariables false

/-- A store, an hour and a code that a call tells. -/
def CoS (w : World) (m : Chs) (nr h cd : Int) (e : Ending) (w' : World) : Prop := (∃ a' c', e = .returned (.tuple #[.agg #[.slice a' m.length c', .int .i64 nr], .int .i64 h, .int .i64 cd]) ∧ ChRow 0 w'.heap.size w' a' m) ∧ Below w.heap.size w w'
/-- Where the call's own store lies: what is below stays, and the rows with it. -/
theorem CoS.same {w W' : World} {a : Option Addr} {c : Nat} {l : Chs} {now h cd : Int} (hr : ChRow 0 w.heap.size w a l) (hb : Below w.heap.size w W') : CoS w l now h cd (.returned (.tuple #[.agg #[.slice a l.length c, .int .i64 now], .int .i64 h, .int .i64 cd])) W' := ⟨⟨a, c, rfl, ChRow.up hr hb⟩, hb⟩
set_option maxHeartbeats 8000000 in
theorem spec_co (a ra wa : Option Addr) (c rq wq : Nat) (l : Chs) (now st : Int) (rs : List Int) (ws : List Ve) (w : World) (hs : ChRow 0 w.heap.size w a l) (hsb : ChsBd 1048576 l) (hr : TxRow 0 w.heap.size w ra wa rs ws) (hbd : TxBd 1048576 rs ws) (hcap : rs.length ≤ rq) (hok : txnB l now st rs ws = true) {m : Chs} {nr h cd : Int} (hc : CoIs l now st rs ws m nr h cd) :
    Calls Try.prog 41 #[.agg #[.slice a l.length c, .int .i64 now], .agg #[.int .i64 st, .slice ra rs.length rq, .slice wa ws.length wq]] w fun e w' => CoS w m nr h cd e w' := by
  have hal := txnB_all hok
  have H16 : Hid (l.length = 16) := (storeB_all hal.1).1
  have HSO : Hid (storeB l now = true) := hal.1
  have HPO : Hid (putsB ws = true) := hal.2.2.1
  have HRO : Hid (readsB rs = true) := hal.2.2.2
  have HCO : Hid (CoIs l now st rs ws m nr h cd) := hc
  clear hal hok hc
  obtain ⟨V, hV⟩ : ∃ V, V = ((w.alloc (.cells #[.slice a l.length c, .int .i64 now] 25)).alloc (.cells #[.int .i64 st, .slice ra rs.length rq, .slice wa ws.length wq] 30)).alloc (.cells #[.slice none 0 0, .int .i64 0] 25) := ⟨_, rfl⟩
  have bV : Below w.heap.size w V := by
    rw [hV]
    repeat (first | exact Below.refl _ _ | refine Below.alloc ?_ (by first | omega | (simp <;> omega)) _)
  have zV : w.heap.size + 3 ≤ V.heap.size := by rw [hV]; simp
  have c0 : V.heap[w.heap.size]? = some (.cells #[.slice a l.length c, .int .i64 now] 25 (0, 0)) := by
    rw [hV, Below.heap_alloc _ _ _ (by simp <;> omega), Below.heap_alloc _ _ _ (by simp <;> omega)]; exact heap_alloc_new _ _
  have c1 : V.heap[w.heap.size + 1]? = some (.cells #[.int .i64 st, .slice ra rs.length rq, .slice wa ws.length wq] 30 (0, 0)) := by
    rw [hV, Below.heap_alloc _ _ _ (by simp <;> omega)]
    have := heap_alloc_new (w.alloc (.cells #[.slice a l.length c, .int .i64 now] 25)) (.cells #[.int .i64 st, .slice ra rs.length rq, .slice wa ws.length wq] 30)
    simpa using this
  have c2 : V.heap[w.heap.size + 1 + 1]? = some (.cells #[.slice none 0 0, .int .i64 0] 25 (0, 0)) := by
    rw [hV]
    have := heap_alloc_new ((w.alloc (.cells #[.slice a l.length c, .int .i64 now] 25)).alloc (.cells #[.int .i64 st, .slice ra rs.length rq, .slice wa ws.length wq] 30)) (.cells #[.slice none 0 0, .int .i64 0] 25)
    simpa using this
  have KV : Hid (∀ W, Below V.heap.size V W → W.heap[w.heap.size]? = some (.cells #[.slice a l.length c, .int .i64 now] 25 (0, 0)) ∧ W.heap[w.heap.size + 1]? = some (.cells #[.int .i64 st, .slice ra rs.length rq, .slice wa ws.length wq] 30 (0, 0)) ∧ W.heap[w.heap.size + 1 + 1]? = some (.cells #[.slice none 0 0, .int .i64 0] 25 (0, 0)) ∧ ChRow 0 W.heap.size W a l ∧ TxRow 0 W.heap.size W ra wa rs ws ∧ Below w.heap.size w W) := fun W h =>
    have hw := bV.trans (h.mono (by omega))
    ⟨(h.block _ (by omega)).trans c0, (h.block _ (by omega)).trans c1, (h.block _ (by omega)).trans c2, ChRow.up hs hw, TxRow.up hr hw, hw⟩
  have HE : Hid (ChsBd 1048576 l) := hsb
  have HD : Hid (TxBd 1048576 rs ws) := hbd
  have HW0 : Hid (TxRow 0 w.heap.size w ra wa rs ws) := hr
  have HS0 : Hid (ChRow 0 w.heap.size w a l) := hs
  have x0 := fun o => row_cell c0 o
  have x1 := fun o => row_cell c1 o
  have x2 := fun o => row_cell c2 o
  have y2 := fun o => row_frozen c2 o
  clear hs hr hbd hsb c0 c1 c2 bV
  go_enter Try.func41, Try.ntmps41
  go_upto_region 1 with fail
  rw [← hV]
  clear hV
  by_cases h0 : ws.length = 0
  · obtain ⟨_, rfl, rfl, rfl, rfl⟩ : ws.length = 0 ∧ m = l ∧ nr = now ∧ h = st ∧ cd = 0 := by
      rcases HCO.out with h | ⟨h, _⟩ | ⟨h, _⟩ | ⟨h, _⟩
      · exact h
      all_goals omega
    have h0' : ((ws.length : Int) == 0) = true := by rw [h0]; rfl
    clear h0 HCO HPO
    go_upto_region 2 with fail
    go_region_with fail
    all_goals (try go_wp2_with fail)
    all_goals
      refine bodyPost_ret (v := .tuple #[.agg #[.slice a m.length c, .int .i64 nr], .int .i64 h, .int .i64 0]) (by simp [results, Try.results41, go_sem, x2]) rfl (CoS.same HS0.out ?_)
      refine Below.drew ?_
      repeat (refine Below.setCell ?_ (by first | omega | (simp <;> omega)) _)
      exact (KV.out _ (Below.refl _ _)).2.2.2.2.2
  have h0' : ((ws.length : Int) == 0) = false := by simp; intro e; rw [e] at h0; exact h0 rfl
  have hp0 : 0 < ws.length := by omega
  clear h0
  go_wp2_with fail
  refine (spec_conf a ra wa c rq wq l now st rs ws _ (KV.out _ (Below.refl _ _)).2.2.2.1 HE.out (KV.out _ (Below.refl _ _)).2.2.2.2.1 HD.out hcap H16.out HRO.out).mono ?_
  rintro e w1 ⟨rfl, hb1⟩
  have q1 : Hid (Below V.heap.size V w1) := hb1
  obtain ⟨t0, t1, t2, t3, t4, t5⟩ := KV.out _ q1.out
  have xa1 := fun o => row_cell t0 o
  have xb1 := fun o => row_cell t1 o
  have xc1 := fun o => row_cell t2 o
  have yc1 := fun o => row_frozen t2 o
  have TS1 : Hid (ChRow 0 w1.heap.size w1 a l) := t3
  have TT1 : Hid (TxRow 0 w1.heap.size w1 ra wa rs ws) := t4
  have TB1 : Hid (Below w.heap.size w w1) := t5
  have z1 := hb1.size
  clear t0 t1 t2 t3 t4 t5 hb1
  clear x0 x1 x2 y2
  cases hC : confB l st rs ws
  case true =>
    obtain ⟨_, _, rfl, rfl, rfl, rfl⟩ : 0 < ws.length ∧ confB l st rs ws = true ∧ m = l ∧ nr = now ∧ h = 0 ∧ cd = 16 := by
      rcases HCO.out with ⟨h, _⟩ | h | ⟨_, h, _⟩ | ⟨_, h, _⟩
      · omega
      · exact h
      all_goals rw [hC] at h; cases h
    clear HCO hC
    go_wp2_with fail
    refine bodyPost_ret (v := .tuple #[.agg #[.slice a m.length c, .int .i64 nr], .int .i64 0, .int .i64 16]) (by simp [results, Try.results41, go_sem, xc1]) rfl (CoS.same HS0.out ?_)
    repeat (refine Below.setCell ?_ (by first | omega | (simp <;> omega)) _)
    exact TB1.out
  by_cases h1 : now = 100000
  · obtain ⟨_, _, _, rfl, rfl, rfl, rfl⟩ : 0 < ws.length ∧ confB l st rs ws = false ∧ now = 100000 ∧ m = l ∧ nr = now ∧ h = 0 ∧ cd = 7 := by
      rcases HCO.out with ⟨h, _⟩ | ⟨_, h, _⟩ | h | ⟨_, _, h, _⟩
      · omega
      · rw [hC] at h; cases h
      · exact h
      · exact absurd h1 h
    have h1' : (nr == 100000) = true := by simpa using h1
    have HN1 : Hid (nr = 100000) := h1
    clear HCO hC h1
    go_wp2_with fail
    refine bodyPost_ret (v := .tuple #[.agg #[.slice a m.length c, .int .i64 nr], .int .i64 0, .int .i64 7]) (by first | (simp [results, Try.results41, go_sem, xc1]; done) | (simp [results, Try.results41, go_sem, xc1]; exact HN1.out.symm)) rfl (CoS.same HS0.out ?_)
    repeat (refine Below.setCell ?_ (by first | omega | (simp <;> omega)) _)
    exact TB1.out
  · obtain ⟨_, _, _, hm, hnr, hh, hcd⟩ : 0 < ws.length ∧ confB l st rs ws = false ∧ now ≠ 100000 ∧ m = wrAll (now + 1) l ws ∧ nr = now + 1 ∧ h = now + 1 ∧ cd = 0 := by
      rcases HCO.out with ⟨h, _⟩ | ⟨_, h, _⟩ | ⟨_, _, h, _⟩ | h
      · omega
      · rw [hC] at h; cases h
      · exact absurd h h1
      · exact h
    have h1' : (now == 100000) = false := by simpa using h1
    have HM : Hid (m = wrAll (now + 1) l ws) := hm
    have HNR : Hid (nr = now + 1) := hnr
    have HCD : Hid (h = nr ∧ cd = 0) := ⟨by omega, hcd⟩
    clear HCO hC h1 hm hnr hh hcd
    go_wp2_with fail
    have hbw := storeB_bd HSO.out
    have hnw := (storeB_all HSO.out).2.2.1
    have hnz := (storeB_all HSO.out).2.1
    have hqw := spec_l06Write a wa c wq l ws now _ TS1.out TT1.out.2 ⟨by have := H16.out; omega, fun x hx => by have := hbw x hx; omega⟩ hp0 (by have := (putsB_all HPO.out).1; omega) H16.out (fun i hi => putB_key ((putsB_all HPO.out).2 ws[i] (List.getElem_mem hi))) ⟨hnz, by omega⟩
    rw [← HM.out, ← HNR.out] at hqw
    refine hqw.mono ?_
    clear hqw hbw hnw hnz
    rintro e w2 ⟨v2, rfl, o2, hb2⟩
    obtain ⟨a2, c2, rfl, r2⟩ := o2.chRow2
    have R2 : Hid (ChRow w1.heap.size w2.heap.size w2 a2 m) := r2
    clear r2 o2
    have q2 : Hid (Below V.heap.size V w2) := q1.out.trans (hb2.mono (by omega))
    obtain ⟨t0, t1, t2, t3, t4, t5⟩ := KV.out _ q2.out
    have xa2 := fun o => row_cell t0 o
    have xb2 := fun o => row_cell t1 o
    have xc2 := fun o => row_cell t2 o
    have yc2 := fun o => row_frozen t2 o
    have TS2 : Hid (ChRow 0 w2.heap.size w2 a l) := t3
    have TT2 : Hid (TxRow 0 w2.heap.size w2 ra wa rs ws) := t4
    have TB2 : Hid (Below w.heap.size w w2) := t5
    have z2 := hb2.size
    clear t0 t1 t2 t3 t4 t5 hb2
    clear xa1 xb1 xc1 yc1
    go_upto_region 8 with fail
    obtain ⟨U, hU⟩ : ∃ x, x = w2.alloc (.cells #[.slice a2 m.length c2, .int .i64 nr] 25) := ⟨_, rfl⟩
    rw [← hU]
    have bU : Below w2.heap.size w2 U := by rw [hU]; exact (Below.refl _ _).alloc (Nat.le_refl _) _
    have cU : U.heap[w2.heap.size]? = some (.cells #[.slice a2 m.length c2, .int .i64 nr] 25 (0, 0)) := by rw [hU]; exact heap_alloc_new _ _
    have xU := fun o => row_cell cU o
    have zU := bU.size
    have qU : Hid (Below V.heap.size V U) := q2.out.trans (bU.mono (by omega))
    have tU := KV.out _ qU.out
    have rU := fun o => row_cell tU.2.2.1 o
    have yU := fun o => row_frozen tU.2.2.1 o
    have BU : Hid (Below w.heap.size w U) := tU.2.2.2.2.2
    have R2U : Hid (ChRow w1.heap.size w2.heap.size U a2 m) := ChRow.keep R2.out (agree bU (Nat.le_refl _))
    clear hU bU cU tU xa2 xb2 xc2 yc2
    have z1v := q1.out.size
    go_region_with fail
    all_goals (try go_wp2_with fail)
    all_goals
      refine bodyPost_ret (v := .tuple #[.agg #[.slice a2 m.length c2, .int .i64 nr], .int .i64 nr, .int .i64 0]) (by simp [results, Try.results41, go_sem, rU]) rfl ⟨⟨a2, c2, by rw [HCD.out.1, HCD.out.2], ?_⟩, ?_⟩
      · refine ChRow.wide (ChRow.keep R2U.out (fun k h1 h2 => ?_)) (Nat.zero_le _) (by show w2.heap.size ≤ ((U.setCell _ _).setCell _ _).heap.size; simp; omega)
        show ((U.setCell ⟨w.heap.size + 1 + 1, 0, none⟩ _).setCell ⟨w.heap.size + 1 + 1, 1, none⟩ _).heap[k]? = _
        rw [heap_set _ _ _ _ _ (by omega), heap_set _ _ _ _ _ (by omega)]
      · refine Below.drew ?_
        repeat (refine Below.setCell ?_ (by first | omega | (simp <;> omega)) _)
        exact BU.out
/-- What Commit answers: a store, an hour, a code. -/
def CtIs (l : Chs) (now st : Int) (rs : List Int) (ws : List Ve) (m : Chs) (nr h cd : Int) : Prop :=
  (txnB l now st rs ws = false ∧ m = [] ∧ nr = 0 ∧ h = 0 ∧ cd = 1) ∨ (txnB l now st rs ws = true ∧ CoIs l now st rs ws m nr h cd)
theorem CoIs.bd {l : Chs} {now st : Int} {rs : List Int} {ws : List Ve} {m : Chs} {nr h cd : Int} (hok : txnB l now st rs ws = true) (hc : CoIs l now st rs ws m nr h cd) : ChsBd 100400 m ∧ m.length = 16 := by
  have hal := txnB_all hok
  have hbd := storeB_bd hal.1
  have h16 := (storeB_all hal.1).1
  have hn := (storeB_all hal.1).2.2.1
  have h400 := (putsB_all hal.2.2.1).1
  have hl : ChsBd 100400 l ∧ l.length = 16 := ⟨⟨by omega, fun x hx => by have := hbd x hx; omega⟩, h16⟩
  rcases hc with ⟨_, rfl, _⟩ | ⟨_, _, rfl, _⟩ | ⟨_, _, _, rfl, _⟩ | ⟨_, _, _, rfl, _⟩
  · exact hl
  · exact hl
  · exact hl
  · refine ⟨⟨by rw [wrAll_len]; omega, fun x hx => ?_⟩, by rw [wrAll_len]; exact h16⟩
    have := wrAll_bd (t := now + 1) ws (l := l) (m := 100000) (fun y hy => by have := hbd y hy; omega) x hx
    omega
theorem ctIs (l : Chs) (now st : Int) (rs : List Int) (ws : List Ve) : ∃ m nr h cd, CtIs l now st rs ws m nr h cd ∧ ChsBd 1048576 m ∧ sizeN m ≤ 16777216 := by
  cases hT : txnB l now st rs ws
  · exact ⟨_, _, _, _, .inl ⟨hT, rfl, rfl, rfl, rfl⟩, ⟨Nat.zero_le _, by simp⟩, by simp [sizeN]⟩
  have fin : ∀ {m : Chs} {nr h cd : Int}, CoIs l now st rs ws m nr h cd → ∃ m nr h cd, CtIs l now st rs ws m nr h cd ∧ ChsBd 1048576 m ∧ sizeN m ≤ 16777216 := fun {m nr h cd} hc => by
    have hb := CoIs.bd hT hc
    refine ⟨m, nr, h, cd, .inr ⟨hT, hc⟩, ⟨by have := hb.1.1; omega, fun x hx => by have := hb.1.2 x hx; omega⟩, ?_⟩
    have := sizeN_le (l := m) (fun x hx => by have := hb.1.2 x hx; omega)
    have := hb.2
    omega
  by_cases h0 : ws.length = 0
  · exact fin (.inl ⟨h0, rfl, rfl, rfl, rfl⟩)
  cases hC : confB l st rs ws
  · by_cases h1 : now = 100000
    · exact fin (.inr (.inr (.inl ⟨by omega, hC, h1, rfl, rfl, rfl, rfl⟩)))
    · exact fin (.inr (.inr (.inr ⟨by omega, hC, h1, rfl, rfl, rfl, rfl⟩)))
  · exact fin (.inr (.inl ⟨by omega, hC, rfl, rfl, rfl, rfl⟩))
set_option maxHeartbeats 4000000 in
theorem spec_ct (a ra wa : Option Addr) (c rq wq : Nat) (l : Chs) (now st : Int) (rs : List Int) (ws : List Ve) (w : World) (hs : ChRow 0 w.heap.size w a l) (hsb : ChsBd 1048576 l) (hr : TxRow 0 w.heap.size w ra wa rs ws) (hbd : TxBd 1048576 rs ws) (hcap : rs.length ≤ rq) {m : Chs} {nr h cd : Int} (hc : CtIs l now st rs ws m nr h cd) :
    Calls Try.prog 19 #[.agg #[.slice a l.length c, .int .i64 now], .agg #[.int .i64 st, .slice ra rs.length rq, .slice wa ws.length wq]] w fun e w' => (∃ v, e = .returned (.tuple #[.agg #[v, .int .i64 nr], .int .i64 h, .int .i64 cd]) ∧ OwnK w.heap.size w' v m) ∧ Below w.heap.size w w' := by
  have HCO : Hid (CtIs l now st rs ws m nr h cd) := hc
  clear hc
  obtain ⟨V, hV⟩ : ∃ V, V = ((w.alloc (.cells #[.slice a l.length c, .int .i64 now] 25)).alloc (.cells #[.int .i64 st, .slice ra rs.length rq, .slice wa ws.length wq] 30)).alloc (.cells #[.slice none 0 0, .int .i64 0] 25) := ⟨_, rfl⟩
  have bV : Below w.heap.size w V := by
    rw [hV]
    repeat (first | exact Below.refl _ _ | refine Below.alloc ?_ (by first | omega | (simp <;> omega)) _)
  have zV : w.heap.size + 3 ≤ V.heap.size := by rw [hV]; simp
  have c0 : V.heap[w.heap.size]? = some (.cells #[.slice a l.length c, .int .i64 now] 25 (0, 0)) := by
    rw [hV, Below.heap_alloc _ _ _ (by simp <;> omega), Below.heap_alloc _ _ _ (by simp <;> omega)]; exact heap_alloc_new _ _
  have c1 : V.heap[w.heap.size + 1]? = some (.cells #[.int .i64 st, .slice ra rs.length rq, .slice wa ws.length wq] 30 (0, 0)) := by
    rw [hV, Below.heap_alloc _ _ _ (by simp <;> omega)]
    have := heap_alloc_new (w.alloc (.cells #[.slice a l.length c, .int .i64 now] 25)) (.cells #[.int .i64 st, .slice ra rs.length rq, .slice wa ws.length wq] 30)
    simpa using this
  have c2 : V.heap[w.heap.size + 1 + 1]? = some (.cells #[.slice none 0 0, .int .i64 0] 25 (0, 0)) := by
    rw [hV]
    have := heap_alloc_new ((w.alloc (.cells #[.slice a l.length c, .int .i64 now] 25)).alloc (.cells #[.int .i64 st, .slice ra rs.length rq, .slice wa ws.length wq] 30)) (.cells #[.slice none 0 0, .int .i64 0] 25)
    simpa using this
  have KV : Hid (∀ W, Below V.heap.size V W → W.heap[w.heap.size]? = some (.cells #[.slice a l.length c, .int .i64 now] 25 (0, 0)) ∧ W.heap[w.heap.size + 1]? = some (.cells #[.int .i64 st, .slice ra rs.length rq, .slice wa ws.length wq] 30 (0, 0)) ∧ W.heap[w.heap.size + 1 + 1]? = some (.cells #[.slice none 0 0, .int .i64 0] 25 (0, 0)) ∧ ChRow 0 W.heap.size W a l ∧ TxRow 0 W.heap.size W ra wa rs ws ∧ Below w.heap.size w W) := fun W h =>
    have hw := bV.trans (h.mono (by omega))
    ⟨(h.block _ (by omega)).trans c0, (h.block _ (by omega)).trans c1, (h.block _ (by omega)).trans c2, ChRow.up hs hw, TxRow.up hr hw, hw⟩
  have HE : Hid (ChsBd 1048576 l) := hsb
  have HD : Hid (TxBd 1048576 rs ws) := hbd
  have HW0 : Hid (TxRow 0 w.heap.size w ra wa rs ws) := hr
  have HS0 : Hid (ChRow 0 w.heap.size w a l) := hs
  have x0 := fun o => row_cell c0 o
  have x1 := fun o => row_cell c1 o
  have x2 := fun o => row_cell c2 o
  have y2 := fun o => row_frozen c2 o
  clear hs hr hbd hsb c0 c1 c2 bV
  go_enter Try.func19, Try.ntmps19
  go_upto_region 1 with fail
  rw [← hV]
  clear hV
  go_wp2_with fail
  refine (spec_txnOK a ra wa c rq wq l now st rs ws _ (KV.out _ (Below.refl _ _)).2.2.2.1 HE.out (KV.out _ (Below.refl _ _)).2.2.2.2.1 HD.out hcap).mono ?_
  rintro e w1 ⟨rfl, hb1⟩
  have q1 : Hid (Below V.heap.size V w1) := hb1
  obtain ⟨t0, t1, t2, t3, t4, t5⟩ := KV.out _ q1.out
  have xa1 := fun o => row_cell t0 o
  have xb1 := fun o => row_cell t1 o
  have xc1 := fun o => row_cell t2 o
  have yc1 := fun o => row_frozen t2 o
  have TS1 : Hid (ChRow 0 w1.heap.size w1 a l) := t3
  have TT1 : Hid (TxRow 0 w1.heap.size w1 ra wa rs ws) := t4
  have TB1 : Hid (Below w.heap.size w w1) := t5
  have z1 := hb1.size
  clear t0 t1 t2 t3 t4 t5 hb1
  clear x0 x1 x2 y2
  cases hS : txnB l now st rs ws
  · obtain ⟨_, rfl, rfl, rfl, rfl⟩ : txnB l now st rs ws = false ∧ m = [] ∧ nr = 0 ∧ h = 0 ∧ cd = 1 := by
      rcases HCO.out with h | ⟨h, _⟩
      · exact h
      · rw [hS] at h; cases h
    clear HCO hS
    go_wp2_with fail
    refine bodyPost_ret (v := .tuple #[.agg #[.slice none 0 0, .int .i64 0], .int .i64 0, .int .i64 1]) (by simp [results, Try.results19, go_sem, xc1]) rfl ⟨⟨_, rfl, [], ⟨rfl, .inl ⟨rfl, rfl⟩⟩, fun i x hx => by simp at hx⟩, ?_⟩
    repeat (refine Below.setCell ?_ (by first | omega | (simp <;> omega)) _)
    exact TB1.out
  · have hco : CoIs l now st rs ws m nr h cd := by
      rcases HCO.out with ⟨h, _⟩ | ⟨_, h⟩
      · rw [hS] at h; cases h
      · exact h
    have hbm := CoIs.bd hS hco
    have HBM : Hid (ChsBd 1048576 m) := ⟨by have := hbm.1.1; omega, fun x hx => by have := hbm.1.2 x hx; omega⟩
    have HS : Hid (txnB l now st rs ws = true) := hS
    have HC : Hid (CoIs l now st rs ws m nr h cd) := hco
    clear hco hS HCO hbm
    go_wp2_with fail
    refine (spec_co a ra wa c rq wq l now st rs ws _ TS1.out HE.out TT1.out HD.out hcap HS.out HC.out).mono ?_
    rintro e w2 ⟨⟨a2, c2, rfl, r2⟩, hb2⟩
    have R2 : Hid (ChRow 0 w2.heap.size w2 a2 m) := r2
    clear r2
    have q2 : Hid (Below V.heap.size V w2) := q1.out.trans (hb2.mono (by omega))
    obtain ⟨t0, t1, t2, t3, t4, t5⟩ := KV.out _ q2.out
    have xa2 := fun o => row_cell t0 o
    have xb2 := fun o => row_cell t1 o
    have xc2 := fun o => row_cell t2 o
    have yc2 := fun o => row_frozen t2 o
    have TS2 : Hid (ChRow 0 w2.heap.size w2 a l) := t3
    have TT2 : Hid (TxRow 0 w2.heap.size w2 ra wa rs ws) := t4
    have TB2 : Hid (Below w.heap.size w w2) := t5
    have z2 := hb2.size
    clear t0 t1 t2 t3 t4 t5 hb2
    clear xa1 xb1 xc1 yc1
    go_wp2_with fail
    obtain ⟨U, hU⟩ : ∃ x, x = w2.alloc (.cells #[.slice a2 m.length c2, .int .i64 nr] 25) := ⟨_, rfl⟩
    rw [← hU]
    have bU : Below w2.heap.size w2 U := by rw [hU]; exact (Below.refl _ _).alloc (Nat.le_refl _) _
    have zU := bU.size
    have qU : Hid (Below V.heap.size V U) := q2.out.trans (bU.mono (by omega))
    have R2U : Hid (ChRow 0 U.heap.size U a2 m) := ChRow.up R2.out bU
    clear hU bU
    refine (spec_l06Own a2 c2 m nr _ R2U.out HBM.out).mono ?_
    rintro e w3 ⟨v3, rfl, o3, hb3⟩
    obtain ⟨a3, c3, rfl, r3⟩ := o3.chRow2
    have R3 : Hid (OwnK U.heap.size w3 (.slice a3 m.length c3) m) := o3
    clear r3 o3
    have q3 : Hid (Below V.heap.size V w3) := qU.out.trans (hb3.mono (by have := qU.out.size; omega))
    obtain ⟨t0, t1, t2, t3, t4, t5⟩ := KV.out _ q3.out
    have xa3 := fun o => row_cell t0 o
    have xb3 := fun o => row_cell t1 o
    have xc3 := fun o => row_cell t2 o
    have yc3 := fun o => row_frozen t2 o
    have TS3 : Hid (ChRow 0 w3.heap.size w3 a l) := t3
    have TT3 : Hid (TxRow 0 w3.heap.size w3 ra wa rs ws) := t4
    have TB3 : Hid (Below w.heap.size w w3) := t5
    have z3 := hb3.size
    clear t0 t1 t2 t3 t4 t5 hb3
    clear xa2 xb2 xc2 yc2
    have z1v := qU.out.size
    go_wp2_with fail
    refine bodyPost_ret (v := .tuple #[.agg #[.slice a3 m.length c3, .int .i64 nr], .int .i64 h, .int .i64 cd]) (by simp [results, Try.results19, go_sem, xc3]) rfl ⟨⟨_, rfl, ?_⟩, ?_⟩
    · have mv : ∀ {W' : World}, W'.heap.size = w3.heap.size → (∀ k, U.heap.size ≤ k → W'.heap[k]? = w3.heap[k]?) → OwnK w.heap.size W' (.slice a3 m.length c3) m := fun {W'} hs hk => by
        obtain ⟨vs, h1, h2⟩ := OwnK.move R3.out (w' := W') (by omega) hk
        exact ⟨vs, own_low h1 (by omega), h2.low (by omega)⟩
      refine mv (by simp) (fun k hk => ?_)
      repeat rw [heap_set _ _ _ _ _ (by omega)]
    · repeat (refine Below.setCell ?_ (by first | omega | (simp <;> omega)) _)
      exact TB3.out
end Go.Proofs.Ytoahbfledamnnaa.G
