/- The specification's WriteTxn. -/
import Derived.Test.YtgffplbcpofkmaaStTxRead
import Derived.Deep.CutBlock
import Derived.Deep.CutRange
namespace Go.Proofs.Ytgffplbcpofkmaa.G
open Go.ChangeShapes Go.WideShapes Go.ChangeAt Go.RowKit
set_option linter.unusedVariables false

/-- What WriteTxn answers: a transaction, a code. -/
def WtIs (l : Chs) (now st : Int) (rs : List Int) (ws : List Ve) (pk pv : Int) (st' : Int) (rs' : List Int) (ws' : List Ve) (cd : Int) : Prop :=
  (txnB l now st rs ws = false ∧ st' = 0 ∧ rs' = [] ∧ ws' = [] ∧ cd = 1) ∨
  (txnB l now st rs ws = true ∧ putB pk pv = false ∧ st' = 0 ∧ rs' = [] ∧ ws' = [] ∧ cd = 4) ∨
  (txnB l now st rs ws = true ∧ putB pk pv = true ∧ ws.length = 400 ∧ st' = st ∧ rs' = rs ∧ ws' = ws ∧ cd = 6) ∨
  (txnB l now st rs ws = true ∧ putB pk pv = true ∧ ws.length ≠ 400 ∧ st' = st ∧ rs' = rs ∧ ws' = ws ++ [⟨pk, pv⟩] ∧ cd = 0)
/-- A transaction and a code that a call tells. -/
def TcS (w : World) (st' : Int) (rs' : List Int) (ws' : List Ve) (cd : Int) (e : Ending) (w' : World) : Prop := (∃ ra' rq' wa' wq', e = .returned (.tuple #[.agg #[.int .i64 st', .slice ra' rs'.length rq', .slice wa' ws'.length wq'], .int .i64 cd]) ∧ TxOwn 0 w'.heap.size w' ra' wa' rs' ws') ∧ Below w.heap.size w w'
theorem puts_one (k v : Int) : putsB [⟨k, v⟩] = putB k v := by simp [putsB]
theorem app_put3 (xs : List Ve) (p : Ve) (v : Value) (base h : Nat) (W : World) (ho : W.ownsRow base 54 2 v xs.length (veCells xs)) (hu : W.heap[h]? = some (.cells #[.int .i64 p.ts, .int .i64 p.v] 54 (0, 0))) (hk : xs.length ≤ 1048576) (hb : base ≤ W.heap.size) :
    ∃ g cap W', (Builtin.append_ #[36, 36] 36 #[v, .slice (some ⟨h, 0, none⟩) 1 1]).run Try.prog W = .ok (.slice (some ⟨g, 0, none⟩) (xs.length + 1) cap) W' ∧ W'.ownsRow base 54 2 (.slice (some ⟨g, 0, none⟩) (xs.length + 1) cap) (xs.length + 1) (veCells (xs ++ [p])) ∧ W.grownBy W' v.ownBlock ∧ g < W'.heap.size := by
  obtain ⟨i, hi, hz, hsz, hby⟩ := info_PuX
  have e : veCells (xs ++ [p]) = veCells xs ++ [.int .i64 p.ts, .int .i64 p.v] := by simp [veCells]
  rw [e]
  obtain ⟨g, cap, W', h1, h2, h3, h4, h5⟩ := run_append_lies (P := Try.prog) W 36 36 base 54 i _ 2 16 Try.underlying36 hi hz hsz hby rfl (by decide) v xs.length (veCells xs) ho ⟨h, 0, none⟩ 1 1 [.int .i64 p.ts, .int .i64 p.v] rfl (fun j x hx => by
    rw [add_plain]
    match j, hx with
    | 0, hx => simp only [List.getElem?_cons_zero, Option.some.injEq] at hx; subst hx; exact row_cell hu 0
    | 1, hx => simp only [List.getElem?_cons_succ, List.getElem?_cons_zero, Option.some.injEq] at hx; subst hx; exact row_cell hu 1) (fun x hx => by
      simp only [List.mem_cons, List.not_mem_nil, or_false] at hx
      rcases hx with rfl | rfl <;> rfl) (by omega) (by unfold maxLen; omega) (by omega) hb W.heap.size rfl
  exact ⟨g, cap, W', h1, h2, h3, h5⟩
set_option maxHeartbeats 8000000 in
set_option maxRecDepth 4000 in
theorem spec_wt (a ra wa : Option Addr) (c rq wq : Nat) (l : Chs) (now st : Int) (rs : List Int) (ws : List Ve) (pk pv : Int) (w : World) (hs : ChRow 0 w.heap.size w a l) (hsb : ChsBd 1048576 l) (hr : TxRow 0 w.heap.size w ra wa rs ws) (hbd : TxBd 1048576 rs ws) (hcap : rs.length ≤ rq) {st' : Int} {rs' : List Int} {ws' : List Ve} {cd : Int} (h : WtIs l now st rs ws pk pv st' rs' ws' cd) :
    Calls Try.prog 24 #[.agg #[.slice a l.length c, .int .i64 now], .agg #[.int .i64 st, .slice ra rs.length rq, .slice wa ws.length wq], .agg #[.int .i64 pk, .int .i64 pv]] w fun e w' => TcS w st' rs' ws' cd e w' := by
  have HI : Hid (WtIs l now st rs ws pk pv st' rs' ws' cd) := h
  clear h
  obtain ⟨V, hV⟩ : ∃ V, V = ((((w.alloc (.cells #[.slice a l.length c, .int .i64 now] 34)).alloc (.cells #[.int .i64 st, .slice ra rs.length rq, .slice wa ws.length wq] 38)).alloc (.cells #[.int .i64 pk, .int .i64 pv] 54)).alloc (.cells #[.int .i64 0, .slice none 0 0, .slice none 0 0] 38)) := ⟨_, rfl⟩
  have bV : Below w.heap.size w V := by
    rw [hV]
    repeat (first | exact Below.refl _ _ | refine Below.alloc ?_ (by first | omega | (simp <;> omega)) _)
  have zV : w.heap.size + 4 ≤ V.heap.size := by rw [hV]; simp
  have c0 : V.heap[w.heap.size]? = some (.cells #[.slice a l.length c, .int .i64 now] 34 (0, 0)) := by
    rw [hV, Below.heap_alloc _ _ _ (by simp <;> omega), Below.heap_alloc _ _ _ (by simp <;> omega), Below.heap_alloc _ _ _ (by simp <;> omega)]
    have := heap_alloc_new w (.cells #[.slice a l.length c, .int .i64 now] 34)
    simpa using this
  have c1 : V.heap[w.heap.size + 1]? = some (.cells #[.int .i64 st, .slice ra rs.length rq, .slice wa ws.length wq] 38 (0, 0)) := by
    rw [hV, Below.heap_alloc _ _ _ (by simp <;> omega), Below.heap_alloc _ _ _ (by simp <;> omega)]
    have := heap_alloc_new (w.alloc (.cells #[.slice a l.length c, .int .i64 now] 34)) (.cells #[.int .i64 st, .slice ra rs.length rq, .slice wa ws.length wq] 38)
    simpa using this
  have c2 : V.heap[w.heap.size + 1 + 1]? = some (.cells #[.int .i64 pk, .int .i64 pv] 54 (0, 0)) := by
    rw [hV, Below.heap_alloc _ _ _ (by simp <;> omega)]
    have := heap_alloc_new ((w.alloc (.cells #[.slice a l.length c, .int .i64 now] 34)).alloc (.cells #[.int .i64 st, .slice ra rs.length rq, .slice wa ws.length wq] 38)) (.cells #[.int .i64 pk, .int .i64 pv] 54)
    simpa using this
  have c3 : V.heap[w.heap.size + 1 + 1 + 1]? = some (.cells #[.int .i64 0, .slice none 0 0, .slice none 0 0] 38 (0, 0)) := by
    rw [hV]
    have := heap_alloc_new (((w.alloc (.cells #[.slice a l.length c, .int .i64 now] 34)).alloc (.cells #[.int .i64 st, .slice ra rs.length rq, .slice wa ws.length wq] 38)).alloc (.cells #[.int .i64 pk, .int .i64 pv] 54)) (.cells #[.int .i64 0, .slice none 0 0, .slice none 0 0] 38)
    simpa using this
  have KV : Hid (∀ W, Below V.heap.size V W → W.heap[w.heap.size]? = some (.cells #[.slice a l.length c, .int .i64 now] 34 (0, 0)) ∧ W.heap[w.heap.size + 1]? = some (.cells #[.int .i64 st, .slice ra rs.length rq, .slice wa ws.length wq] 38 (0, 0)) ∧ W.heap[w.heap.size + 1 + 1]? = some (.cells #[.int .i64 pk, .int .i64 pv] 54 (0, 0)) ∧ W.heap[w.heap.size + 1 + 1 + 1]? = some (.cells #[.int .i64 0, .slice none 0 0, .slice none 0 0] 38 (0, 0)) ∧ ChRow 0 W.heap.size W a l ∧ TxRow 0 W.heap.size W ra wa rs ws ∧ Below w.heap.size w W) := fun W h =>
    have hw := bV.trans (h.mono (by omega))
    ⟨(h.block _ (by omega)).trans c0, (h.block _ (by omega)).trans c1, (h.block _ (by omega)).trans c2, (h.block _ (by omega)).trans c3, ChRow.up hs hw, TxRow.up hr hw, hw⟩
  have HE : Hid (ChsBd 1048576 l) := hsb
  have HD : Hid (TxBd 1048576 rs ws) := hbd
  have HW0 : Hid (TxRow 0 w.heap.size w ra wa rs ws) := hr
  have x0 := fun o => row_cell c0 o
  have x1 := fun o => row_cell c1 o
  clear hs hr hbd hsb c0 c1 c2 c3 bV
  go_enter Try.func24, Try.ntmps24
  go_upto_region 1 with fail
  rw [← hV]
  clear hV
  go_wp2_with fail
  refine (spec_txnOK a ra wa c rq wq l now st rs ws _ (KV.out _ (Below.refl _ _)).2.2.2.2.1 HE.out (KV.out _ (Below.refl _ _)).2.2.2.2.2.1 HD.out hcap).mono ?_
  rintro e w1 ⟨rfl, hb1⟩
  have q1 : Hid (Below V.heap.size V w1) := hb1
  obtain ⟨t0, t1, t2, t3, t4, t5, t6⟩ := KV.out _ q1.out
  have xa1 := fun o => row_cell t0 o
  have xb1 := fun o => row_cell t1 o
  have yb1 := fun o => row_frozen t1 o
  have xp1 := fun o => row_cell t2 o
  have xc1 := fun o => row_cell t3 o
  have yc1 := fun o => row_frozen t3 o
  have B11 : Hid _ := t1
  have B31 : Hid _ := t3
  have TS1 : Hid (ChRow 0 w1.heap.size w1 a l) := t4
  have TT1 : Hid (TxRow 0 w1.heap.size w1 ra wa rs ws) := t5
  have TB1 : Hid (Below w.heap.size w w1) := t6
  have z1 := hb1.size
  clear t0 t1 t2 t3 t4 t5 t6 hb1
  clear x0 x1
  cases hS : txnB l now st rs ws
  · obtain ⟨_, rfl, rfl, rfl, rfl⟩ : txnB l now st rs ws = false ∧ st' = 0 ∧ rs' = [] ∧ ws' = [] ∧ cd = 1 := by
      rcases HI.out with h | ⟨h, _⟩ | ⟨h, _⟩ | ⟨h, _⟩
      · exact h
      all_goals rw [hS] at h; cases h
    clear HI hS
    go_wp2_with fail
    refine bodyPost_ret (v := .tuple #[.agg #[.int .i64 0, .slice none 0 0, .slice none 0 0], .int .i64 1]) (by simp [results, Try.results24, go_sem, xc1]) rfl ⟨⟨none, 0, none, 0, rfl, .inl rfl, .inl rfl⟩, ?_⟩
    repeat (refine Below.setCell ?_ (by first | omega | (simp <;> omega)) _)
    exact TB1.out
  have HS : Hid (txnB l now st rs ws = true) := hS
  have hal := txnB_all hS
  have hwl : ws.length ≤ 400 := (putsB_all hal.2.2.1).1
  have hrl := readsB_len hal.2.2.2
  clear hS hal
  obtain ⟨U, hU⟩ : ∃ x : World, x = w1.alloc (.cells #[.int .i64 pk, .int .i64 pv] 54) := ⟨_, rfl⟩
  have bU : Below w1.heap.size w1 U := by rw [hU]; exact (Below.refl _ _).alloc (Nat.le_refl _) _
  have cU : U.heap[w1.heap.size]? = some (.cells #[.int .i64 pk, .int .i64 pv] 54 (0, 0)) := by rw [hU]; exact heap_alloc_new _ _
  have zU := bU.size
  have rU : Hid (VeRow 0 U.heap.size U (some ⟨w1.heap.size, 0, none⟩) [⟨pk, pv⟩]) := .inr ⟨w1.heap.size, 0, rfl, Nat.zero_le _, (Array.getElem?_eq_some_iff.1 cU).1, fun i x hx => by
    have hi : i = 0 := by have := (List.getElem?_eq_some_iff.1 hx).1; simpa using this
    subst hi
    simp only [List.getElem?_cons_zero, Option.some.injEq] at hx
    subst hx
    rw [row_rd cU]
    exact ⟨rfl, rfl⟩⟩
  have QU : Hid (Below V.heap.size V U) := q1.out.trans (bU.mono (by have := q1.out.size; omega))
  have HU : Hid (U = w1.alloc (.cells #[.int .i64 pk, .int .i64 pv] 54)) := hU
  clear hU bU cU
  go_wp2_with fail
  rw [← HU.out]
  have hq := spec_puts (some ⟨w1.heap.size, 0, none⟩) 1 [⟨pk, pv⟩] _ rU.out (by simp)
  rw [puts_one, List.length_singleton] at hq
  refine hq.mono ?_
  clear hq
  rintro e w2 ⟨rfl, hb2⟩
  have q2 : Hid (Below V.heap.size V w2) := QU.out.trans (hb2.mono (by have := QU.out.size; omega))
  obtain ⟨t0, t1, t2, t3, t4, t5, t6⟩ := KV.out _ q2.out
  have xa2 := fun o => row_cell t0 o
  have xb2 := fun o => row_cell t1 o
  have yb2 := fun o => row_frozen t1 o
  have xp2 := fun o => row_cell t2 o
  have xc2 := fun o => row_cell t3 o
  have yc2 := fun o => row_frozen t3 o
  have B12 : Hid _ := t1
  have B32 : Hid _ := t3
  have TS2 : Hid (ChRow 0 w2.heap.size w2 a l) := t4
  have TT2 : Hid (TxRow 0 w2.heap.size w2 ra wa rs ws) := t5
  have TB2 : Hid (Below w.heap.size w w2) := t6
  have z2 := hb2.size
  clear t0 t1 t2 t3 t4 t5 t6 hb2
  clear xa1 xb1 yb1 xp1 xc1 yc1 HU rU
  cases hP : putB pk pv
  · obtain ⟨_, _, rfl, rfl, rfl, rfl⟩ : txnB l now st rs ws = true ∧ putB pk pv = false ∧ st' = 0 ∧ rs' = [] ∧ ws' = [] ∧ cd = 4 := by
      rcases HI.out with ⟨h, _⟩ | h | ⟨_, h, _⟩ | ⟨_, h, _⟩
      · rw [HS.out] at h; cases h
      · exact h
      all_goals rw [hP] at h; cases h
    clear HI hP
    go_wp2_with fail
    refine bodyPost_ret (v := .tuple #[.agg #[.int .i64 0, .slice none 0 0, .slice none 0 0], .int .i64 4]) (by simp [results, Try.results24, go_sem, xc2]) rfl ⟨⟨none, 0, none, 0, rfl, .inl rfl, .inl rfl⟩, ?_⟩
    repeat (refine Below.setCell ?_ (by first | omega | (simp <;> omega)) _)
    exact TB2.out
  by_cases h4 : ws.length = 400
  · obtain ⟨_, _, _, rfl, rfl, rfl, rfl⟩ : txnB l now st rs ws = true ∧ putB pk pv = true ∧ ws.length = 400 ∧ st' = st ∧ rs' = rs ∧ ws' = ws ∧ cd = 6 := by
      rcases HI.out with ⟨h, _⟩ | ⟨_, h, _⟩ | h | ⟨_, _, h, _⟩
      · rw [HS.out] at h; cases h
      · rw [hP] at h; cases h
      · exact h
      · exact absurd h4 h
    have h4' : ((ws'.length : Int) == 400) = true := by rw [h4]; rfl
    have HL : Hid (ws'.length = 400) := h4
    clear HI hP h4
    go_wp2_with fail
    have hq := spec_own ra wa rq wq st' rs' ws' _ TT2.out HD.out
    rw [HL.out] at hq
    refine hq.mono ?_
    clear hq h4' hwl
    rintro e w3 ⟨rv, wv, rfl, o3, hb3⟩
    obtain ⟨ra3, rq3, wa3, wq3, rfl, rfl, o4⟩ := o3.own
    have O4 : Hid (TxOwn w2.heap.size w3.heap.size w3 ra3 wa3 rs' ws') := o4
    have q3 : Hid (Below V.heap.size V w3) := q2.out.trans (hb3.mono (by omega))
    obtain ⟨t0, t1, t2, t3, t4, t5, t6⟩ := KV.out _ q3.out
    have xa3 := fun o => row_cell t0 o
    have xb3 := fun o => row_cell t1 o
    have yb3 := fun o => row_frozen t1 o
    have xp3 := fun o => row_cell t2 o
    have xc3 := fun o => row_cell t3 o
    have yc3 := fun o => row_frozen t3 o
    have B13 : Hid _ := t1
    have B33 : Hid _ := t3
    have TS3 : Hid (ChRow 0 w3.heap.size w3 a l) := t4
    have TT3 : Hid (TxRow 0 w3.heap.size w3 ra wa rs' ws') := t5
    have TB3 : Hid (Below w.heap.size w w3) := t6
    have z3 := hb3.size
    clear t0 t1 t2 t3 t4 t5 t6 hb3
    clear o3 o4 xa2 xb2 yb2 xp2 xc2 yc2
    go_wp2_with fail
    refine bodyPost_ret (v := .tuple #[.agg #[.int .i64 st', .slice ra3 rs'.length rq3, .slice wa3 ws'.length wq3], .int .i64 6]) (by first | (simp [results, Try.results24, go_sem, xc3]; done) | (simp [results, Try.results24, go_sem, xc3]; exact HL.out.symm)) rfl ⟨⟨ra3, rq3, wa3, wq3, rfl, ?_⟩, ?_⟩
    · refine TxOwn.wide (TxOwn.keep O4.out (fun k h1 h2 => ?_)) (Nat.zero_le _) (by simp)
      repeat rw [heap_set _ _ _ _ _ (by omega)]
    · repeat (refine Below.setCell ?_ (by first | omega | (simp <;> omega)) _)
      exact TB3.out
  · obtain ⟨_, _, _, rfl, rfl, rfl, rfl⟩ : txnB l now st rs ws = true ∧ putB pk pv = true ∧ ws.length ≠ 400 ∧ st' = st ∧ rs' = rs ∧ ws' = ws ++ [⟨pk, pv⟩] ∧ cd = 0 := by
      rcases HI.out with ⟨h, _⟩ | ⟨_, h, _⟩ | ⟨_, _, h, _⟩ | h
      · rw [HS.out] at h; cases h
      · rw [hP] at h; cases h
      · exact absurd h h4
      · exact h
    have h4' : ((ws.length : Int) == 400) = false := by simp; omega
    clear HI hP h4
    go_wp2_with fail
    refine (spec_own ra wa rq wq st' rs' ws _ TT2.out HD.out).mono ?_
    rintro e w3 ⟨rv, wv, rfl, o3, hb3⟩
    obtain ⟨ra3, rq3, wa3, wq3, rfl, rfl, o4⟩ := o3.own
    have O3 : Hid (TxO w2.heap.size w3 (.slice ra3 rs'.length rq3) (.slice wa3 ws.length wq3) rs' ws) := o3
    have q3 : Hid (Below V.heap.size V w3) := q2.out.trans (hb3.mono (by omega))
    obtain ⟨t0, t1, t2, t3, t4, t5, t6⟩ := KV.out _ q3.out
    have xa3 := fun o => row_cell t0 o
    have xb3 := fun o => row_cell t1 o
    have yb3 := fun o => row_frozen t1 o
    have xp3 := fun o => row_cell t2 o
    have xc3 := fun o => row_cell t3 o
    have yc3 := fun o => row_frozen t3 o
    have B13 : Hid _ := t1
    have B33 : Hid _ := t3
    have TS3 : Hid (ChRow 0 w3.heap.size w3 a l) := t4
    have TT3 : Hid (TxRow 0 w3.heap.size w3 ra wa rs' ws) := t5
    have TB3 : Hid (Below w.heap.size w w3) := t6
    have z3 := hb3.size
    clear t0 t1 t2 t3 t4 t5 t6 hb3
    clear o3 o4 xa2 xb2 yb2 xp2 xc2 yc2
    go_upto_region 8 with fail
    obtain ⟨U2, hU2⟩ : ∃ x : World, x = ((w3.setCell ⟨w.heap.size + 1, 0, none⟩ (.int .i64 st')).setCell ⟨w.heap.size + 1, 1, none⟩ (.slice ra3 rs'.length rq3)).setCell ⟨w.heap.size + 1, 2, none⟩ (.slice wa3 ws.length wq3) := ⟨_, rfl⟩
    rw [← hU2]
    have zU2 : w3.heap.size ≤ U2.heap.size := by rw [hU2]; simp
    have oU2 : ∀ k, k ≠ w.heap.size + 1 → U2.heap[k]? = w3.heap[k]? := fun k hk => by rw [hU2, heap_set _ _ _ _ _ hk, heap_set _ _ _ _ _ hk, heap_set _ _ _ _ _ hk]
    have u1 : U2.heap[w.heap.size + 1]? = some (.cells #[.int .i64 st', .slice ra3 rs'.length rq3, .slice wa3 ws.length wq3] 38 (0, 0)) := by
      have h1 := row_set (row_set (row_set B13.out 0 (.int .i64 st')) 1 (.slice ra3 rs'.length rq3)) 2 (.slice wa3 ws.length wq3)
      rw [hU2]; simpa using h1
    have t6 := KV.out _ q3.out
    have u2 := (oU2 (w.heap.size + 1 + 1) (by omega)).trans t6.2.2.1
    have u3 := (oU2 (w.heap.size + 1 + 1 + 1) (by omega)).trans t6.2.2.2.1
    have BU2 : Below w.heap.size w U2 := by
      rw [hU2]
      repeat (refine Below.setCell ?_ (by first | omega | (simp <;> omega)) _)
      exact TB3.out
    have z3' := q3.out.size
    have OU2 : TxO (w.heap.size + 4) U2 (.slice ra3 rs'.length rq3) (.slice wa3 ws.length wq3) rs' ws := TxO.low (TxO.move O3.out (fun k h1 h2 => oU2 k (by omega))) (by omega)
    clear t6 hU2 oU2 O3 xa3 xb3 yb3 xp3 xc3 yc3 B13 B33 TS3 TT3 TB3
    obtain ⟨U3, hU3⟩ : ∃ x : World, x = U2.alloc (.cells #[.int .i64 pk, .int .i64 pv] 54) := ⟨_, rfl⟩
    have b3 : Below U2.heap.size U2 U3 := by rw [hU3]; exact (Below.refl _ _).alloc (Nat.le_refl _) _
    have cU3 : U3.heap[U2.heap.size]? = some (.cells #[.int .i64 pk, .int .i64 pv] 54 (0, 0)) := by rw [hU3]; exact heap_alloc_new _ _
    have zU3 := b3.size
    obtain ⟨g4, k4, W4, hrun, o4, gr4, hg4⟩ := app_put3 ws ⟨pk, pv⟩ (.slice wa3 ws.length wq3) (w.heap.size + 4) U2.heap.size U3 (own_below OU2.2 b3) cU3 (by omega) (by omega)
    have hsep : ∀ g, (Value.slice wa3 ws.length wq3).ownBlock = some g → w.heap.size + 4 ≤ g := fun g e => (own_lt3 OU2.2 g e).1
    have kept : ∀ g, g < w.heap.size + 4 → W4.heap[g]? = U2.heap[g]? := fun g hg => (gr4.block g (by omega) (fun e => by have := hsep g e.symm; omega)).trans (b3.block g (by omega))
    have v1 := (kept (w.heap.size + 1) (by omega)).trans u1
    have v3 := (kept (w.heap.size + 1 + 1 + 1) (by omega)).trans u3
    have x4 := fun o => row_cell v1 o
    have y4 := fun o => row_frozen v1 o
    have x5 := fun o => row_cell v3 o
    have y5 := fun o => row_frozen v3 o
    have xu1 := fun o => row_cell u1 o
    have xu2 := fun o => row_cell u2 o
    have BW4 : Hid (Below w.heap.size w W4) := (BU2.trans (b3.mono (by omega))).grown gr4 (by have := BU2.size; omega) (fun g e => by have := hsep g e; omega)
    have O4W : Hid (W4.ownsRow (w.heap.size + 4) 54 2 (.slice (some ⟨g4, 0, none⟩) (ws.length + 1) k4) (ws ++ [(⟨pk, pv⟩ : Ve)]).length (veCells (ws ++ [⟨pk, pv⟩]))) := by rw [Hid]; simpa using o4
    have R4W : Hid (W4.ownsRow (w.heap.size + 4) 3 1 (.slice ra3 rs'.length rq3) rs'.length (nuV rs')) := own_set (own_below OU2.1 b3) (fun g hg => gr4.block g (own_lt3 (own_below OU2.1 b3) g hg).2 (fun e => by
      rcases (own_below OU2.1 b3).2 with ⟨e1, _⟩ | ⟨ga, ca, cua, ea, _, ha, _⟩
      · rw [e1] at hg; cases hg
      · rw [ea] at hg
        simp only [Value.ownBlock, Option.some.injEq] at hg
        subst hg
        rcases (own_below OU2.2 b3).2 with ⟨e2, _⟩ | ⟨gb, cb, cub, eb, _, hb, _⟩
        · rw [e2] at e; cases e
        · rw [eb] at e
          simp only [Value.ownBlock, Option.some.injEq] at e
          subst e
          rw [ha] at hb
          simp at hb))
    have HRUN : Hid _ := hrun
    have HU3 : Hid (U3 = U2.alloc (.cells #[.int .i64 pk, .int .i64 pv] 54)) := hU3
    have hz4 := gr4.size
    clear hU3 b3 cU3 hrun o4 gr4 hsep kept v1 v3 u1 u2 u3 OU2 BU2
    go_wp2_with (first | (at_builtin; rw [← HU3.out]; refine wpList_append_run rfl _ _ _ rfl _ _ _ _ rfl rfl HRUN.out ?_) | fail)
    refine bodyPost_ret (v := .tuple #[.agg #[.int .i64 st', .slice ra3 rs'.length rq3, .slice (some ⟨g4, 0, none⟩) (ws.length + 1) k4], .int .i64 0]) (by simp [results, Try.results24, go_sem, x5]) rfl ⟨⟨ra3, rq3, some ⟨g4, 0, none⟩, k4, by simp, ?_⟩, ?_⟩
    · have mv : ∀ {W' : World}, (∀ k, w.heap.size + 4 ≤ k → W'.heap[k]? = W4.heap[k]?) → W'.heap.size = W4.heap.size → TxOwn 0 W'.heap.size W' ra3 (some ⟨g4, 0, none⟩) rs' (ws ++ [⟨pk, pv⟩]) := fun {W'} hk hs => by
        have h1 : TxO (w.heap.size + 4) W' (.slice ra3 rs'.length rq3) (.slice (some ⟨g4, 0, none⟩) (ws.length + 1) k4) rs' (ws ++ [⟨pk, pv⟩]) := TxO.move ⟨R4W.out, O4W.out⟩ (fun k h1 _ => hk k h1)
        obtain ⟨r1, r2, a1, a2, e1, e2, h3⟩ := h1.own
        simp only [Value.slice.injEq] at e1 e2
        rw [e1.1, e2.1]
        exact TxOwn.wide h3 (Nat.zero_le _) (Nat.le_refl _)
      refine mv (fun k hk => ?_) (by simp)
      repeat rw [heap_set _ _ _ _ _ (by omega)]
    · repeat (refine Below.setCell ?_ (by first | omega | (simp <;> omega)) _)
      exact BW4.out
end Go.Proofs.Ytgffplbcpofkmaa.G
