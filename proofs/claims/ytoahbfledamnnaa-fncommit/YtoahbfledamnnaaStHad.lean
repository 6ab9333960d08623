/- Stores that a call owns or that are empty: marks in them. -/
import Derived.Test.YtoahbfledamnnaaStWaImpl
import Derived.Test.YtoahbfledamnnaaStWrJ
import Derived.BigQuiet
import Derived.Test.YtoahbfledamnnaaStKids
import Derived.Deep.CutBlock
import Derived.Deep.CutRange
import Derived.Test.YtoahbfledamnnaaStFgMath
namespace Go.Proofs.Ytoahbfledamnnaa.G
open Go.ChangeShapes Go.WideShapes Go.ChangeAt Go.RowKit
set_option linter.unusedVariables false

theorem own_cap {base b c n : Nat} {w : World} {x : List Ve} (h : w.ownsRow base 61 2 (.slice (some ⟨b, 0, none⟩) n c) x.length (veCells x)) : n = x.length ∧ base ≤ b ∧ x.length ≤ c ∧ c ≤ maxLen ∧ ∃ cur, w.heap[b]? = some (.cells cur 61 (0, 0)) ∧ cur.size = c * 2 ∧ cur.toList.take (x.length * 2) = veCells x := by
  rcases h.2 with ⟨e, h0⟩ | ⟨g', cap, cur, e, h1, h2, h3, h4, h5, h6⟩
  · cases e
  · simp only [Value.slice.injEq, Option.some.injEq, Addr.mk.injEq, and_true] at e
    obtain ⟨rfl, e2, rfl⟩ := e
    exact ⟨e2, h1, h3, h4, cur, h2, h5, h6⟩
theorem veCells_snoc (x : List Ve) (p : Ve) : veCells (x ++ [p]) = veCells x ++ [.int .i64 p.ts, .int .i64 p.v] := by simp [veCells]
/-- The last version overwritten. -/
theorem put_last {cur : Array Value} {x : List Ve} {c n : Nat} {t v : Int} (hs : cur.size = c * 2) (hc : x.length ≤ c) (hn : x.length = n + 1) (h6 : cur.toList.take (x.length * 2) = veCells x) :
    ((cur.setIfInBounds (n * 2) (.int .i64 t)).setIfInBounds (n * 2 + 1) (.int .i64 v)).toList.take ((x.take n ++ [(⟨t, v⟩ : Ve)]).length * 2) = veCells (x.take n ++ [⟨t, v⟩]) := by
  have e : x = x.take n ++ [x[n]'(by omega)] := by rw [← List.take_succ_eq_append_getElem, List.take_of_length_le (by omega)]
  have hv : veCells x = veCells (x.take n) ++ [.int .i64 (x[n]'(by omega)).ts, .int .i64 (x[n]'(by omega)).v] := by
    conv => lhs; rw [e]
    rw [veCells_snoc]
  have hl : (veCells (x.take n)).length = n * 2 := by rw [veCells_len]; simp; omega
  have h7 : cur.toList.take (n * 2) = veCells (x.take n) := by
    have := congrArg (List.take (n * 2)) h6
    rw [List.take_take, Nat.min_eq_left (by omega), hv, List.take_append_of_le_length (by omega), List.take_of_length_le (l := veCells (x.take n)) (by omega)] at this
    exact this
  rw [veCells_snoc, ← h7]
  have hn2 : (x.take n ++ [(⟨t, v⟩ : Ve)]).length * 2 = n * 2 + 2 := by simp; omega
  rw [hn2]
  have hcs : n * 2 + 2 ≤ cur.toList.length := by simp; omega
  simp only [Array.toList_setIfInBounds]
  generalize cur.toList = L at *
  apply List.ext_getElem?
  intro i
  rw [List.getElem?_take]
  by_cases h1 : i < n * 2
  · rw [if_pos (by omega), List.getElem?_set_ne (by omega), List.getElem?_set_ne (by omega), List.getElem?_append_left (by simp; omega), List.getElem?_take, if_pos h1]
  · by_cases h2 : i = n * 2
    · subst h2
      rw [if_pos (by omega), List.getElem?_set_ne (by omega), List.getElem?_set_self (by omega), List.getElem?_append_right (by simp; omega)]
      have : n * 2 - (L.take (n * 2)).length = 0 := by simp; omega
      rw [this]; rfl
    · by_cases h3 : i = n * 2 + 1
      · subst h3
        rw [if_pos (by omega), List.getElem?_set_self (by simp; omega), List.getElem?_append_right (by simp; omega)]
        have : n * 2 + 1 - (L.take (n * 2)).length = 1 := by simp; omega
        rw [this]; rfl
      · rw [if_neg (by omega), List.getElem?_eq_none (by simp; omega)]
theorem wpList_app_run2 {P : Program} {ops : Array Oper} {rest : List Oper} {o : Oper} {a : Act} {Q : Exit → Act → World → Prop} {w : World} (hgd : o.guard = none) (s x : Operand) (t : TypeId)
    (ho : o.op = .call { callee := .builtin .append, args := #[s, x], argTypes := #[t, t] }) (sv xv rv : Value) (w' : World) (hs : a.eval s = sv) (hx : a.eval x = xv)
    (hr : (Builtin.append_ #[t, t] o.type #[sv, xv]).run P w = .ok rv w') (h : wpList P ops Q rest (a.put o.dst rv) w') : wpList P ops Q (o :: rest) a w := by
  refine wpList_plain hgd fun K hK => ?_
  unfold Oper.wp execOp
  simp only [ho, resolve, invoke, builtin, Sem.run_bind, Sem.run_pure, Result.andThen_ok, List.map_toArray, List.map_cons, List.map_nil, hs, hx, hr]
  exact hK _ _ h
theorem app_ver2 (xs : List Ve) (p : Ve) (v : Value) (base h : Nat) (W : World) (ho : W.ownsRow base 61 2 v xs.length (veCells xs)) (hu : W.heap[h]? = some (.cells #[.int .i64 p.ts, .int .i64 p.v] 61 (0, 0))) (hk : xs.length ≤ 1048576) (hb : base ≤ W.heap.size) :
    ∃ g cap W', (Builtin.append_ #[58, 58] 58 #[v, .slice (some ⟨h, 0, none⟩) 1 1]).run Try.prog W = .ok (.slice (some ⟨g, 0, none⟩) (xs.length + 1) cap) W' ∧ W'.ownsRow base 61 2 (.slice (some ⟨g, 0, none⟩) (xs.length + 1) cap) (xs.length + 1) (veCells (xs ++ [p])) ∧ W.grownBy W' v.ownBlock ∧ (v.ownBlock = some g ∨ g = W.heap.size) ∧ g < W'.heap.size := by
  obtain ⟨i, hi, hz, hsz, hby⟩ := info_Ve
  rw [veCells_snoc]
  exact run_append_lies (P := Try.prog) W 58 58 base 61 i _ 2 16 Try.underlying58 hi hz hsz hby rfl (by decide) v xs.length (veCells xs) ho ⟨h, 0, none⟩ 1 1 [.int .i64 p.ts, .int .i64 p.v] rfl (fun j x hx => by
    rw [add_plain]
    match j, hx with
    | 0, hx => simp only [List.getElem?_cons_zero, Option.some.injEq] at hx; subst hx; exact row_cell hu 0
    | 1, hx => simp only [List.getElem?_cons_succ, List.getElem?_cons_zero, Option.some.injEq] at hx; subst hx; exact row_cell hu 1) (fun x hx => by
      simp only [List.mem_cons, List.not_mem_nil, or_false] at hx
      rcases hx with rfl | rfl <;> rfl) (by omega) (by unfold maxLen; omega) (by omega) hb W.heap.size rfl
theorem grown_set2 {w W : World} {b o : Nat} {v : Value} (h : w.grownBy W (some b)) : w.grownBy (W.setCell ⟨b, o, none⟩ v) (some b) := by
  have hb : Below b W (W.setCell ⟨b, o, none⟩ v) := by
    refine Below.setCell (Below.refl _ _) ?_ _
    exact Nat.le_refl b
  exact ⟨hb.os.trans h.os, hb.tape.trans h.tape, hb.output.trans h.output, Nat.le_trans h.size hb.size, fun k h1 h2 => (heap_set _ _ _ _ _ (fun e => h2 (by rw [e]))).trans (h.block k h1 h2)⟩
theorem grown_both {a b c : World} {r : Option Nat} (h : a.grownBy b r) (g : b.grownBy c r) : a.grownBy c r :=
  ⟨g.os.trans h.os, g.tape.trans h.tape, g.output.trans h.output, Nat.le_trans h.size g.size, fun k hk hn => (g.block k (Nat.lt_of_lt_of_le hk h.size) hn).trans (h.block k hk hn)⟩
set_option maxHeartbeats 4000000 in
theorem put_version (b c lo : Nat) (x : List Ve) (t v : Int) (w : World) (ho : w.ownsRow lo 61 2 (.slice (some ⟨b, 0, none⟩) x.length c) x.length (veCells x)) (hl : x.length ≤ 1048000) (hlo : lo ≤ w.heap.size) :
    Calls Try.prog 26 #[.slice (some ⟨b, 0, none⟩) x.length c, .agg #[.int .i64 t, .int .i64 v]] w fun e w' =>
      ∃ b' c', e = .returned (.slice (some ⟨b', 0, none⟩) (wrC t x v).length c') ∧ w'.ownsRow lo 61 2 (.slice (some ⟨b', 0, none⟩) (wrC t x v).length c') (wrC t x v).length (veCells (wrC t x v)) ∧ (b' = b ∨ w.heap.size ≤ b') ∧ b' < w'.heap.size ∧ w.grownBy w' (some b) := by
  obtain ⟨V, hV⟩ : ∃ V, V = w.alloc (.cells #[.int .i64 t, .int .i64 v] 61) := ⟨_, rfl⟩
  have bV : Below w.heap.size w V := by rw [hV]; exact (Below.refl _ _).alloc (Nat.le_refl _) _
  have zV : V.heap.size = w.heap.size + 1 := by rw [hV]; simp
  have cV : V.heap[w.heap.size]? = some (.cells #[.int .i64 t, .int .i64 v] 61 (0, 0)) := by rw [hV]; exact heap_alloc_new _ _
  have hbl : b < w.heap.size := own_lt2 ho b rfl
  have OV : V.ownsRow lo 61 2 (.slice (some ⟨b, 0, none⟩) x.length c) x.length (veCells x) := own_below ho bV
  obtain ⟨_, hb0, hc0, hcm, cur, hcur, hcs, htake⟩ := own_cap OV
  have HV0 := (blk_of OV).2
  have x3 := fun o => row_cell cV o
  have GV : Hid (∀ W, Below V.heap.size V W → w.grownBy W (some b) ∧ W.heap[w.heap.size]? = some (.cells #[.int .i64 t, .int .i64 v] 61 (0, 0)) ∧ W.heap[b]? = some (.cells cur 61 (0, 0)) ∧ V.heap.size ≤ W.heap.size) := fun W h =>
    ⟨grown_below (grown_refl _ _) (bV.trans (h.mono (by omega))), (h.block _ (by omega)).trans cV, (h.block _ (by omega)).trans hcur, h.size⟩
  go_enter Try.func26, Try.ntmps26
  go_wp2_with fail
  rw [← hV]
  clear hV
  by_cases hc : 0 < x.length ∧ tsAt x (x.length - 1) = t
  · obtain ⟨n, hn⟩ : ∃ n, x.length = n + 1 := ⟨x.length - 1, by omega⟩
    have hnl : n < x.length := by omega
    obtain ⟨b2, o2, ha2, _, _, f0, f1⟩ := VeRow.cells (VeBlk.row HV0 (Nat.zero_le _) HV0.lt) n hnl
    simp only [Option.some.injEq, Addr.mk.injEq, and_true] at ha2
    obtain ⟨rfl, rfl⟩ := ha2
    have hts : x[n].ts = t := by have := hc.2; rw [show x.length - 1 = n by omega, tsAt_eq hnl] at this; exact this
    rw [hts] at f0
    have HW : Hid (wrC t x v = x.take n ++ [⟨t, v⟩]) := by rw [Hid, wrC, cutC, if_pos hc, show x.length - 1 = n by omega]
    have HL : Hid ((wrC t x v).length = n + 1) := by rw [HW.out]; simp [Hid]; omega
    have HP : Hid _ := put_last (t := t) (v := v) hcs hc0 hn htake
    have hpos : (0 : Int) < x.length := by omega
    have e1 : (x.length : Int) - 1 = n := by omega
    have e2 : (n : Int) < x.length := by omega
    have hfz := fun o => row_frozen hcur o
    have g0 : V.cell? ⟨b, n * 2, none⟩ = some (.int .i64 t) := by simpa using f0
    have g1 : V.cell? ⟨b, n * 2 + 1, none⟩ = some (.int .i64 x[n].v) := by simpa using f1
    have hcx : cur[n * 2]? = some (.int .i64 t) := by rw [← row_cell hcur]; simpa using f0
    have hcy : cur[n * 2 + 1]? = some (.int .i64 x[n].v) := by rw [← row_cell hcur]; simpa using f1
    have hd : decide (0 < x.length) = true := decide_eq_true (by omega)
    have HN : Hid _ := hn
    have hwn : IntKind.i64.wrap (n : Int) = n := wrap_small _ (by omega) (by omega)
    clear hc hn htake hpos f0 f1
    go_quiet (fail)
    obtain ⟨U, hU⟩ : ∃ x, x = V.drewN nq := ⟨_, rfl⟩
    rw [← hU]
    have bU : Below V.heap.size V U := by rw [hU]; exact below_drewN (Below.refl _ _) _
    obtain ⟨gU, dU, eU, zU⟩ := GV.out _ bU
    have u3 := fun o => row_cell dU o
    have ub := fun o => row_cell eU o
    have fb := fun o => row_frozen eU o
    have ub0 := (ub (n * 2)).trans hcx
    have ub1 := (ub (n * 2 + 1)).trans hcy
    clear hU x3 hfz g0 g1 ub
    go_wp2_with fail
    go_ret
    refine ⟨b, c, by rw [HL.out, ← HN.out]; rfl, ownVe (l := wrC t x v) hb0 (row_set (row_set eU _ _) _ _) (by rw [HL.out]; omega) hcm (by simp [hcs]) (by rw [HW.out]; exact HP.out), .inl rfl, by simp; omega, grown_set2 (grown_set2 gU)⟩
  · have HW : Hid (wrC t x v = x ++ [⟨t, v⟩]) := by rw [Hid, wrC, cutC, if_neg hc]
    have HL : Hid ((wrC t x v).length = x.length + 1) := by rw [HW.out]; simp [Hid]
    have HF : Hid (∀ W, Below V.heap.size V W → ∃ b' c' W', (Builtin.append_ #[58, 58] 58 #[.slice (some ⟨b, 0, none⟩) x.length c, .slice (some ⟨W.heap.size, 0, none⟩) 1 1]).run Try.prog (W.alloc (.cells #[.int .i64 t, .int .i64 v] 61)) = .ok (.slice (some ⟨b', 0, none⟩) (x.length + 1) c') W' ∧ W'.ownsRow lo 61 2 (.slice (some ⟨b', 0, none⟩) (wrC t x v).length c') (wrC t x v).length (veCells (wrC t x v)) ∧ (b' = b ∨ w.heap.size ≤ b') ∧ b' < W'.heap.size ∧ w.grownBy W' (some b)) := fun W hW => by
      have hz := hW.size
      have bA : Below W.heap.size W (W.alloc (.cells #[.int .i64 t, .int .i64 v] 61)) := (Below.refl _ _).alloc (Nat.le_refl _) _
      have zA : (W.alloc (.cells #[.int .i64 t, .int .i64 v] 61)).heap.size = W.heap.size + 1 := by simp
      obtain ⟨b', c', W', h1, h2, h3, h5, h4⟩ := app_ver2 x ⟨t, v⟩ (.slice (some ⟨b, 0, none⟩) x.length c) lo W.heap.size _ (own_below (own_below OV hW) bA) (heap_alloc_new _ _) (by omega) (by omega)
      have hg0 : w.grownBy (W.alloc (.cells #[.int .i64 t, .int .i64 v] 61)) (some b) := grown_below (GV.out _ hW).1 bA
      refine ⟨b', c', W', h1, by rw [HL.out, HW.out]; simpa using h2, ?_, h4, grown_both hg0 h3⟩
      rcases h5 with h5 | h5
      · simp only [Value.ownBlock, Option.some.injEq] at h5
        exact .inl h5.symm
      · rw [zA] at h5
        exact .inr (by omega)
    have fin : ∀ U, Below V.heap.size V U → ∃ b' c' W', Hid ((Builtin.append_ #[58, 58] 58 #[.slice (some ⟨b, 0, none⟩) x.length c, .slice (some ⟨U.heap.size, 0, none⟩) 1 1]).run Try.prog (U.alloc (.cells #[.int .i64 t, .int .i64 v] 61)) = .ok (.slice (some ⟨b', 0, none⟩) (x.length + 1) c') W') ∧ Hid (W'.ownsRow lo 61 2 (.slice (some ⟨b', 0, none⟩) (wrC t x v).length c') (wrC t x v).length (veCells (wrC t x v)) ∧ (b' = b ∨ w.heap.size ≤ b') ∧ b' < W'.heap.size ∧ w.grownBy W' (some b)) := fun U hU => by
      obtain ⟨b', c', W', h1, h2⟩ := HF.out U hU
      exact ⟨b', c', W', h1, h2⟩
    have FIN : Hid _ := fin
    clear fin HF
    by_cases h0 : 0 < x.length
    · obtain ⟨n, hn⟩ : ∃ n, x.length = n + 1 := ⟨x.length - 1, by omega⟩
      have hnl : n < x.length := by omega
      obtain ⟨b2, o2, ha2, _, _, f0, f1⟩ := VeRow.cells (VeBlk.row HV0 (Nat.zero_le _) HV0.lt) n hnl
      simp only [Option.some.injEq, Addr.mk.injEq, and_true] at ha2
      obtain ⟨rfl, rfl⟩ := ha2
      have hts : ¬ x[n].ts = t := fun e => hc ⟨h0, by rw [show x.length - 1 = n by omega, tsAt_eq hnl]; exact e⟩
      have g0 : V.cell? ⟨b, n * 2, none⟩ = some (.int .i64 x[n].ts) := by simpa using f0
      have e1 : (x.length : Int) - 1 = n := by omega
      have e2 : (n : Int) < x.length := by omega
      have hd : decide (0 < x.length) = true := decide_eq_true (by omega)
      have hde : (x[n].ts == t) = false := by simpa using hts
      have hwn : IntKind.i64.wrap (n : Int) = n := wrap_small _ (by omega) (by omega)
      clear hc hn htake f0 f1 h0
      go_quiet (fail)
      obtain ⟨U, hU⟩ : ∃ x, x = V.drewN nq := ⟨_, rfl⟩
      rw [← hU]
      have bU : Below V.heap.size V U := by rw [hU]; exact below_drewN (Below.refl _ _) _
      obtain ⟨gU, dU, eU, zU⟩ := GV.out _ bU
      have u3 := fun o => row_cell dU o
      obtain ⟨b', c', W', HRUN, HRES⟩ := FIN.out U bU
      clear hU x3 g0
      go_wp2_with (first | (at_builtin; refine wpList_app_run2 rfl _ _ _ rfl _ _ _ _ rfl rfl HRUN.out ?_) | fail)
      go_ret
      exact ⟨b', c', by rw [HL.out]; rfl, HRES.out⟩
    · have hd : decide (0 < x.length) = false := decide_eq_false h0
      clear hc htake h0
      go_quiet (fail)
      obtain ⟨U, hU⟩ : ∃ x, x = V.drewN nq := ⟨_, rfl⟩
      rw [← hU]
      have bU : Below V.heap.size V U := by rw [hU]; exact below_drewN (Below.refl _ _) _
      obtain ⟨gU, dU, eU, zU⟩ := GV.out _ bU
      have u3 := fun o => row_cell dU o
      obtain ⟨b', c', W', HRUN, HRES⟩ := FIN.out U bU
      clear hU x3
      go_wp2_with (first | (at_builtin; refine wpList_app_run2 rfl _ _ _ rfl _ _ _ _ rfl rfl HRUN.out ?_) | fail)
      go_ret
      exact ⟨b', c', by rw [HL.out]; rfl, HRES.out⟩
end Go.Proofs.Ytoahbfledamnnaa.G
namespace Go.Proofs.Ytoahbfledamnnaa.G
open Go.ChangeShapes Go.WideShapes Go.ChangeAt Go.RowKit
set_option linter.unusedVariables false

/-- One chain written: the row's cell is another one, the chain's block is its own or a new one. -/
theorem StP.put {lo : Nat} {w W : World} {g : Nat} {l : Chs} {bs : Nat → Nat} {q : Nat} {y : List Ve} {b' c' : Nat} (h : StP lo w g l bs) (hq : q < l.length) (hgr : w.grownBy W (some (bs q))) (ho : W.ownsRow lo 61 2 (.slice (some ⟨b', 0, none⟩) y.length c') y.length (veCells y)) (hb : b' = bs q ∨ w.heap.size ≤ b') (hlt : b' < W.heap.size) :
    StP lo (W.setCell ⟨g, q, none⟩ (.slice (some ⟨b', 0, none⟩) y.length c')) g (l.set q y) (bput bs q b') := by
  obtain ⟨cur, h1, h2, h3, h4, h5⟩ := h
  have hgl := (Array.getElem?_eq_some_iff.1 h1).1
  obtain ⟨cq, k1, k2, k3, k4, k5⟩ := h4 q _ (List.getElem?_eq_getElem hq)
  have hW : W.heap[g]? = some (.cells cur 58 (0, 0)) := (hgr.block g hgl (by simp only [ne_eq, Option.some.injEq]; exact fun e => k3 e.symm)).trans h1
  have hset := row_set hW q (.slice (some ⟨b', 0, none⟩) y.length c')
  have hb'g : b' ≠ g := by rcases hb with e | e <;> omega
  have hzs := hgr.size
  refine ⟨_, hset, h2, by simp; omega, fun i x hx => ?_, fun i j hi hj hij => ?_⟩
  · have hi : i < l.length := by have := (List.getElem?_eq_some_iff.1 hx).1; simpa using this
    by_cases hiq : i = q
    · subst hiq
      rw [List.getElem?_set_self hi] at hx
      simp only [Option.some.injEq] at hx
      subst hx
      rw [bput_at]
      have hc : i < cur.size := by omega
      refine ⟨c', by simp [hc], (own_cap ho).2.1, hb'g, by simpa using hlt, own_set ho (fun b hb => ?_)⟩
      simp only [Value.ownBlock, Option.some.injEq] at hb
      subst hb
      exact heap_set _ _ _ _ _ hb'g
    · rw [List.getElem?_set_ne (Ne.symm hiq)] at hx
      obtain ⟨c, g1, g2, g3, g4, g5⟩ := h4 i x hx
      rw [bput_ne _ _ _ hiq]
      refine ⟨c, by rw [Array.getElem?_setIfInBounds_ne (Ne.symm hiq)]; exact g1, g2, g3, by simp; omega, own_set g5 (fun b hb => ?_)⟩
      simp only [Value.ownBlock, Option.some.injEq] at hb
      subst hb
      rw [heap_set _ _ _ _ _ g3]
      exact hgr.block _ g4 (by simp only [ne_eq, Option.some.injEq]; exact h5 i q hi hq hiq)
  · have hi' : i < l.length := by simpa using hi
    have hj' : j < l.length := by simpa using hj
    have far : ∀ m, m < l.length → m ≠ q → bs m ≠ b' := fun m hm hmq => by
      obtain ⟨c, g1, g2, g3, g4, g5⟩ := h4 m _ (List.getElem?_eq_getElem hm)
      have := h5 m q hm hq hmq
      rcases hb with e | e <;> omega
    by_cases hiq : i = q
    · subst hiq; rw [bput_at, bput_ne _ _ _ (Ne.symm hij)]; exact (far j hj' (Ne.symm hij)).symm
    · by_cases hjq : j = q
      · subst hjq; rw [bput_ne _ _ _ hiq, bput_at]; exact far i hi' hiq
      · rw [bput_ne _ _ _ hiq, bput_ne _ _ _ hjq]; exact h5 i j hi' hj' hij
/-- Where the region stands: 15 is the call that writes the chain. -/
structure PvJ (lo b : Nat) (W0 : World) (y : List Ve) (L : Array Bool) (u : Nat → Value) (W : World) : Prop where
  grown : W0.grownBy W (some b)
  old : L.getD 15 false = false → Below W0.heap.size W0 W
  new : L.getD 15 false = true → ∃ b' c', u 66 = .slice (some ⟨b', 0, none⟩) y.length c' ∧ W.ownsRow lo 61 2 (.slice (some ⟨b', 0, none⟩) y.length c') y.length (veCells y) ∧ (b' = b ∨ W0.heap.size ≤ b') ∧ b' < W.heap.size
theorem PvJ.step {lo b : Nat} {W0 : World} {y : List Ve} {L : Array Bool} {u : Nat → Value} {W : World} (h : PvJ lo b W0 y L u W) {i d : Nat} {val : Value} (hi : i ≠ 15) (hd : d ≠ 66) : PvJ lo b W0 y (L.setIfInBounds i true) (upd u d val) W := by
  refine ⟨h.grown, fun h1 => ?_, fun h1 => ?_⟩
  · rw [getD_set_ne false hi] at h1; exact h.old h1
  · rw [getD_set_ne false hi] at h1; rw [upd_ne _ _ (Ne.symm hd)]; exact h.new h1
theorem PvJ.start {lo b : Nat} {W0 : World} {y : List Ve} {n : Nat} {u : Nat → Value} : PvJ lo b W0 y (Array.replicate n false) u W0.drew := by
  refine ⟨grown_below (grown_refl _ _) (Below.refl _ _).drew, fun _ => (Below.refl _ _).drew, fun h => ?_⟩
  exfalso
  by_cases hx : 15 < n
  · simp [hx] at h
  · simp [hx] at h
/-- What each operation of the writing tells. -/
def PvV (N M g cap n q b c x : Nat) (t v : Int) : Nat → Value → World → Prop
  | 0, y, _ => y = .pointer (some ⟨N, 0, none⟩)
  | 1, y, _ => y = .slice (some ⟨g, 0, none⟩) n cap
  | 2, y, _ => y = .pointer (some ⟨M, 0, none⟩)
  | 3, y, _ => y = .int .i64 q
  | 4, y, _ => y = .pointer (some ⟨N, 0, none⟩)
  | 5, y, _ => y = .slice (some ⟨g, 0, none⟩) n cap
  | 6, y, _ => y = .pointer (some ⟨M, 0, none⟩)
  | 7, y, _ => y = .int .i64 q
  | 8, y, _ => y = .pointer (some ⟨g, q, none⟩)
  | 9, y, _ => y = .slice (some ⟨b, 0, none⟩) x c
  | 10, y, _ => y = .pointer (some ⟨N, 1, none⟩)
  | 11, y, _ => y = .int .i64 t
  | 12, y, _ => y = .pointer (some ⟨M, 1, none⟩)
  | 13, y, _ => y = .int .i64 v
  | 14, y, _ => y = .agg #[.int .i64 t, .int .i64 v]
  | 15, _, _ => True
  | _, y, _ => y = .pointer (some ⟨g, q, none⟩)
theorem PvV.up {N M g cap n q b c x : Nat} {t v : Int} {W W' : World} {i : Nat} {y : Value} (h : PvV N M g cap n q b c x t v i y W) : PvV N M g cap n q b c x t v i y W' := by
  unfold PvV at h ⊢
  split at h <;> exact h
set_option maxHeartbeats 8000000 in
set_option maxRecDepth 40000 in
theorem impl_wa_some (a pa : Option Addr) (c pc : Nat) (l : Chs) (ps : List Ve) (now : Int) (w : World) (hr : ChRow 0 w.heap.size w a l) (hp : VeRow 0 w.heap.size w pa ps) (hbd : ChsBd 1048576 l) (hpl : ps.length ≤ 1048576) (h0 : 0 < ps.length) (h1 : ps.length ≤ 4096) (h2 : storeB l now = true) (h3 : putsB ps = true) (h4 : now ≠ 100000) :
    Calls Try.prog 7 #[.agg #[.slice a l.length c, .int .i64 now], .slice pa ps.length pc] w fun e w' => ∃ g bs, e = .returned (.tuple #[.agg #[.slice (some ⟨g, 0, none⟩) l.length l.length, .int .i64 (now + 1)], .int .i64 (now + 1), .int .i64 0]) ∧ StP w.heap.size w' g (wrAll (now + 1) l ps) bs ∧ Below w.heap.size w w' := by
  have h4' : (now == 100000) = false := by simpa using h4
  have hnow : 0 ≤ now ∧ now ≤ 100000 := ⟨(storeB_all h2).2.1, (storeB_all h2).2.2.1⟩
  have H16 : Hid (l.length = 16) := (storeB_all h2).1
  have HBD : Hid (∀ x ∈ l, x.length ≤ 100000) := fun x hx => by have := storeB_bd h2 x hx; omega
  have HKEY : Hid (∀ i (h : i < ps.length), 0 ≤ ps[i].ts ∧ ps[i].ts < 16) := fun i h => putB_key ((putsB_all h3).2 ps[i] (List.getElem_mem h))
  clear h4
  have HR : Hid (∀ W0, Below w.heap.size w W0 → ChRow 0 W0.heap.size W0 a l) := fun W0 hB => ChRow.up hr hB
  have HP : Hid (∀ W0, Below w.heap.size w W0 → VeRow 0 W0.heap.size W0 pa ps) := fun W0 hB => VeRow.up hp hB
  have HE : Hid _ := hbd
  clear hr hp hbd
  obtain ⟨V, hV⟩ : ∃ V, V = (w.alloc (.cells #[.slice a l.length c, .int .i64 now] 25)).alloc (.cells #[.slice none 0 0, .int .i64 0] 25) := ⟨_, rfl⟩
  have bV : Below w.heap.size w V := by
    rw [hV]
    repeat (first | exact Below.refl _ _ | refine Below.alloc ?_ (by first | omega | (simp <;> omega)) _)
  have zV : V.heap.size = w.heap.size + 2 := by rw [hV]; simp
  have c0 : V.heap[w.heap.size]? = some (.cells #[.slice a l.length c, .int .i64 now] 25 (0, 0)) := by
    rw [hV, Below.heap_alloc _ _ _ (by simp)]; exact heap_alloc_new _ _
  have c1 : V.heap[w.heap.size + 1]? = some (.cells #[.slice none 0 0, .int .i64 0] 25 (0, 0)) := by
    rw [hV]
    have := heap_alloc_new (w.alloc (.cells #[.slice a l.length c, .int .i64 now] 25)) (.cells #[.slice none 0 0, .int .i64 0] 25)
    simpa using this
  have KV : Hid (∀ W, Below V.heap.size V W → W.heap[w.heap.size]? = some (.cells #[.slice a l.length c, .int .i64 now] 25 (0, 0)) ∧ W.heap[w.heap.size + 1]? = some (.cells #[.slice none 0 0, .int .i64 0] 25 (0, 0)) ∧ Below w.heap.size w W) := fun W h =>
    ⟨(h.block _ (by omega)).trans c0, (h.block _ (by omega)).trans c1, bV.trans (h.mono (by omega))⟩
  have BV : Hid _ := bV
  have x0 := fun o => row_cell c0 o
  have x1 := fun o => row_cell c1 o
  have y1 := fun o => row_frozen c1 o
  clear c0 c1 bV
  go_enter Try.func7, Try.ntmps7
  go_upto_block 1 with fail
  rw [← hV]
  clear hV
  have h1' : ¬ (4096 : Int) < ps.length := by omega
  have h0' : ((ps.length : Int) == 0) = false := by simp; intro e; rw [e] at h0; simp at h0
  have H2 : Hid _ := h2
  have H3 : Hid _ := h3
  clear h2 h3
  go_wp2_with fail
  refine (impl_storeOK a c l now _ (HR.out _ BV.out) HE.out).mono ?_
  rintro e w1 ⟨rfl, hb1⟩
  rw [H2.out]
  have q1 : Hid (Below V.heap.size V w1) := hb1
  have x1 := fun o => row_cell (KV.out _ q1.out).1 o
  have r1 := fun o => row_cell (KV.out _ q1.out).2.1 o
  have y1 := fun o => row_frozen (KV.out _ q1.out).2.1 o
  have z1 := hb1.size
  clear hb1
  clear x0 x1 y1
  go_wp2_with fail
  refine (impl_putsOK pa pc ps _ (HP.out _ (KV.out _ q1.out).2.2) hpl).mono ?_
  rintro e w2 ⟨rfl, hb2⟩
  rw [H3.out]
  have q2 : Hid (Below V.heap.size V w2) := q1.out.trans (hb2.mono (by omega))
  have x2 := fun o => row_cell (KV.out _ q2.out).1 o
  have r2 := fun o => row_cell (KV.out _ q2.out).2.1 o
  have y2 := fun o => row_frozen (KV.out _ q2.out).2.1 o
  have z2 := hb2.size
  clear hb2
  clear r1 y1 x1
  go_wp2_with fail
  refine (impl_copyStore a c l now _ (HR.out _ (KV.out _ q2.out).2.2) HE.out).mono ?_
  rintro e w3 ⟨g, bs, rfl, p3, hb3⟩
  have P3 : Hid (StP w2.heap.size w3 g l bs) := p3
  clear p3
  have hb3' : Hid _ := hb3
  have q3 : Hid (Below V.heap.size V w3) := q2.out.trans (hb3.mono (by omega))
  have x3 := fun o => row_cell (KV.out _ q3.out).1 o
  have r3 := fun o => row_cell (KV.out _ q3.out).2.1 o
  have y3 := fun o => row_frozen (KV.out _ q3.out).2.1 o
  have z3 := hb3.size
  clear hb3
  clear x2 r2 y2
  go_wp2_with fail
  obtain ⟨V3, hV3⟩ : ∃ x, x = w3.alloc (.cells #[.slice (some ⟨g, 0, none⟩) l.length l.length, .int .i64 (now + 1)] 25) := ⟨_, rfl⟩
  rw [← hV3]
  have z4 : V3.heap.size = w3.heap.size + 1 := by rw [hV3]; simp
  have b4 : Below w3.heap.size w3 V3 := by rw [hV3]; exact (Below.refl _ _).alloc (Nat.le_refl _) _
  have E4 : Hid (V3.heap[w3.heap.size]? = some (.cells #[.slice (some ⟨g, 0, none⟩) l.length l.length, .int .i64 (now + 1)] 25 (0, 0))) := by rw [hV3]; exact heap_alloc_new _ _
  have B4 : Hid (Below w2.heap.size w2 V3) := hb3'.out.trans (b4.mono (by omega))
  have P4 : Hid (StP w2.heap.size V3 g l bs) := StP.move P3.out b4.size (fun k _ h2 => b4.block k h2)
  clear hV3 b4 P3 x3 r3 y3
  go_loopw [47] (fun i w' => ∃ (k : Nat) (bs : Nat → Nat), k ≤ ps.length ∧ i = .int .i64 k ∧ Hid (w'.heap[w3.heap.size]? = some (.cells #[.slice (some ⟨g, 0, none⟩) l.length l.length, .int .i64 (now + 1)] 25 (0, 0))) ∧ Hid (Below w2.heap.size w2 w') ∧ Hid (StP w2.heap.size w' g (wrAll (now + 1) l (ps.take k)) bs)) (fun i _ => ps.length - (intOf i).toNat)
  case atStart => exact ⟨0, bs, by omega, rfl, E4, B4, P4⟩
  case round =>
    obtain ⟨wo, rfl⟩ : ∃ x, x = wr := ⟨_, rfl⟩
    obtain ⟨k, bs', hk, rfl, E7, B7, P7⟩ := hrel
    clear E4 B4 P4
    have QO : Hid (Below V.heap.size V wo) := q2.out.trans (B7.out.mono (by omega))
    have e7 := E7.out
    have x7 := fun o => row_cell e7 o
    have z7 := (Array.getElem?_eq_some_iff.1 e7).1
    clear e7
    by_cases hlt : k < ps.length
    case neg =>
      obtain rfl : k = ps.length := by omega
      have PE : Hid (StP w2.heap.size wo g (wrAll (now + 1) l ps) bs') := by have := P7.out; rw [List.take_length] at this; exact this
      have hlt' : ¬ (ps.length : Int) < ps.length := by omega
      have r7 := fun o => row_cell (KV.out _ QO.out).2.1 o
      have y7 := fun o => row_frozen (KV.out _ QO.out).2.1 o
      go_upto_region 18 with fail
      go_region_with fail
      all_goals (try go_wp2_with fail)
      all_goals
        refine bodyPost_ret (v := .tuple #[.agg #[.slice (some ⟨g, 0, none⟩) l.length l.length, .int .i64 (now + 1)], .int .i64 (now + 1), .int .i64 0]) (by simp [results, Try.results7, go_sem, r7]) rfl ⟨g, rfl, ⟨bs', ?_⟩, ?_⟩
        · refine StP.low (StP.move (w' := ((wo.setCell ⟨w.heap.size + 1, 0, none⟩ (.slice (some ⟨g, 0, none⟩) l.length l.length)).setCell ⟨w.heap.size + 1, 1, none⟩ (.int .i64 (now + 1))).drew) PE.out (by show wo.heap.size ≤ ((wo.setCell _ _).setCell _ _).heap.size; simp) (fun k h1 h2 => ?_)) (by omega)
          show ((wo.setCell ⟨w.heap.size + 1, 0, none⟩ _).setCell ⟨w.heap.size + 1, 1, none⟩ _).heap[k]? = _
          rw [heap_set _ _ _ _ _ (by omega), heap_set _ _ _ _ _ (by omega)]
        · refine Below.drew ?_
          repeat (refine Below.setCell ?_ (by first | omega | (simp <;> omega)) _)
          exact (KV.out _ QO.out).2.2
    obtain ⟨pb, po, hpa, _, hpb, p0, p1⟩ := VeRow.cells (HP.out _ (KV.out _ QO.out).2.2) k hlt
    obtain ⟨q, hq⟩ : ∃ q : Nat, ps[k].ts = q := ⟨ps[k].ts.toNat, by have := HKEY.out k hlt; omega⟩
    have hq16 : q < 16 := by have := HKEY.out k hlt; omega
    subst hpa
    have hlt' : (k : Int) < ps.length := by omega
    rw [hq] at p0
    go_upto_region 16 with fail
    obtain ⟨U, hU⟩ : ∃ x, x = wo.alloc (.cells #[.int .i64 q, .int .i64 ps[k].v] 43) := ⟨_, rfl⟩
    rw [← hU]
    have zU : U.heap.size = wo.heap.size + 1 := by rw [hU]; simp
    have bU : Below wo.heap.size wo U := by rw [hU]; exact (Below.refl _ _).alloc (Nat.le_refl _) _
    have CU : Hid (U.heap[wo.heap.size]? = some (.cells #[.int .i64 q, .int .i64 ps[k].v] 43 (0, 0))) := by rw [hU]; exact heap_alloc_new _ _
    have EU : Hid (U.heap[w3.heap.size]? = some (.cells #[.slice (some ⟨g, 0, none⟩) l.length l.length, .int .i64 (now + 1)] 25 (0, 0))) := (bU.block _ (by omega)).trans E7.out
    have BU : Hid (Below w2.heap.size w2 U) := B7.out.trans (bU.mono (by have := B7.out.size; omega))
    have PU : Hid (StP w2.heap.size U g (wrAll (now + 1) l (ps.take k)) bs') := StP.move P7.out bU.size (fun k _ h2 => bU.block k h2)
    clear hU bU P7 E7 B7 x7 p0 p1
    have hlen : l.length = 16 := H16.out
    have hwl := wrAll_len (now + 1) (ps.take k) l
    have hql : q < (wrAll (now + 1) l (ps.take k)).length := by omega
    have PU2 := PU.out
    obtain ⟨cur, hcur, hg2, hcs, hkid, hdis⟩ := PU2
    obtain ⟨c3, hc3, hb0, hbg, hbl, hown⟩ := hkid q _ (List.getElem?_eq_getElem hql)
    obtain ⟨X, hX⟩ : ∃ X, X = (wrAll (now + 1) l (ps.take k))[q] := ⟨_, rfl⟩
    rw [← hX] at hc3 hown
    have hXl : X.length ≤ 104096 := by
      have := wrAll_bd (t := now + 1) (ps.take k) HBD.out X (by rw [hX]; exact List.getElem_mem _)
      rw [List.length_take] at this
      omega
    have HX : Hid (X = chAt (wrAll (now + 1) l (ps.take k)) q) := by rw [Hid, hX]; simp [chAt, hql]
    have OWN : Hid _ := hown
    have HCUR : Hid _ := hcur
    have HC3 : Hid _ := hc3
    have HQL : Hid _ := hql
    have hbN : bs' q ≠ w3.heap.size := fun e => by
      obtain ⟨_, _, _, _, cur2, h2, _⟩ := own_cap hown
      rw [e, EU.out] at h2
      simp at h2
    have hbM : bs' q ≠ wo.heap.size := fun e => by
      obtain ⟨_, _, _, _, cur2, h2, _⟩ := own_cap hown
      rw [e, CU.out] at h2
      simp at h2
    have hgN : w3.heap.size ≠ g := fun e => by
      have h2 := hcur
      rw [← e, EU.out] at h2
      simp at h2
    have hgl : g < U.heap.size := (Array.getElem?_eq_some_iff.1 hcur).1
    have hq' : (q : Int) < l.length := by omega
    clear hX hkid hdis hown hcur hc3 hwl hlen hql
    refine region_rel5 (n := 16) (k := 2) (by omega) (by kernel_rfl) (by kernel_rfl) (by kernel_rfl) (fun u => ⟨#[.agg #[.slice a l.length c, .int .i64 now], .slice (some ⟨pb, po, none⟩) ps.length pc, .pointer (some ⟨w.heap.size, 0, none⟩), undef, .pointer (some ⟨w.heap.size + 1, 0, none⟩), .int .i64 0, .int .i64 0, .pointer (some ⟨w3.heap.size, 0, none⟩), undef, .pointer (some ⟨wo.heap.size, 0, none⟩), .bool (decide ((4096 : Int) < ps.length)), .slice (some ⟨pb, po, none⟩) ps.length pc, .int .i64 ps.length, .bool (decide ((4096 : Int) < ps.length)), undef, .bool false, .agg #[.slice a l.length c, .int .i64 now], .bool true, .bool false, undef, .bool false, .slice (some ⟨pb, po, none⟩) ps.length pc, .bool true, .bool false, undef, .bool false, .pointer (some ⟨w.heap.size, 1, none⟩), .int .i64 now, .bool false, undef, undef, .bool false, .slice (some ⟨pb, po, none⟩) ps.length pc, .int .i64 ps.length, .bool false, undef, undef, undef, undef, .agg #[.slice a l.length c, .int .i64 now], .agg #[.slice (some ⟨g, 0, none⟩) l.length l.length, .int .i64 now], .pointer (some ⟨w3.heap.size, 1, none⟩), .int .i64 now, .int .i64 (now + 1), .pointer (some ⟨w3.heap.size, 1, none⟩), .slice (some ⟨pb, po, none⟩) ps.length pc, .int .i64 ps.length, .int .i64 k, .bool true, .pointer (some ⟨pb, po + k * 2, none⟩), .agg #[.int .i64 q, .int .i64 ps[k].v], u 51, u 52, u 53, u 54, u 55, u 56, u 57, u 58, u 59, u 60, u 61, u 62, u 63, u 64, u 65, u 66, u67, u68, undef, undef, undef], []⟩) (fun n => match n with | 51 => u51 | 52 => u52 | 53 => u53 | 54 => u54 | 55 => u55 | 56 => u56 | 57 => u57 | 58 => u58 | 59 => u59 | 60 => u60 | 61 => u61 | 62 => u62 | 63 => u63 | 64 => u64 | 65 => u65 | 66 => u66 | _ => undef) (fun i => 51 + i) (fun i j _ _ h => by omega)
      (PvV w3.heap.size wo.heap.size g l.length l.length q (bs' q) c3 X.length (now + 1) ps[k].v) (PvJ w2.heap.size (bs' q) U (wrC (now + 1) X ps[k].v)) PvJ.start ?step ?last
    case step =>
      intro L u W i hi hLs hLi hj hdep
      have hNW := hj.grown.size
      have oldb : ∀ m, m < U.heap.size → m ≠ bs' q → W.heap[m]? = U.heap[m]? := fun m h1 h2 => hj.grown.block m h1 (by simp only [ne_eq, Option.some.injEq]; exact h2)
      have hcase : i = 0 ∨ i = 1 ∨ i = 2 ∨ i = 3 ∨ i = 4 ∨ i = 5 ∨ i = 6 ∨ i = 7 ∨ i = 8 ∨ i = 9 ∨ i = 10 ∨ i = 11 ∨ i = 12 ∨ i = 13 ∨ i = 14 ∨ i = 15 := by omega
      rcases hcase with rfl | rfl | rfl | rfl | rfl | rfl | rfl | rfl | rfl | rfl | rfl | rfl | rfl | rfl | rfl | rfl
      · refine wpOp_step rfl (fun K hK => ?_)
        clear hdep
        go_simp
        exact hK _ _ ⟨_, rfl, fun _ _ h => PvV.up h, rfl, hj.step (by omega) (by omega)⟩
      · have d0 : u 51 = .pointer (some ⟨w3.heap.size, 0, none⟩) := (hdep _ rfl ⟨0, .data⟩ (by simp) rfl).2
        have x6 := fun o => row_cell ((oldb _ (by omega) hbN.symm).trans EU.out) o
        refine wpOp_step rfl (fun K hK => ?_)
        clear hdep
        go_simp
        exact hK _ _ ⟨_, by simp [upd, d0], fun _ _ h => PvV.up h, rfl, hj.step (by omega) (by omega)⟩
      · refine wpOp_step rfl (fun K hK => ?_)
        clear hdep
        go_simp
        exact hK _ _ ⟨_, rfl, fun _ _ h => PvV.up h, rfl, hj.step (by omega) (by omega)⟩
      · have d2 : u 53 = .pointer (some ⟨wo.heap.size, 0, none⟩) := (hdep _ rfl ⟨2, .data⟩ (by simp) rfl).2
        have x6 := fun o => row_cell ((oldb _ (by omega) hbM.symm).trans CU.out) o
        refine wpOp_step rfl (fun K hK => ?_)
        clear hdep
        go_simp
        exact hK _ _ ⟨_, by simp [upd, d2], fun _ _ h => PvV.up h, rfl, hj.step (by omega) (by omega)⟩
      · refine wpOp_step rfl (fun K hK => ?_)
        clear hdep
        go_simp
        exact hK _ _ ⟨_, rfl, fun _ _ h => PvV.up h, rfl, hj.step (by omega) (by omega)⟩
      · have d4 : u 55 = .pointer (some ⟨w3.heap.size, 0, none⟩) := (hdep _ rfl ⟨4, .data⟩ (by simp) rfl).2
        have x6 := fun o => row_cell ((oldb _ (by omega) hbN.symm).trans EU.out) o
        refine wpOp_step rfl (fun K hK => ?_)
        clear hdep
        go_simp
        exact hK _ _ ⟨_, by simp [upd, d4], fun _ _ h => PvV.up h, rfl, hj.step (by omega) (by omega)⟩
      · refine wpOp_step rfl (fun K hK => ?_)
        clear hdep
        go_simp
        exact hK _ _ ⟨_, rfl, fun _ _ h => PvV.up h, rfl, hj.step (by omega) (by omega)⟩
      · have d6 : u 57 = .pointer (some ⟨wo.heap.size, 0, none⟩) := (hdep _ rfl ⟨6, .data⟩ (by simp) rfl).2
        have x6 := fun o => row_cell ((oldb _ (by omega) hbM.symm).trans CU.out) o
        refine wpOp_step rfl (fun K hK => ?_)
        clear hdep
        go_simp
        exact hK _ _ ⟨_, by simp [upd, d6], fun _ _ h => PvV.up h, rfl, hj.step (by omega) (by omega)⟩
      · have d5 : u 56 = .slice (some ⟨g, 0, none⟩) l.length l.length := (hdep _ rfl ⟨5, .data⟩ (by simp) rfl).2
        have d7 : u 58 = .int .i64 q := (hdep _ rfl ⟨7, .data⟩ (by simp) rfl).2
        refine wpOp_step rfl (fun K hK => ?_)
        clear hdep
        go_simp
        exact hK _ _ ⟨_, by simp [upd, d5, d7], fun _ _ h => PvV.up h, rfl, hj.step (by omega) (by omega)⟩
      · have d8 : u 59 = .pointer (some ⟨g, q, none⟩) := (hdep _ rfl ⟨8, .data⟩ (by simp) rfl).2
        have x6 := (row_cell ((oldb g hgl hbg.symm).trans HCUR.out) q).trans HC3.out
        refine wpOp_step rfl (fun K hK => ?_)
        clear hdep
        go_simp
        exact hK _ _ ⟨_, by simp [upd, d8], fun _ _ h => PvV.up h, rfl, hj.step (by omega) (by omega)⟩
      · refine wpOp_step rfl (fun K hK => ?_)
        clear hdep
        go_simp
        exact hK _ _ ⟨_, rfl, fun _ _ h => PvV.up h, rfl, hj.step (by omega) (by omega)⟩
      · have d10 : u 61 = .pointer (some ⟨w3.heap.size, 1, none⟩) := (hdep _ rfl ⟨10, .data⟩ (by simp) rfl).2
        have x6 := fun o => row_cell ((oldb _ (by omega) hbN.symm).trans EU.out) o
        refine wpOp_step rfl (fun K hK => ?_)
        clear hdep
        go_simp
        exact hK _ _ ⟨_, by simp [upd, d10], fun _ _ h => PvV.up h, rfl, hj.step (by omega) (by omega)⟩
      · refine wpOp_step rfl (fun K hK => ?_)
        clear hdep
        go_simp
        exact hK _ _ ⟨_, rfl, fun _ _ h => PvV.up h, rfl, hj.step (by omega) (by omega)⟩
      · have d12 : u 63 = .pointer (some ⟨wo.heap.size, 1, none⟩) := (hdep _ rfl ⟨12, .data⟩ (by simp) rfl).2
        have x6 := fun o => row_cell ((oldb _ (by omega) hbM.symm).trans CU.out) o
        refine wpOp_step rfl (fun K hK => ?_)
        clear hdep
        go_simp
        exact hK _ _ ⟨_, by simp [upd, d12], fun _ _ h => PvV.up h, rfl, hj.step (by omega) (by omega)⟩
      · have d11 : u 62 = .int .i64 (now + 1) := (hdep _ rfl ⟨11, .data⟩ (by simp) rfl).2
        have d13 : u 64 = .int .i64 ps[k].v := (hdep _ rfl ⟨13, .data⟩ (by simp) rfl).2
        refine wpOp_step rfl (fun K hK => ?_)
        clear hdep
        go_simp
        exact hK _ _ ⟨_, by simp [upd, d11, d13], fun _ _ h => PvV.up h, rfl, hj.step (by omega) (by omega)⟩
      · have d9 : u 60 = .slice (some ⟨bs' q, 0, none⟩) X.length c3 := (hdep _ rfl ⟨9, .data⟩ (by simp) rfl).2
        have d14 : u 65 = .agg #[.int .i64 (now + 1), .int .i64 ps[k].v] := (hdep _ rfl ⟨14, .data⟩ (by simp) rfl).2
        have hl15 : L.getD 15 false = false := by
          cases h8 : L.getD 15 false
          · rfl
          · rw [getD_both (by omega) h8] at hLi; cases hLi
        have OW : Hid _ := own_below OWN.out (hj.old hl15)
        have HJ : Hid _ := hj
        clear hj
        refine wpOp_step rfl (fun K hK => ?_)
        clear hdep
        go_simp
        refine (put_version (bs' q) c3 w2.heap.size X (now + 1) ps[k].v _ OW.out (by omega) (by have := BU.out.size; omega)).mono ?_
        rintro e w8 ⟨b8, c8, rfl, o8, hb8, hlt8, g8⟩
        refine hK _ _ ⟨.slice (some ⟨b8, 0, none⟩) (wrC (now + 1) X ps[k].v).length c8, by simp [upd, d9, d14], fun _ _ h => PvV.up h, trivial, ?_⟩
        refine ⟨grown_trans HJ.out.grown g8, fun h => ?_, fun _ => ?_⟩
        · simp [hLs] at h
        · rw [upd_at]
          exact ⟨b8, c8, rfl, o8, by rcases hb8 with e | e <;> omega, hlt8⟩
    case last =>
      intro L u W hLs hL hj hp
      have d1 : u 52 = .slice (some ⟨g, 0, none⟩) l.length l.length := hp 1 (by omega)
      have d3 : u 54 = .int .i64 q := hp 3 (by omega)
      obtain ⟨b8, c8, d15, o8, hb8, hlt8⟩ := hj.new (hL 15 (by omega))
      have hNW := hj.grown.size
      have oldb : ∀ m, m < U.heap.size → m ≠ bs' q → W.heap[m]? = U.heap[m]? := fun m h1 h2 => hj.grown.block m h1 (by simp only [ne_eq, Option.some.injEq]; exact h2)
      have hgW := (oldb g hgl hbg.symm).trans HCUR.out
      have f2 := fun o => row_frozen hgW o
      have qq := (row_cell hgW q).trans HC3.out
      have PW : Hid (StP w2.heap.size (W.setCell ⟨g, q, none⟩ (.slice (some ⟨b8, 0, none⟩) (wrC (now + 1) X ps[k].v).length c8)) g (wrAll (now + 1) l (ps.take (k + 1))) (bput bs' q b8)) := by
        have := StP.put PU.out HQL.out hj.grown o8 hb8 hlt8
        rw [Hid, wrAll_take (now + 1) l hlt, wrS, hq, Int.toNat_natCast, ← HX.out]
        exact this
      have EW : Hid (W.heap[w3.heap.size]? = _) := (oldb _ (by omega) hbN.symm).trans EU.out
      have BW : Hid (Below w2.heap.size w2 W) := BU.out.grown hj.grown (by have := BU.out.size; omega) (fun g e => by simp only [Option.some.injEq] at e; omega)
      clear hp hj hgW o8
      unfold wpTail
      refine wpOp_step rfl (fun K hK => ?_)
      go_simp
      refine hK _ _ ?_
      clear hK
      unfold wpTail
      refine wpOp_step rfl (fun K hK => ?_)
      go_simp
      refine hK _ _ ?_
      clear hK
      unfold wpTail
      go_wp2_with fail
      exact ⟨⟨k + 1, bput bs' q b8, by omega, by go_num, by rw [Hid, heap_set _ _ _ _ _ hgN]; exact EW.out, BW.out.setCell (by first | omega | (simp <;> omega)) _, PW⟩, by simp [intOf]; omega⟩
end Go.Proofs.Ytoahbfledamnnaa.G
namespace Go.Proofs.Ytoahbfledamnnaa.G
open Go.ChangeShapes Go.WideShapes Go.ChangeAt Go.RowKit
set_option linter.unusedVariables false

def StHas (lo hi : Nat) (w : World) (a : Option Addr) (l : Chs) (bs : Nat → Nat) : Prop := l = [] ∨ StOwn lo hi w a l bs
def StMkd (lo hi : Nat) (w : World) (a : Option Addr) (l : Chs) (bs : Nat → Nat) (K : Int) : Prop := l = [] ∨ StMk lo hi w a l bs K l.length
theorem StHas.keep {lo hi : Nat} {w w' : World} {a : Option Addr} {l : Chs} {bs : Nat → Nat} (h : StHas lo hi w a l bs) (hk : Agree lo hi w w') : StHas lo hi w' a l bs := h.imp id (fun h => h.keep hk)
theorem StHas.row {lo hi : Nat} {w : World} {a : Option Addr} {l : Chs} {bs : Nat → Nat} (h : StHas lo hi w a l bs) : ChRow lo hi w a l := h.elim (fun h => .inl h) (fun h => h.row)
theorem StMkd.keep {lo hi : Nat} {w w' : World} {a : Option Addr} {l : Chs} {bs : Nat → Nat} {K : Int} (h : StMkd lo hi w a l bs K) (hk : Agree lo hi w w') : StMkd lo hi w' a l bs K := h.imp id (fun h => h.keep hk)
end Go.Proofs.Ytoahbfledamnnaa.G
