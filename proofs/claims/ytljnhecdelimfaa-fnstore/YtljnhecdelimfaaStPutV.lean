/- The program's putVersion: a chain that may grow, written in place. -/
import Derived.Test.YtljnhecdelimfaaStCopyS
import Derived.Test.YtljnhecdelimfaaStWrJ
import Derived.BigQuiet
namespace Go.Proofs.Ytljnhecdelimfaa.G
open Go.ChangeShapes Go.WideShapes Go.ChangeAt Go.RowKit
set_option linter.unusedVariables false

theorem own_cap {base b c n : Nat} {w : World} {x : List Ve} (h : w.ownsRow base 54 2 (.slice (some ⟨b, 0, none⟩) n c) x.length (veCells x)) : n = x.length ∧ base ≤ b ∧ x.length ≤ c ∧ c ≤ maxLen ∧ ∃ cur, w.heap[b]? = some (.cells cur 54 (0, 0)) ∧ cur.size = c * 2 ∧ cur.toList.take (x.length * 2) = veCells x := by
  rcases h.2 with ⟨e, h0⟩ | ⟨g', cap, cur, e, h1, h2, h3, h4, h5, h6⟩
  · cases e
  · simp only [Value.slice.injEq, Option.some.injEq, Addr.mk.injEq, and_true] at e
    obtain ⟨rfl, e2, rfl⟩ := e
    exact ⟨e2, h1, h3, h4, cur, h2, h5, h6⟩
theorem veCells_snoc (x : List Ve) (p : Ve) : veCells (x ++ [p]) = veCells x ++ [.int .i64 p.ts, .int .i64 p.v] := by simp [veCells]
/-- The last version overwritten. -/
theorem put_last {cur : Array Value} {x : List Ve} {c n : Nat} {t v : Int} (hs : cur.size = c * 2) (hc : x.length ≤ c) (hn : x.length = n + 1) (h6 : cur.toList.take (x.length * 2) = veCells x) :
    ((cur.setIfInBounds (n * 2) (.int .i64 t)).setIfInBounds (n * 2 + 1) (.int .i64 v)).toList.take ((x.take n ++ [(⟨t, v⟩ : Ve)]).length * 2) = veCells (x.take n ++ [⟨t, v⟩]) := by
  have e : x = x.take n ++ [x[n]'(by omega)] := by rw [← List.take_succ_eq_append_getElem, List.take_of_length_le (by omega)]
  have hv : veCells x = veCells (x.take n) ++ [.int .i64 (x[n]'(by omega)).ts, .int .i64 (x[n]'(by omega)).v] := by
    conv => lhs; rw [e]
    rw [veCells_snoc]
  have hl : (veCells (x.take n)).length = n * 2 := by rw [veCells_len]; simp; omega
  have h7 : cur.toList.take (n * 2) = veCells (x.take n) := by
    have := congrArg (List.take (n * 2)) h6
    rw [List.take_take, Nat.min_eq_left (by omega), hv, List.take_append_of_le_length (by omega), List.take_of_length_le (l := veCells (x.take n)) (by omega)] at this
    exact this
  rw [veCells_snoc, ← h7]
  have hn2 : (x.take n ++ [(⟨t, v⟩ : Ve)]).length * 2 = n * 2 + 2 := by simp; omega
  rw [hn2]
  have hcs : n * 2 + 2 ≤ cur.toList.length := by simp; omega
  simp only [Array.toList_setIfInBounds]
  generalize cur.toList = L at *
  apply List.ext_getElem?
  intro i
  rw [List.getElem?_take]
  by_cases h1 : i < n * 2
  · rw [if_pos (by omega), List.getElem?_set_ne (by omega), List.getElem?_set_ne (by omega), List.getElem?_append_left (by simp; omega), List.getElem?_take, if_pos h1]
  · by_cases h2 : i = n * 2
    · subst h2
      rw [if_pos (by omega), List.getElem?_set_ne (by omega), List.getElem?_set_self (by omega), List.getElem?_append_right (by simp; omega)]
      have : n * 2 - (L.take (n * 2)).length = 0 := by simp; omega
      rw [this]; rfl
    · by_cases h3 : i = n * 2 + 1
      · subst h3
        rw [if_pos (by omega), List.getElem?_set_self (by simp; omega), List.getElem?_append_right (by simp; omega)]
        have : n * 2 + 1 - (L.take (n * 2)).length = 1 := by simp; omega
        rw [this]; rfl
      · rw [if_neg (by omega), List.getElem?_eq_none (by simp; omega)]
theorem wpList_app_run2 {P : Program} {ops : Array Oper} {rest : List Oper} {o : Oper} {a : Act} {Q : Exit → Act → World → Prop} {w : World} (hgd : o.guard = none) (s x : Operand) (t : TypeId)
    (ho : o.op = .call { callee := .builtin .append, args := #[s, x], argTypes := #[t, t] }) (sv xv rv : Value) (w' : World) (hs : a.eval s = sv) (hx : a.eval x = xv)
    (hr : (Builtin.append_ #[t, t] o.type #[sv, xv]).run P w = .ok rv w') (h : wpList P ops Q rest (a.put o.dst rv) w') : wpList P ops Q (o :: rest) a w := by
  refine wpList_plain hgd fun K hK => ?_
  unfold Oper.wp execOp
  simp only [ho, resolve, invoke, builtin, Sem.run_bind, Sem.run_pure, Result.andThen_ok, List.map_toArray, List.map_cons, List.map_nil, hs, hx, hr]
  exact hK _ _ h
theorem app_ver2 (xs : List Ve) (p : Ve) (v : Value) (base h : Nat) (W : World) (ho : W.ownsRow base 54 2 v xs.length (veCells xs)) (hu : W.heap[h]? = some (.cells #[.int .i64 p.ts, .int .i64 p.v] 54 (0, 0))) (hk : xs.length ≤ 1048576) (hb : base ≤ W.heap.size) :
    ∃ g cap W', (Builtin.append_ #[51, 51] 51 #[v, .slice (some ⟨h, 0, none⟩) 1 1]).run Try.prog W = .ok (.slice (some ⟨g, 0, none⟩) (xs.length + 1) cap) W' ∧ W'.ownsRow base 54 2 (.slice (some ⟨g, 0, none⟩) (xs.length + 1) cap) (xs.length + 1) (veCells (xs ++ [p])) ∧ W.grownBy W' v.ownBlock ∧ (v.ownBlock = some g ∨ g = W.heap.size) ∧ g < W'.heap.size := by
  obtain ⟨i, hi, hz, hsz, hby⟩ := info_Ve
  rw [veCells_snoc]
  exact run_append_lies (P := Try.prog) W 51 51 base 54 i _ 2 16 Try.underlying51 hi hz hsz hby rfl (by decide) v xs.length (veCells xs) ho ⟨h, 0, none⟩ 1 1 [.int .i64 p.ts, .int .i64 p.v] rfl (fun j x hx => by
    rw [add_plain]
    match j, hx with
    | 0, hx => simp only [List.getElem?_cons_zero, Option.some.injEq] at hx; subst hx; exact row_cell hu 0
    | 1, hx => simp only [List.getElem?_cons_succ, List.getElem?_cons_zero, Option.some.injEq] at hx; subst hx; exact row_cell hu 1) (fun x hx => by
      simp only [List.mem_cons, List.not_mem_nil, or_false] at hx
      rcases hx with rfl | rfl <;> rfl) (by omega) (by unfold maxLen; omega) (by omega) hb W.heap.size rfl
theorem grown_set2 {w W : World} {b o : Nat} {v : Value} (h : w.grownBy W (some b)) : w.grownBy (W.setCell ⟨b, o, none⟩ v) (some b) := by
  have hb : Below b W (W.setCell ⟨b, o, none⟩ v) := by
    refine Below.setCell (Below.refl _ _) ?_ _
    exact Nat.le_refl b
  exact ⟨hb.os.trans h.os, hb.tape.trans h.tape, hb.output.trans h.output, Nat.le_trans h.size hb.size, fun k h1 h2 => (heap_set _ _ _ _ _ (fun e => h2 (by rw [e]))).trans (h.block k h1 h2)⟩
theorem grown_both {a b c : World} {r : Option Nat} (h : a.grownBy b r) (g : b.grownBy c r) : a.grownBy c r :=
  ⟨g.os.trans h.os, g.tape.trans h.tape, g.output.trans h.output, Nat.le_trans h.size g.size, fun k hk hn => (g.block k (Nat.lt_of_lt_of_le hk h.size) hn).trans (h.block k hk hn)⟩
set_option maxHeartbeats 4000000 in
theorem put_version (b c lo : Nat) (x : List Ve) (t v : Int) (w : World) (ho : w.ownsRow lo 54 2 (.slice (some ⟨b, 0, none⟩) x.length c) x.length (veCells x)) (hl : x.length ≤ 1048000) (hlo : lo ≤ w.heap.size) :
    Calls Try.prog 21 #[.slice (some ⟨b, 0, none⟩) x.length c, .agg #[.int .i64 t, .int .i64 v]] w fun e w' =>
      ∃ b' c', e = .returned (.slice (some ⟨b', 0, none⟩) (wrC t x v).length c') ∧ w'.ownsRow lo 54 2 (.slice (some ⟨b', 0, none⟩) (wrC t x v).length c') (wrC t x v).length (veCells (wrC t x v)) ∧ (b' = b ∨ w.heap.size ≤ b') ∧ b' < w'.heap.size ∧ w.grownBy w' (some b) := by
  obtain ⟨V, hV⟩ : ∃ V, V = w.alloc (.cells #[.int .i64 t, .int .i64 v] 54) := ⟨_, rfl⟩
  have bV : Below w.heap.size w V := by rw [hV]; exact (Below.refl _ _).alloc (Nat.le_refl _) _
  have zV : V.heap.size = w.heap.size + 1 := by rw [hV]; simp
  have cV : V.heap[w.heap.size]? = some (.cells #[.int .i64 t, .int .i64 v] 54 (0, 0)) := by rw [hV]; exact heap_alloc_new _ _
  have hbl : b < w.heap.size := own_lt2 ho b rfl
  have OV : V.ownsRow lo 54 2 (.slice (some ⟨b, 0, none⟩) x.length c) x.length (veCells x) := own_below ho bV
  obtain ⟨_, hb0, hc0, hcm, cur, hcur, hcs, htake⟩ := own_cap OV
  have HV0 := (blk_of OV).2
  have x3 := fun o => row_cell cV o
  have GV : Hid (∀ W, Below V.heap.size V W → w.grownBy W (some b) ∧ W.heap[w.heap.size]? = some (.cells #[.int .i64 t, .int .i64 v] 54 (0, 0)) ∧ W.heap[b]? = some (.cells cur 54 (0, 0)) ∧ V.heap.size ≤ W.heap.size) := fun W h =>
    ⟨grown_below (grown_refl _ _) (bV.trans (h.mono (by omega))), (h.block _ (by omega)).trans cV, (h.block _ (by omega)).trans hcur, h.size⟩
  go_enter Try.func21, Try.ntmps21
  go_wp2_with fail
  rw [← hV]
  clear hV
  by_cases hc : 0 < x.length ∧ tsAt x (x.length - 1) = t
  · obtain ⟨n, hn⟩ : ∃ n, x.length = n + 1 := ⟨x.length - 1, by omega⟩
    have hnl : n < x.length := by omega
    obtain ⟨b2, o2, ha2, _, _, f0, f1⟩ := VeRow.cells (VeBlk.row HV0 (Nat.zero_le _) HV0.lt) n hnl
    simp only [Option.some.injEq, Addr.mk.injEq, and_true] at ha2
    obtain ⟨rfl, rfl⟩ := ha2
    have hts : x[n].ts = t := by have := hc.2; rw [show x.length - 1 = n by omega, tsAt_eq hnl] at this; exact this
    rw [hts] at f0
    have HW : Hid (wrC t x v = x.take n ++ [⟨t, v⟩]) := by rw [Hid, wrC, cutC, if_pos hc, show x.length - 1 = n by omega]
    have HL : Hid ((wrC t x v).length = n + 1) := by rw [HW.out]; simp [Hid]; omega
    have HP : Hid _ := put_last (t := t) (v := v) hcs hc0 hn htake
    have hpos : (0 : Int) < x.length := by omega
    have e1 : (x.length : Int) - 1 = n := by omega
    have e2 : (n : Int) < x.length := by omega
    have hfz := fun o => row_frozen hcur o
    have g0 : V.cell? ⟨b, n * 2, none⟩ = some (.int .i64 t) := by simpa using f0
    have g1 : V.cell? ⟨b, n * 2 + 1, none⟩ = some (.int .i64 x[n].v) := by simpa using f1
    have hcx : cur[n * 2]? = some (.int .i64 t) := by rw [← row_cell hcur]; simpa using f0
    have hcy : cur[n * 2 + 1]? = some (.int .i64 x[n].v) := by rw [← row_cell hcur]; simpa using f1
    have hd : decide (0 < x.length) = true := decide_eq_true (by omega)
    have HN : Hid _ := hn
    have hwn : IntKind.i64.wrap (n : Int) = n := wrap_small _ (by omega) (by omega)
    clear hc hn htake hpos f0 f1
    go_quiet (fail)
    obtain ⟨U, hU⟩ : ∃ x, x = V.drewN nq := ⟨_, rfl⟩
    rw [← hU]
    have bU : Below V.heap.size V U := by rw [hU]; exact below_drewN (Below.refl _ _) _
    obtain ⟨gU, dU, eU, zU⟩ := GV.out _ bU
    have u3 := fun o => row_cell dU o
    have ub := fun o => row_cell eU o
    have fb := fun o => row_frozen eU o
    have ub0 := (ub (n * 2)).trans hcx
    have ub1 := (ub (n * 2 + 1)).trans hcy
    clear hU x3 hfz g0 g1 ub
    go_wp2_with fail
    go_ret
    refine ⟨b, c, by rw [HL.out, ← HN.out]; rfl, ownVe (l := wrC t x v) hb0 (row_set (row_set eU _ _) _ _) (by rw [HL.out]; omega) hcm (by simp [hcs]) (by rw [HW.out]; exact HP.out), .inl rfl, by simp; omega, grown_set2 (grown_set2 gU)⟩
  · have HW : Hid (wrC t x v = x ++ [⟨t, v⟩]) := by rw [Hid, wrC, cutC, if_neg hc]
    have HL : Hid ((wrC t x v).length = x.length + 1) := by rw [HW.out]; simp [Hid]
    have HF : Hid (∀ W, Below V.heap.size V W → ∃ b' c' W', (Builtin.append_ #[51, 51] 51 #[.slice (some ⟨b, 0, none⟩) x.length c, .slice (some ⟨W.heap.size, 0, none⟩) 1 1]).run Try.prog (W.alloc (.cells #[.int .i64 t, .int .i64 v] 54)) = .ok (.slice (some ⟨b', 0, none⟩) (x.length + 1) c') W' ∧ W'.ownsRow lo 54 2 (.slice (some ⟨b', 0, none⟩) (wrC t x v).length c') (wrC t x v).length (veCells (wrC t x v)) ∧ (b' = b ∨ w.heap.size ≤ b') ∧ b' < W'.heap.size ∧ w.grownBy W' (some b)) := fun W hW => by
      have hz := hW.size
      have bA : Below W.heap.size W (W.alloc (.cells #[.int .i64 t, .int .i64 v] 54)) := (Below.refl _ _).alloc (Nat.le_refl _) _
      have zA : (W.alloc (.cells #[.int .i64 t, .int .i64 v] 54)).heap.size = W.heap.size + 1 := by simp
      obtain ⟨b', c', W', h1, h2, h3, h5, h4⟩ := app_ver2 x ⟨t, v⟩ (.slice (some ⟨b, 0, none⟩) x.length c) lo W.heap.size _ (own_below (own_below OV hW) bA) (heap_alloc_new _ _) (by omega) (by omega)
      have hg0 : w.grownBy (W.alloc (.cells #[.int .i64 t, .int .i64 v] 54)) (some b) := grown_below (GV.out _ hW).1 bA
      refine ⟨b', c', W', h1, by rw [HL.out, HW.out]; simpa using h2, ?_, h4, grown_both hg0 h3⟩
      rcases h5 with h5 | h5
      · simp only [Value.ownBlock, Option.some.injEq] at h5
        exact .inl h5.symm
      · rw [zA] at h5
        exact .inr (by omega)
    have fin : ∀ U, Below V.heap.size V U → ∃ b' c' W', Hid ((Builtin.append_ #[51, 51] 51 #[.slice (some ⟨b, 0, none⟩) x.length c, .slice (some ⟨U.heap.size, 0, none⟩) 1 1]).run Try.prog (U.alloc (.cells #[.int .i64 t, .int .i64 v] 54)) = .ok (.slice (some ⟨b', 0, none⟩) (x.length + 1) c') W') ∧ Hid (W'.ownsRow lo 54 2 (.slice (some ⟨b', 0, none⟩) (wrC t x v).length c') (wrC t x v).length (veCells (wrC t x v)) ∧ (b' = b ∨ w.heap.size ≤ b') ∧ b' < W'.heap.size ∧ w.grownBy W' (some b)) := fun U hU => by
      obtain ⟨b', c', W', h1, h2⟩ := HF.out U hU
      exact ⟨b', c', W', h1, h2⟩
    have FIN : Hid _ := fin
    clear fin HF
    by_cases h0 : 0 < x.length
    · obtain ⟨n, hn⟩ : ∃ n, x.length = n + 1 := ⟨x.length - 1, by omega⟩
      have hnl : n < x.length := by omega
      obtain ⟨b2, o2, ha2, _, _, f0, f1⟩ := VeRow.cells (VeBlk.row HV0 (Nat.zero_le _) HV0.lt) n hnl
      simp only [Option.some.injEq, Addr.mk.injEq, and_true] at ha2
      obtain ⟨rfl, rfl⟩ := ha2
      have hts : ¬ x[n].ts = t := fun e => hc ⟨h0, by rw [show x.length - 1 = n by omega, tsAt_eq hnl]; exact e⟩
      have g0 : V.cell? ⟨b, n * 2, none⟩ = some (.int .i64 x[n].ts) := by simpa using f0
      have e1 : (x.length : Int) - 1 = n := by omega
      have e2 : (n : Int) < x.length := by omega
      have hd : decide (0 < x.length) = true := decide_eq_true (by omega)
      have hde : (x[n].ts == t) = false := by simpa using hts
      have hwn : IntKind.i64.wrap (n : Int) = n := wrap_small _ (by omega) (by omega)
      clear hc hn htake f0 f1 h0
      go_quiet (fail)
      obtain ⟨U, hU⟩ : ∃ x, x = V.drewN nq := ⟨_, rfl⟩
      rw [← hU]
      have bU : Below V.heap.size V U := by rw [hU]; exact below_drewN (Below.refl _ _) _
      obtain ⟨gU, dU, eU, zU⟩ := GV.out _ bU
      have u3 := fun o => row_cell dU o
      obtain ⟨b', c', W', HRUN, HRES⟩ := FIN.out U bU
      clear hU x3 g0
      go_wp2_with (first | (at_builtin; refine wpList_app_run2 rfl _ _ _ rfl _ _ _ _ rfl rfl HRUN.out ?_) | fail)
      go_ret
      exact ⟨b', c', by rw [HL.out]; rfl, HRES.out⟩
    · have hd : decide (0 < x.length) = false := decide_eq_false h0
      clear hc htake h0
      go_quiet (fail)
      obtain ⟨U, hU⟩ : ∃ x, x = V.drewN nq := ⟨_, rfl⟩
      rw [← hU]
      have bU : Below V.heap.size V U := by rw [hU]; exact below_drewN (Below.refl _ _) _
      obtain ⟨gU, dU, eU, zU⟩ := GV.out _ bU
      have u3 := fun o => row_cell dU o
      obtain ⟨b', c', W', HRUN, HRES⟩ := FIN.out U bU
      clear hU x3
      go_wp2_with (first | (at_builtin; refine wpList_app_run2 rfl _ _ _ rfl _ _ _ _ rfl rfl HRUN.out ?_) | fail)
      go_ret
      exact ⟨b', c', by rw [HL.out]; rfl, HRES.out⟩
end Go.Proofs.Ytljnhecdelimfaa.G
