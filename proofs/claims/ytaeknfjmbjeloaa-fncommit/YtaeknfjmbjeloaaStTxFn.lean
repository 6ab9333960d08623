/- What the laws of transactions say, in plain terms: a transaction reads what it wrote, else what was there at its start; the second of two is refused. -/
import Derived.Test.YtaeknfjmbjeloaaStSrc
import Derived.Test.YtaeknfjmbjeloaaGRegion
namespace Go.Proofs.Ytaeknfjmbjeloaa.G
open Go.ChangeShapes Go.WideShapes Go.ChangeAt Go.RowKit
set_option linter.unusedVariables false

theorem SrcSt.lt {w : World} {L : Nat} {a : Option Addr} {n k : Nat} (h : SrcSt w L a n k) : L < w.heap.size := by
  obtain ⟨c, p, sd, hh, _⟩ := h
  exact (Array.getElem?_eq_some_iff.1 hh).1
theorem SrcSt.move {w w' : World} {L : Nat} {a : Option Addr} {n k : Nat} (h : SrcSt w L a n k) (hb : w'.heap[L]? = w.heap[L]?) : SrcSt w' L a n k := by
  obtain ⟨c, p, sd, hh, h2⟩ := h
  exact ⟨c, p, sd, hb.trans hh, h2⟩
theorem SrcSt.more {w : World} {L : Nat} {a : Option Addr} {n k k' : Nat} (h : SrcSt w L a n k) (hk : k ≤ k') : SrcSt w L a n k' := by
  obtain ⟨c, p, sd, hh, h1, h2⟩ := h
  exact ⟨c, p, sd, hh, by omega, h2⟩
theorem ByteRow.up {L : Nat} {w w' : World} {a : Option Addr} {n : Nat} (h : ByteRow L w a n) (hL : L ≤ w.heap.size) (hb : Below w.heap.size w w') : ByteRow L w' a n :=
  ByteRow.keep h hb.size (fun k hk => hb.block k (by omega))

set_option maxHeartbeats 1000000 in
theorem next_pos (m : Nat) (L n k : Nat) (a : Option Addr) (w : World) (h : SrcSt w L a n k) (hr : ByteRow L w a n) (hk : k ≤ 100000) (hn : n ≤ 1048576) (hm : 1 ≤ m) (hm2 : m ≤ 256) :
    Calls Try.prog 44 #[.pointer (some ⟨L, 0, none⟩), .int .i64 m] w fun e w' => (∃ v : Nat, v < m ∧ e = .returned (.int .i64 v)) ∧ SrcSt w' L a n (k + 1) ∧ w.grownBy w' (some L) := by
  by_cases h2 : 2 ≤ m
  · exact next_any m L n k a w h hr hk hn h2 hm2
  · obtain rfl : m = 1 := by omega
    have HS : Hid _ := h.more (show k ≤ k + 1 by omega)
    clear h hr
    go_enter Try.func44, Try.ntmps44
    go_wp2_with fail
    go_ret
    exact ⟨⟨0, by omega, rfl⟩, HS.out, grown_refl _ _⟩
set_option maxHeartbeats 1000000 in
theorem chance_any (m : Nat) (L n k : Nat) (a : Option Addr) (w : World) (h : SrcSt w L a n k) (hr : ByteRow L w a n) (hk : k ≤ 100000) (hn : n ≤ 1048576) (hm : 1 ≤ m) (hm2 : m ≤ 256) :
    Calls Try.prog 47 #[.pointer (some ⟨L, 0, none⟩), .int .i64 m] w fun e w' => (∃ b : Bool, e = .returned (.bool b)) ∧ SrcSt w' L a n (k + 1) ∧ w.grownBy w' (some L) := by
  go_enter Try.func47, Try.ntmps47
  go_wp2_with fail
  refine (next_pos m L n k a _ h hr hk hn hm hm2).mono ?_
  rintro e w1 ⟨⟨v, hv, rfl⟩, st, hg⟩
  have HS1 : Hid (SrcSt w1 L a n (k + 1)) := st
  have HG1 : Hid (w.grownBy w1 (some L)) := hg
  clear st hg h hr
  go_wp2_with fail
  go_ret
  exact ⟨⟨_, rfl⟩, HS1.out, HG1.out⟩
set_option maxHeartbeats 1000000 in
theorem size_any (L n k : Nat) (a : Option Addr) (w : World) (h : SrcSt w L a n k) (hn : n ≤ 1048576) :
    Calls Try.prog 45 #[.pointer (some ⟨L, 0, none⟩), .int .i64 10] w fun e w' => (∃ v : Nat, 1 ≤ v ∧ v ≤ 10 ∧ e = .returned (.int .i64 v)) ∧ Below w.heap.size w w' := by
  obtain ⟨c, p, sd, hh, hp, hs0, hsd⟩ := h
  have d0 := row_cell hh 0
  simp at d0
  clear hh
  obtain ⟨r, hr, hr2⟩ := tdiv_nat n 12
  have hr' : (n : Int).tdiv 12 = r := hr
  by_cases h10 : (1 : Int) + r ≤ 10
  · go_enter Try.func45, Try.ntmps45
    go_wp2_with fail
    go_ret
    exact ⟨⟨1 + r, by omega, by omega, by go_num⟩, Below.refl _ _⟩
  · go_enter Try.func45, Try.ntmps45
    go_wp2_with fail
    go_ret
    exact ⟨⟨10, by omega, by omega, rfl⟩, Below.refl _ _⟩
set_option maxHeartbeats 1000000 in
theorem source_any (n c : Nat) (a : Option Addr) (w : World) (hn : n ≤ 1048576) :
    Calls Try.prog 21 #[.slice a n c] w fun e w' => e = .returned (.pointer (some ⟨w.heap.size, 0, none⟩)) ∧ SrcSt w' w.heap.size a n 0 ∧ Below w.heap.size w w' := by
  obtain ⟨r, hr, hr2⟩ := tmod_nat n 1000 (by omega)
  have hr' : (n : Int).tmod 1000 = r := hr
  go_enter Try.func21, Try.ntmps21
  go_wp2_with fail
  go_ret
  exact ⟨rfl, ⟨c, 0, r, heap_alloc_new _ _, by omega, by omega, by omega⟩, (Below.refl _ _).alloc (Nat.le_refl _) _⟩
theorem valB_odd {q v : Nat} (h : q % 2 = 1) (hv : v < 9) : valB q v = true := by
  have : ((q : Int) % 2 = 1) := by omega
  simp [valB, this, nodeB]; omega
theorem valB_even {q : Nat} {v : Int} (h : ¬ q % 2 = 1) (hv : -2147483648 ≤ v ∧ v ≤ 2147483647) : valB q v = true := by
  have : ¬ ((q : Int) % 2 = 1) := by omega
  simp [valB, this, intB]; omega
theorem putB_of {q : Nat} {v : Int} (h : q < 16) (hv : valB q v = true) : putB q v = true := by
  simp [putB, keyS, hv]; omega
theorem grown_far {a w : World} {r : Option Nat} (h : a.grownBy w r) {b : Nat} (hb : a.heap.size ≤ b) (o : Nat) (v : Value) : a.grownBy (w.setCell ⟨b, o, none⟩ v) r :=
  ⟨h.os, h.tape, h.output, by simpa using h.size, fun k hk hn => (heap_set _ _ _ _ _ (by omega)).trans (h.block k hk hn)⟩
set_option maxHeartbeats 2000000 in
theorem put_any (L n k : Nat) (a : Option Addr) (w : World) (h : SrcSt w L a n k) (hr : ByteRow L w a n) (hk : k ≤ 99990) (hn : n ≤ 1048576) :
    Calls Try.prog 52 #[.pointer (some ⟨L, 0, none⟩)] w fun e w' => (∃ p : Ve, e = .returned (.agg #[.int .i64 p.ts, .int .i64 p.v]) ∧ putB p.ts p.v = true) ∧ SrcSt w' L a n (k + 3) ∧ w.grownBy w' (some L) := by
  obtain ⟨wa, hwa⟩ : ∃ x : World, x = w.alloc (.cells #[.int .i64 0, .int .i64 0] 43) := ⟨_, rfl⟩
  have hL := h.lt
  have za : wa.heap.size = w.heap.size + 1 := by rw [hwa]; simp
  have ba : Below w.heap.size w wa := by rw [hwa]; exact (Below.refl _ _).alloc (Nat.le_refl _) _
  have ca : wa.heap[w.heap.size]? = some (.cells #[.int .i64 0, .int .i64 0] 43 (0, 0)) := by rw [hwa]; exact heap_alloc_new _ _
  have HS : Hid _ := h.move (ba.block L hL)
  have HR : Hid _ := hr.up (by omega) ba
  have GA : Hid (w.grownBy wa (some L)) := grown_below (grown_refl _ _) ba
  have CA : Hid _ := ca
  clear h hr ba ca
  go_enter Try.func52, Try.ntmps52
  go_wp2_with fail
  rw [← hwa]
  refine (next_any 16 L n k a _ HS.out HR.out (by omega) hn (by omega) (by omega)).mono ?_
  rintro e w1 ⟨⟨q, hq, rfl⟩, s1, g1⟩
  have c1 := (g1.block w.heap.size (by omega) (by simp; omega)).trans CA.out
  have HS1 : Hid _ := s1
  have HR1 : Hid _ := row_keep HR.out g1
  have G1 : Hid (w.grownBy w1 (some L)) := grown_trans GA.out g1
  have C1 : Hid _ := c1
  have z1 := g1.size
  clear s1 g1 c1 HS HR GA CA
  have hm : (q : Int).tmod 2 = ((q % 2 : Nat) : Int) := by rw [Int.tmod_eq_emod_of_nonneg (by omega)]; omega
  by_cases hodd : q % 2 = 1
  · have hm1 : (q : Int).tmod 2 = 1 := by omega
    clear hm
    go_wp2_with fail
    refine (next_any 9 L n (k + 1) a _ HS1.out HR1.out (by omega) hn (by omega) (by omega)).mono ?_
    rintro e w2 ⟨⟨v, hv, rfl⟩, s2, g2⟩
    have c2 := (g2.block w.heap.size (by omega) (by simp; omega)).trans C1.out
    have HS2 : Hid _ := s2
    have G2 : Hid (w.grownBy w2 (some L)) := grown_trans G1.out g2
    have x2 := fun o => row_cell c2 o
    have y2 := fun o => row_frozen c2 o
    have HV : Hid (putB q v = true) := putB_of hq (valB_odd hodd hv)
    clear s2 g2 c2 HS1 HR1 G1 C1
    go_wp2_with fail
    refine bodyPost_ret (v := .agg #[.int .i64 q, .int .i64 v]) (by simp [results, Try.results52, go_sem, x2]) rfl ⟨⟨⟨q, v⟩, rfl, HV.out⟩, ?_, ?_⟩
    · exact SrcSt.move (SrcSt.more HS2.out (by omega)) (by rw [heap_set _ _ _ _ _ (by omega), heap_set _ _ _ _ _ (by omega)])
    · exact grown_far (grown_far G2.out (Nat.le_refl _) _ _) (Nat.le_refl _) _ _
  · have hm1 : ¬ (q : Int).tmod 2 = 1 := by omega
    clear hm
    go_wp2_with fail
    refine (next_any 20 L n (k + 1) a _ HS1.out HR1.out (by omega) hn (by omega) (by omega)).mono ?_
    rintro e w2 ⟨⟨v, hv, rfl⟩, s2, g2⟩
    have z2 := g2.size
    obtain ⟨wb, hwb⟩ : ∃ x : World, x = w2.alloc (.cells #[.int .i64 ((v : Int) - 4), .int .i64 2147483647] 3) := ⟨_, rfl⟩
    have zb : wb.heap.size = w2.heap.size + 1 := by rw [hwb]; simp
    have bb : Below w2.heap.size w2 wb := by rw [hwb]; exact (Below.refl _ _).alloc (Nat.le_refl _) _
    have cb : wb.heap[w2.heap.size]? = some (.cells #[.int .i64 ((v : Int) - 4), .int .i64 2147483647] 3 (0, 0)) := by rw [hwb]; exact heap_alloc_new _ _
    have c2 := (bb.block w.heap.size (by omega)).trans ((g2.block w.heap.size (by omega) (by simp; omega)).trans C1.out)
    have HS2 : Hid _ := s2.move (bb.block L (by omega))
    have HR2 : Hid _ := (row_keep HR1.out g2).up (by omega) bb
    have G2 : Hid (w.grownBy wb (some L)) := grown_below (grown_trans G1.out g2) bb
    have C2 : Hid _ := c2
    have CB : Hid _ := cb
    clear s2 g2 c2 HS1 HR1 G1 C1 bb cb
    go_wp2_with fail
    rw [← hwb]
    refine (next_any 9 L n (k + 1 + 1) a _ HS2.out HR2.out (by omega) hn (by omega) (by omega)).mono ?_
    rintro e w3 ⟨⟨v2, hv2, rfl⟩, s3, g3⟩
    have c3 := (g3.block w.heap.size (by omega) (by simp; omega)).trans C2.out
    have b3 := (g3.block w2.heap.size (by omega) (by simp; omega)).trans CB.out
    have HS3 : Hid _ := s3
    have G3 : Hid (w.grownBy w3 (some L)) := grown_trans G2.out g3
    have x3 := fun o => row_cell c3 o
    have y3 := fun o => row_frozen c3 o
    have xb := fun o => row_cell b3 o
    have hd : (v2 : Int).tdiv 8 = ((v2 / 8 : Nat) : Int) := by rw [Int.tdiv_eq_ediv_of_nonneg (by omega)]; omega
    clear s3 g3 c3 b3 HS2 HR2 G2 C2 CB
    by_cases h8 : v2 / 8 = 0
    · have hd0 : (v2 : Int).tdiv 8 = 0 := by omega
      have HV : Hid (putB q ((v : Int) - 4) = true) := putB_of hq (valB_even hodd (by omega))
      clear hd
      go_wp2_with fail
      refine bodyPost_ret (v := .agg #[.int .i64 q, .int .i64 ((v : Int) - 4)]) (by simp [results, Try.results52, go_sem, x3]) rfl ⟨⟨⟨q, (v : Int) - 4⟩, rfl, HV.out⟩, ?_, ?_⟩
      · exact SrcSt.move (SrcSt.more HS3.out (by omega)) (by rw [heap_set _ _ _ _ _ (by omega), heap_set _ _ _ _ _ (by omega)])
      · exact grown_far (grown_far G3.out (Nat.le_refl _) _ _) (Nat.le_refl _) _ _
    · have hd0 : (v2 : Int).tdiv 8 = 1 := by omega
      have HV : Hid (putB q 2147483647 = true) := putB_of hq (valB_even hodd (by omega))
      clear hd
      go_wp2_with fail
      refine bodyPost_ret (v := .agg #[.int .i64 q, .int .i64 2147483647]) (by simp [results, Try.results52, go_sem, x3]) rfl ⟨⟨⟨q, 2147483647⟩, rfl, HV.out⟩, ?_, ?_⟩
      · exact SrcSt.move (SrcSt.more HS3.out (by omega)) (by rw [heap_set _ _ _ _ _ (by omega), heap_set _ _ _ _ _ (by omega)])
      · exact grown_far (grown_far G3.out (Nat.le_refl _) _ _) (Nat.le_refl _) _ _
end Go.Proofs.Ytaeknfjmbjeloaa.G
namespace Go.Proofs.Ytaeknfjmbjeloaa.G
open Go.ChangeShapes Go.WideShapes Go.ChangeAt Go.RowKit
set_option linter.unusedVariables false

set_option maxRecDepth 100000 in
theorem info_Pu : ∃ i, Try.prog.info? 43 = some i ∧ i.zero = some (.agg #[.int .i64 0, .int .i64 0]) ∧ i.size = 2 ∧ i.bytes = 16 := by
  refine ⟨_, rfl, ?_, ?_, ?_⟩ <;> kernel_rfl
theorem wpList_app_run {P : Program} {ops : Array Oper} {rest : List Oper} {o : Oper} {a : Act} {Q : Exit → Act → World → Prop} {w : World} (hgd : o.guard = none) (s x : Operand) (t : TypeId)
    (ho : o.op = .call { callee := .builtin .append, args := #[s, x], argTypes := #[t, t] }) (sv xv rv : Value) (w' : World) (hs : a.eval s = sv) (hx : a.eval x = xv)
    (hr : (Builtin.append_ #[t, t] o.type #[sv, xv]).run P w = .ok rv w') (h : wpList P ops Q rest (a.put o.dst rv) w') : wpList P ops Q (o :: rest) a w := by
  refine wpList_plain hgd fun K hK => ?_
  unfold Oper.wp execOp
  simp only [ho, resolve, invoke, builtin, Sem.run_bind, Sem.run_pure, Result.andThen_ok, List.map_toArray, List.map_cons, List.map_nil, hs, hx, hr]
  exact hK _ _ h
theorem app_put (xs : List Ve) (p : Ve) (v : Value) (base h : Nat) (W : World) (ho : W.ownsRow base 43 2 v xs.length (veCells xs)) (hu : W.heap[h]? = some (.cells #[.int .i64 p.ts, .int .i64 p.v] 43 (0, 0))) (hk : xs.length ≤ 1048576) (hb : base ≤ W.heap.size) :
    ∃ g cap W', (Builtin.append_ #[28, 28] 28 #[v, .slice (some ⟨h, 0, none⟩) 1 1]).run Try.prog W = .ok (.slice (some ⟨g, 0, none⟩) (xs.length + 1) cap) W' ∧ W'.ownsRow base 43 2 (.slice (some ⟨g, 0, none⟩) (xs.length + 1) cap) (xs.length + 1) (veCells (xs ++ [p])) ∧ W.grownBy W' v.ownBlock ∧ g < W'.heap.size := by
  obtain ⟨i, hi, hz, hsz, hby⟩ := info_Pu
  have e : veCells (xs ++ [p]) = veCells xs ++ [.int .i64 p.ts, .int .i64 p.v] := by simp [veCells]
  rw [e]
  obtain ⟨g, cap, W', h1, h2, h3, h4, h5⟩ := run_append_lies (P := Try.prog) W 28 28 base 43 i _ 2 16 Try.underlying28 hi hz hsz hby rfl (by decide) v xs.length (veCells xs) ho ⟨h, 0, none⟩ 1 1 [.int .i64 p.ts, .int .i64 p.v] rfl (fun j x hx => by
    rw [add_plain]
    match j, hx with
    | 0, hx => simp only [List.getElem?_cons_zero, Option.some.injEq] at hx; subst hx; exact row_cell hu 0
    | 1, hx => simp only [List.getElem?_cons_succ, List.getElem?_cons_zero, Option.some.injEq] at hx; subst hx; exact row_cell hu 1) (fun x hx => by
      simp only [List.mem_cons, List.not_mem_nil, or_false] at hx
      rcases hx with rfl | rfl <;> rfl) (by omega) (by unfold maxLen; omega) (by omega) hb W.heap.size rfl
  exact ⟨g, cap, W', h1, h2, h3, h5⟩
theorem own_veRow {base : Nat} {w : World} {e : TypeId} {v : Value} {x : List Ve} (h : w.ownsRow base e 2 v x.length (veCells x)) : ∃ a c, v = .slice a x.length c ∧ VeRow 0 w.heap.size w a x := by
  rcases h.2 with ⟨rfl, h0⟩ | ⟨g, cap, cur, rfl, h1, h2, h3, h4, h5, h6⟩
  · have : x = [] := List.eq_nil_of_length_eq_zero h0
    subst this
    exact ⟨none, 0, rfl, .inl rfl⟩
  · refine ⟨_, cap, rfl, .inr ⟨g, 0, rfl, Nat.zero_le _, (Array.getElem?_eq_some_iff.1 h2).1, fun i y hy => ?_⟩⟩
    obtain ⟨g0, g1⟩ := veCells_at x i y hy
    have hi := (List.getElem?_eq_some_iff.1 hy).1
    rw [← h6, List.getElem?_take, if_pos (by omega)] at g0 g1
    rw [row_rd h2]
    exact ⟨by simpa using g0, by simpa using g1⟩
theorem grown_over {a b c : World} {r q : Option Nat} (h : a.grownBy b r) (g : b.grownBy c q) (hq : ∀ k, q = some k → a.heap.size ≤ k) : a.grownBy c r :=
  ⟨g.os.trans h.os, g.tape.trans h.tape, g.output.trans h.output, Nat.le_trans h.size g.size, fun k hk hn => (g.block k (Nat.lt_of_lt_of_le hk h.size) (fun e => by have := hq k e.symm; omega)).trans (h.block k hk hn)⟩
theorem own_lt {w : World} {base size n : Nat} {e : TypeId} {v : Value} {xs : List Value} (h : w.ownsRow base e size v n xs) (g : Nat) (hg : v.ownBlock = some g) : g < w.heap.size := by
  rcases h.2 with ⟨e, _⟩ | ⟨g', cap, cur, e, h1, h2, _⟩
  · subst e; cases hg
  · subst e
    simp only [Value.ownBlock, Option.some.injEq] at hg
    subst hg
    exact (Array.getElem?_eq_some_iff.1 h2).1
set_option maxHeartbeats 4000000 in
theorem puts_any (L n k : Nat) (a : Option Addr) (w : World) (h : SrcSt w L a n k) (hr : ByteRow L w a n) (hk : k ≤ 99900) (hn : n ≤ 1048576) :
    Calls Try.prog 27 #[.pointer (some ⟨L, 0, none⟩)] w fun e w' => (∃ (ps : List Ve) (a' : Option Addr) (c' : Nat), e = .returned (.slice a' ps.length c') ∧ VeRow 0 w'.heap.size w' a' ps ∧ ps.length ≤ 4 ∧ ∀ p ∈ ps, putB p.ts p.v = true) ∧ SrcSt w' L a n (k + 13) ∧ w.grownBy w' (some L) := by
  obtain ⟨wa, hwa⟩ : ∃ x : World, x = w.alloc (.cells #[] 43) := ⟨_, rfl⟩
  have hL := h.lt
  have za : wa.heap.size = w.heap.size + 1 := by rw [hwa]; simp
  have ba : Below w.heap.size w wa := by rw [hwa]; exact (Below.refl _ _).alloc (Nat.le_refl _) _
  have ca : wa.heap[w.heap.size]? = some (.cells #[] 43 (0, 0)) := by rw [hwa]; exact heap_alloc_new _ _
  have HS : Hid _ := h.move (ba.block L hL)
  have HR : Hid _ := hr.up (by omega) ba
  have GA : Hid (w.grownBy wa (some L)) := grown_below (grown_refl _ _) ba
  have CA : Hid _ := ca
  have HR0 : Hid _ := hr
  clear h hr ba ca
  go_enter Try.func27, Try.ntmps27
  go_wp2_with fail
  rw [← hwa]
  refine (next_any 5 L n k a _ HS.out HR.out (by omega) hn (by omega) (by omega)).mono ?_
  rintro e w1 ⟨⟨q, hq, rfl⟩, s1, g1⟩
  have c1 := (g1.block w.heap.size (by omega) (by simp; omega)).trans CA.out
  have HS1 : Hid _ := s1
  have G1 : Hid (w.grownBy w1 (some L)) := grown_trans GA.out g1
  have O1 : Hid (w1.ownsRow w.heap.size 43 2 (.slice (some ⟨w.heap.size, 0, none⟩) 0 0) 0 []) := ⟨rfl, .inr ⟨_, 0, #[], rfl, Nat.le_refl _, c1, Nat.le_refl _, Nat.zero_le _, rfl, rfl⟩⟩
  clear s1 g1 c1 HS HR GA CA
  go_wp2_with fail
  go_loopw [3, 4] (fun v i w' => ∃ (m : Nat) (xs : List Ve), i = .int .i64 m ∧ m + xs.length ≤ 4 ∧ Hid (w'.ownsRow w.heap.size 43 2 v xs.length (veCells xs)) ∧ Hid (∀ p ∈ xs, putB p.ts p.v = true) ∧ Hid (SrcSt w' L a n (k + 1 + 3 * xs.length)) ∧ Hid (w.grownBy w' (some L))) (fun _ i _ => (intOf i).toNat)
  case atStart => exact ⟨q, [], rfl, by simp; omega, O1, by simp [Hid], HS1, G1⟩
  case round =>
    obtain ⟨wo, rfl⟩ : ∃ x, x = wr := ⟨_, rfl⟩
    obtain ⟨m, xs, rfl, hm, HO, HP, HSo, HG⟩ := hrel
    by_cases h0 : 0 < m
    · have h0' : (0 : Int) < m := by omega
      go_wp2_with fail
      refine (put_any L n _ a _ HSo.out (row_keep HR0.out HG.out) (by omega) hn).mono ?_
      rintro e w2 ⟨⟨p, rfl, hp⟩, s2, g2⟩
      have z0 := HG.out.size
      have z2 := g2.size
      have ho2 : w2.ownsRow w.heap.size 43 2 u3 xs.length (veCells xs) := own_set HO.out (fun g hg => g2.block g (own_lt HO.out g hg) (by have := own_base HO.out g hg; simp; omega))
      obtain ⟨wb, hwb⟩ : ∃ x : World, x = w2.alloc (.cells #[.int .i64 p.ts, .int .i64 p.v] 43) := ⟨_, rfl⟩
      have zb : wb.heap.size = w2.heap.size + 1 := by rw [hwb]; simp
      have bb : Below w2.heap.size w2 wb := by rw [hwb]; exact (Below.refl _ _).alloc (Nat.le_refl _) _
      have cb : wb.heap[w2.heap.size]? = some (.cells #[.int .i64 p.ts, .int .i64 p.v] 43 (0, 0)) := by rw [hwb]; exact heap_alloc_new _ _
      obtain ⟨g, cap, W', hrun, o1, o2, o3⟩ := app_put xs p u3 w.heap.size w2.heap.size wb (own_below ho2 bb) cb (by omega) (by omega)
      have HRUN : Hid _ := hrun
      have O3 : Hid (W'.ownsRow w.heap.size 43 2 (.slice (some ⟨g, 0, none⟩) (xs.length + 1) cap) (xs ++ [p]).length (veCells (xs ++ [p]))) := by rw [Hid]; simpa using o1
      have P3 : Hid (∀ y ∈ xs ++ [p], putB y.ts y.v = true) := fun y hy => by
        rw [List.mem_append, List.mem_singleton] at hy
        rcases hy with hy | rfl
        · exact HP.out y hy
        · exact hp
      have S3 : Hid (SrcSt W' L a n (k + 1 + 3 * (xs ++ [p]).length)) := SrcSt.more (SrcSt.move s2 ((o2.block L (by omega) (fun e => by have := own_base HO.out L e.symm; omega)).trans (bb.block L (by omega)))) (by simp; omega)
      have G3 : Hid (w.grownBy W' (some L)) := grown_over (grown_below (grown_trans HG.out g2) bb) o2 (fun k hk => own_base HO.out k hk)
      clear hrun o1 o2 o3 s2 g2 bb cb ho2 hp
      go_wp2_with (first | (at_builtin; rw [← hwb]; refine wpList_app_run rfl _ _ _ rfl _ _ _ _ rfl rfl HRUN.out ?_) | fail)
      exact ⟨⟨m - 1, xs ++ [p], by go_num, by simp; omega, O3, P3, S3, G3⟩, by simp [intOf]; omega⟩
    · obtain rfl : m = 0 := by omega
      obtain ⟨a', c', hv, hrow⟩ := own_veRow HO.out
      have HW : Hid _ := hrow
      subst hv
      clear hrow
      go_wp2_with fail
      go_ret
      exact ⟨⟨xs, a', c', rfl, HW.out, by omega, HP.out⟩, SrcSt.more HSo.out (by omega), HG.out⟩
end Go.Proofs.Ytaeknfjmbjeloaa.G
namespace Go.Proofs.Ytaeknfjmbjeloaa.G
open Go.ChangeShapes Go.WideShapes Go.ChangeAt Go.RowKit
set_option linter.unusedVariables false

theorem reads_one {k : Int} (h : 0 ≤ k ∧ k < 16) : readsB [k] = true := readsB_true fun i hi => by
  obtain rfl : i = 0 := by simp at hi; omega
  rw [rdB_eq (by simp)]
  simp [inS]
  omega
theorem puts_one' {k v : Int} (h : putB k v = true) : putsB [⟨k, v⟩] = true := by simp [putsB, h]
/-- A transaction that has begun, at its own store or at a later one. -/
theorem tx_none {l : Chs} {now st : Int} (h : storeB l now = true) (h0 : 0 ≤ st) (h1 : st ≤ now) : txnB l now st [] [] = true := by
  simp only [txnB, txB, h, Bool.true_and, Bool.and_eq_true, inS_iff]
  exact ⟨⟨⟨h0, h1⟩, by decide⟩, by decide⟩
theorem tx_read {l : Chs} {now st k : Int} (h : storeB l now = true) (h0 : 0 ≤ st) (h1 : st ≤ now) (hk : 0 ≤ k ∧ k < 16) : txnB l now st [k] [] = true := by
  simp only [txnB, txB, h, Bool.true_and, Bool.and_eq_true, inS_iff]
  exact ⟨⟨⟨h0, h1⟩, by decide⟩, reads_one hk⟩
theorem tx_both {l : Chs} {now st k v : Int} (h : storeB l now = true) (h0 : 0 ≤ st) (h1 : st ≤ now) (hk : 0 ≤ k ∧ k < 16) (hp : putB k v = true) : txnB l now st [k] [⟨k, v⟩] = true := by
  simp only [txnB, txB, h, Bool.true_and, Bool.and_eq_true, inS_iff]
  exact ⟨⟨⟨h0, h1⟩, puts_one' hp⟩, reads_one hk⟩
theorem rdK_one (k : Int) : rdK [] [] k = [k] := by simp [rdK, lastW]
theorem rdK_two (k v : Int) : rdK [k] [⟨k, v⟩] k = [k] := by simp [rdK]
theorem rdV_own (l : Chs) (st k v : Int) : rdV l st [⟨k, v⟩] k = v := by simp [rdV, lastW]
theorem rdV_none (l : Chs) (st k : Int) : rdV l st [] k = readV (chAt l k.toNat) st := by simp [rdV, lastW]
theorem put_low {ps : List Ve} (hp : ∀ p ∈ ps, putB p.ts p.v = true) : ∀ p ∈ ps, 0 ≤ p.ts := fun p h => by
  have := hp p h
  simp only [putB, keyS, Bool.and_eq_true, decide_eq_true_eq] at this
  exact this.1.1
theorem chain_below {key now : Int} {x : List Ve} (h : chainB key now x = true) : ∀ i, i < x.length → tsAt x i < now + 1 := fun i hi => by
  have := (okB_parts (chainB_at h hi)).2.1
  omega
/-- A chain behind the writes of the next hour. -/
theorem wr_at {l : Chs} {now k : Int} {ps : List Ve} (h : storeB l now = true) (hk : 0 ≤ k ∧ k < 16) (hp : ∀ p ∈ ps, putB p.ts p.v = true) : chAt (wrAll (now + 1) l ps) k.toNat = chAt l k.toNat ++ newV (now + 1) (lastW k ps) := by
  have hl : k.toNat < l.length := by have := (storeB_all h).1; omega
  have hw := wrAll_at (t := now + 1) (k := k.toNat) ps hl (chain_below (chainsB_at (storeB_all h).2.2.2 hl)) (put_low hp)
  rw [hw, chAt_eq hl]
  have e : ((k.toNat : Nat) : Int) = k := by omega
  rw [e]
/-- What others write is not read at the start's hour. -/
theorem rd_old {l : Chs} {now k : Int} {ps : List Ve} (h : storeB l now = true) (hk : 0 ≤ k ∧ k < 16) (hp : ∀ p ∈ ps, putB p.ts p.v = true) : readV (chAt (wrAll (now + 1) l ps) k.toNat) now = readV (chAt l k.toNat) now := by
  rw [wr_at h hk hp]; exact readV_new (by omega) _
theorem chain_of {l : Chs} {now k : Int} (h : storeB l now = true) (hk : 0 ≤ k ∧ k < 16) : chainB k now (chAt l k.toNat) = true := by
  have hl : k.toNat < l.length := by have := (storeB_all h).1; omega
  have := chainsB_at (storeB_all h).2.2.2 hl
  have e : ((k.toNat : Nat) : Int) = k := by omega
  rw [e] at this
  rwa [chAt_eq hl]
/-- Nothing was written behind Now. -/
theorem conf_none {l : Chs} {now k : Int} {ws : List Ve} (h : storeB l now = true) (hk : 0 ≤ k ∧ k < 16) : confB l now [k] ws = false := by
  have hc := chgB_new (chain_of h hk) none
  simp only [newV, List.append_nil, Option.isSome_none] at hc
  simp [confB, hc]
/-- The second of two that read and write one thing is refused. -/
theorem conf_second {l : Chs} {now k v : Int} (h : storeB l now = true) (hk : 0 ≤ k ∧ k < 16) (hp : putB k v = true) : confB (wrAll (now + 1) l [⟨k, v⟩]) now [k] [⟨k, v⟩] = true := by
  have hw := wr_at (ps := [⟨k, v⟩]) h hk (by simpa using hp)
  have e : lastW k [⟨k, v⟩] = some v := by simp [lastW]
  rw [e] at hw
  have hc := chgB_new (chain_of h hk) (some v)
  simp [confB, hw, hc]
theorem rd_new {l : Chs} {now k v : Int} (h : storeB l now = true) (hk : 0 ≤ k ∧ k < 16) (hp : putB k v = true) : readV (chAt (wrAll (now + 1) l [⟨k, v⟩]) k.toNat) (now + 1) = v := by
  have hw := wr_at (ps := [⟨k, v⟩]) h hk (by simpa using hp)
  have e : lastW k [⟨k, v⟩] = some v := by simp [lastW]
  rw [hw, e]; exact readV_now
/-- What is read of a right chain is a value of its key, or 0. -/
theorem readV_val {key now : Int} {x : List Ve} (h : chainB key now x = true) (ts : Int) : readV x ts = 0 ∨ valB key (readV x ts) = true := by
  have hall : ∀ p ∈ x, valB key p.v = true := fun p hp => by
    obtain ⟨i, hi, rfl⟩ := List.mem_iff_getElem.1 hp
    have := (okB_parts (chainB_at h hi)).2.2
    rwa [vAt_eq hi] at this
  have go : ∀ (x : List Ve) (v : Int), (∀ p ∈ x, valB key p.v = true) → (v = 0 ∨ valB key v = true) → (x.foldl (fun v x => if x.ts ≤ ts then x.v else v) v = 0 ∨ valB key (x.foldl (fun v x => if x.ts ≤ ts then x.v else v) v) = true) := by
    intro x
    induction x with
    | nil => intro v _ hv; exact hv
    | cons p r ih =>
      intro v hp hv
      rw [List.foldl_cons]
      refine ih _ (fun q hq => hp q (List.mem_cons_of_mem _ hq)) ?_
      by_cases hc : p.ts ≤ ts
      · simp only [hc, if_true]; exact .inr (hp p (List.mem_cons_self ..))
      · simp only [hc, if_false]; exact hv
  exact go x 0 hall (.inl rfl)
theorem put_three {k : Int} (hk : 0 ≤ k ∧ k < 16) : putB k 3 = true := by
  have h1 : keyS k = true := by simp [keyS, hk]
  have h2 : valB k 3 = true := by unfold valB; split <;> decide
  simp [putB, h1, h2]
theorem put_next {k v : Int} (hk : 0 ≤ k ∧ k < 16) (he : k % 2 = 0) (hv : v = 0 ∨ valB k v = true) (hlt : v < 2147483647) : putB k (v + 1) = true := by
  have h1 : keyS k = true := by simp [keyS, hk]
  have h2 : ¬ k % 2 = 1 := by omega
  have h3 : -2147483648 ≤ v := by
    rcases hv with rfl | hv
    · decide
    · simp only [valB, h2, if_false, intB, decide_eq_true_eq] at hv; exact hv.1
  have h4 : valB k (v + 1) = true := by
    simp only [valB, h2, if_false, intB, decide_eq_true_eq]; omega
  simp [putB, h1, h4]
theorem co_first {l : Chs} {now k v : Int} (h : storeB l now = true) (hk : 0 ≤ k ∧ k < 16) (hn : now ≠ 100000) : CoIs l now now [k] [⟨k, v⟩] (wrAll (now + 1) l [⟨k, v⟩]) (now + 1) (now + 1) 0 :=
  .inr (.inr (.inr ⟨by simp, conf_none h hk, hn, rfl, rfl, rfl, rfl⟩))
theorem co_second {l : Chs} {now k v : Int} (h : storeB l now = true) (hk : 0 ≤ k ∧ k < 16) (hp : putB k v = true) : CoIs (wrAll (now + 1) l [⟨k, v⟩]) (now + 1) now [k] [⟨k, v⟩] (wrAll (now + 1) l [⟨k, v⟩]) (now + 1) 0 16 :=
  .inr (.inl ⟨by simp, conf_second h hk hp, rfl, rfl, rfl, rfl⟩)
theorem co_reads (l : Chs) (now st : Int) (rs : List Int) : CoIs l now st rs [] l now st 0 := .inl ⟨rfl, rfl, rfl, rfl, rfl⟩
theorem reads_snoc {rs : List Int} {key : Int} (h : readsB rs = true) (hk : 0 ≤ key ∧ key < 16) (hn : key ∉ rs) : readsB (rs ++ [key]) = true := readsB_true fun i hi => by
  rw [rdB_eq hi]
  by_cases hlt : i < rs.length
  · obtain ⟨h1, h2⟩ := readsB_at h hlt
    have e : (rs ++ [key])[i] = rs[i] := List.getElem_append_left hlt
    have e2 : (rs ++ [key]).take i = rs.take i := by rw [List.take_append_of_le_length (by omega)]
    rw [e, e2]
    simp only [Bool.and_eq_true, inS_iff, Bool.not_eq_true', decide_eq_false_iff_not]
    exact ⟨by omega, h2⟩
  · obtain rfl : i = rs.length := by simp at hi; omega
    have e : (rs ++ [key])[rs.length] = key := by simp
    have e2 : (rs ++ [key]).take rs.length = rs := by simp
    rw [e, e2]
    simp only [Bool.and_eq_true, inS_iff, Bool.not_eq_true', decide_eq_false_iff_not]
    exact ⟨by omega, hn⟩
theorem reads_rdK {rs : List Int} {ws : List Ve} {key : Int} (h : readsB rs = true) (hk : 0 ≤ key ∧ key < 16) : readsB (rdK rs ws key) = true := by
  unfold rdK
  by_cases hc : (lastW key ws).isSome = true ∨ key ∈ rs
  · rw [if_pos hc]; exact h
  · rw [if_neg hc]; exact reads_snoc h hk (fun hm => hc (.inr hm))
theorem puts_snoc {ws : List Ve} {p : Ve} (h : putsB ws = true) (hl : ws.length < 400) (hp : putB p.ts p.v = true) : putsB (ws ++ [p]) = true := by
  simp only [putsB, Bool.and_eq_true, decide_eq_true_eq, List.all_append, List.all_cons, List.all_nil, Bool.and_true, List.length_append, List.length_cons, List.length_nil] at h ⊢
  exact ⟨by omega, h.2, hp⟩
theorem tx_snoc {l : Chs} {now st : Int} {rs : List Int} {ws : List Ve} {p : Ve} (h : txnB l now st rs ws = true) (hl : ws.length < 400) (hp : putB p.ts p.v = true) : txnB l now st rs (ws ++ [p]) = true := by
  have h0 := txnB_all h
  simp only [txnB, txB, h0.1, Bool.true_and, Bool.and_eq_true, inS_iff]
  exact ⟨⟨h0.2.1, puts_snoc h0.2.2.1 hl hp⟩, h0.2.2.2⟩
theorem tx_rdK {l : Chs} {now st key : Int} {rs : List Int} {ws : List Ve} (h : txnB l now st rs ws = true) (hk : 0 ≤ key ∧ key < 16) : txnB l now st (rdK rs ws key) ws = true := by
  have h0 := txnB_all h
  simp only [txnB, txB, h0.1, Bool.true_and, Bool.and_eq_true, inS_iff]
  exact ⟨⟨h0.2.1, h0.2.2.1⟩, reads_rdK h0.2.2.2 hk⟩
end Go.Proofs.Ytaeknfjmbjeloaa.G
