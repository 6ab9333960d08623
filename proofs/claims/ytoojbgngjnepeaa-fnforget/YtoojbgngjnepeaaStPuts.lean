/- The draws: some writes. -/
import Derived.Test.YtoojbgngjnepeaaStDraw
namespace Go.Proofs.Ytoojbgngjnepeaa.G
open Go.ChangeShapes Go.WideShapes Go.ChangeAt Go.RowKit
set_option linter.unusedVariables false

set_option maxRecDepth 100000 in
theorem info_Pu : ∃ i, Try.prog.info? 69 = some i ∧ i.zero = some (.agg #[.int .i64 0, .int .i64 0]) ∧ i.size = 2 ∧ i.bytes = 16 := by
  refine ⟨_, rfl, ?_, ?_, ?_⟩ <;> kernel_rfl
theorem wpList_app_run {P : Program} {ops : Array Oper} {rest : List Oper} {o : Oper} {a : Act} {Q : Exit → Act → World → Prop} {w : World} (hgd : o.guard = none) (s x : Operand) (t : TypeId)
    (ho : o.op = .call { callee := .builtin .append, args := #[s, x], argTypes := #[t, t] }) (sv xv rv : Value) (w' : World) (hs : a.eval s = sv) (hx : a.eval x = xv)
    (hr : (Builtin.append_ #[t, t] o.type #[sv, xv]).run P w = .ok rv w') (h : wpList P ops Q rest (a.put o.dst rv) w') : wpList P ops Q (o :: rest) a w := by
  refine wpList_plain hgd fun K hK => ?_
  unfold Oper.wp execOp
  simp only [ho, resolve, invoke, builtin, Sem.run_bind, Sem.run_pure, Result.andThen_ok, List.map_toArray, List.map_cons, List.map_nil, hs, hx, hr]
  exact hK _ _ h
theorem app_put (xs : List Ve) (p : Ve) (v : Value) (base h : Nat) (W : World) (ho : W.ownsRow base 69 2 v xs.length (veCells xs)) (hu : W.heap[h]? = some (.cells #[.int .i64 p.ts, .int .i64 p.v] 69 (0, 0))) (hk : xs.length ≤ 1048576) (hb : base ≤ W.heap.size) :
    ∃ g cap W', (Builtin.append_ #[61, 61] 61 #[v, .slice (some ⟨h, 0, none⟩) 1 1]).run Try.prog W = .ok (.slice (some ⟨g, 0, none⟩) (xs.length + 1) cap) W' ∧ W'.ownsRow base 69 2 (.slice (some ⟨g, 0, none⟩) (xs.length + 1) cap) (xs.length + 1) (veCells (xs ++ [p])) ∧ W.grownBy W' v.ownBlock ∧ g < W'.heap.size := by
  obtain ⟨i, hi, hz, hsz, hby⟩ := info_Pu
  have e : veCells (xs ++ [p]) = veCells xs ++ [.int .i64 p.ts, .int .i64 p.v] := by simp [veCells]
  rw [e]
  obtain ⟨g, cap, W', h1, h2, h3, h4, h5⟩ := run_append_lies (P := Try.prog) W 61 61 base 69 i _ 2 16 Try.underlying61 hi hz hsz hby rfl (by decide) v xs.length (veCells xs) ho ⟨h, 0, none⟩ 1 1 [.int .i64 p.ts, .int .i64 p.v] rfl (fun j x hx => by
    rw [add_plain]
    match j, hx with
    | 0, hx => simp only [List.getElem?_cons_zero, Option.some.injEq] at hx; subst hx; exact row_cell hu 0
    | 1, hx => simp only [List.getElem?_cons_succ, List.getElem?_cons_zero, Option.some.injEq] at hx; subst hx; exact row_cell hu 1) (fun x hx => by
      simp only [List.mem_cons, List.not_mem_nil, or_false] at hx
      rcases hx with rfl | rfl <;> rfl) (by omega) (by unfold maxLen; omega) (by omega) hb W.heap.size rfl
  exact ⟨g, cap, W', h1, h2, h3, h5⟩
theorem own_veRow {base : Nat} {w : World} {e : TypeId} {v : Value} {x : List Ve} (h : w.ownsRow base e 2 v x.length (veCells x)) : ∃ a c, v = .slice a x.length c ∧ VeRow 0 w.heap.size w a x := by
  rcases h.2 with ⟨rfl, h0⟩ | ⟨g, cap, cur, rfl, h1, h2, h3, h4, h5, h6⟩
  · have : x = [] := List.eq_nil_of_length_eq_zero h0
    subst this
    exact ⟨none, 0, rfl, .inl rfl⟩
  · refine ⟨_, cap, rfl, .inr ⟨g, 0, rfl, Nat.zero_le _, (Array.getElem?_eq_some_iff.1 h2).1, fun i y hy => ?_⟩⟩
    obtain ⟨g0, g1⟩ := veCells_at x i y hy
    have hi := (List.getElem?_eq_some_iff.1 hy).1
    rw [← h6, List.getElem?_take, if_pos (by omega)] at g0 g1
    rw [row_rd h2]
    exact ⟨by simpa using g0, by simpa using g1⟩
theorem grown_over {a b c : World} {r q : Option Nat} (h : a.grownBy b r) (g : b.grownBy c q) (hq : ∀ k, q = some k → a.heap.size ≤ k) : a.grownBy c r :=
  ⟨g.os.trans h.os, g.tape.trans h.tape, g.output.trans h.output, Nat.le_trans h.size g.size, fun k hk hn => (g.block k (Nat.lt_of_lt_of_le hk h.size) (fun e => by have := hq k e.symm; omega)).trans (h.block k hk hn)⟩
theorem own_lt {w : World} {base size n : Nat} {e : TypeId} {v : Value} {xs : List Value} (h : w.ownsRow base e size v n xs) (g : Nat) (hg : v.ownBlock = some g) : g < w.heap.size := by
  rcases h.2 with ⟨e, _⟩ | ⟨g', cap, cur, e, h1, h2, _⟩
  · subst e; cases hg
  · subst e
    simp only [Value.ownBlock, Option.some.injEq] at hg
    subst hg
    exact (Array.getElem?_eq_some_iff.1 h2).1
set_option maxHeartbeats 4000000 in
theorem puts_any (L n k : Nat) (a : Option Addr) (w : World) (h : SrcSt w L a n k) (hr : ByteRow L w a n) (hk : k ≤ 99900) (hn : n ≤ 1048576) :
    Calls Try.prog 32 #[.pointer (some ⟨L, 0, none⟩)] w fun e w' => (∃ (ps : List Ve) (a' : Option Addr) (c' : Nat), e = .returned (.slice a' ps.length c') ∧ VeRow 0 w'.heap.size w' a' ps ∧ ps.length ≤ 4 ∧ ∀ p ∈ ps, putB p.ts p.v = true) ∧ SrcSt w' L a n (k + 13) ∧ w.grownBy w' (some L) := by
  obtain ⟨wa, hwa⟩ : ∃ x : World, x = w.alloc (.cells #[] 69) := ⟨_, rfl⟩
  have hL := h.lt
  have za : wa.heap.size = w.heap.size + 1 := by rw [hwa]; simp
  have ba : Below w.heap.size w wa := by rw [hwa]; exact (Below.refl _ _).alloc (Nat.le_refl _) _
  have ca : wa.heap[w.heap.size]? = some (.cells #[] 69 (0, 0)) := by rw [hwa]; exact heap_alloc_new _ _
  have HS : Hid _ := h.move (ba.block L hL)
  have HR : Hid _ := hr.up (by omega) ba
  have GA : Hid (w.grownBy wa (some L)) := grown_below (grown_refl _ _) ba
  have CA : Hid _ := ca
  have HR0 : Hid _ := hr
  clear h hr ba ca
  go_enter Try.func32, Try.ntmps32
  go_wp2_with fail
  rw [← hwa]
  refine (next_any 5 L n k a _ HS.out HR.out (by omega) hn (by omega) (by omega)).mono ?_
  rintro e w1 ⟨⟨q, hq, rfl⟩, s1, g1⟩
  have c1 := (g1.block w.heap.size (by omega) (by simp; omega)).trans CA.out
  have HS1 : Hid _ := s1
  have G1 : Hid (w.grownBy w1 (some L)) := grown_trans GA.out g1
  have O1 : Hid (w1.ownsRow w.heap.size 69 2 (.slice (some ⟨w.heap.size, 0, none⟩) 0 0) 0 []) := ⟨rfl, .inr ⟨_, 0, #[], rfl, Nat.le_refl _, c1, Nat.le_refl _, Nat.zero_le _, rfl, rfl⟩⟩
  clear s1 g1 c1 HS HR GA CA
  go_wp2_with fail
  go_loopw [3, 4] (fun v i w' => ∃ (m : Nat) (xs : List Ve), i = .int .i64 m ∧ m + xs.length ≤ 4 ∧ Hid (w'.ownsRow w.heap.size 69 2 v xs.length (veCells xs)) ∧ Hid (∀ p ∈ xs, putB p.ts p.v = true) ∧ Hid (SrcSt w' L a n (k + 1 + 3 * xs.length)) ∧ Hid (w.grownBy w' (some L))) (fun _ i _ => (intOf i).toNat)
  case atStart => exact ⟨q, [], rfl, by simp; omega, O1, by simp [Hid], HS1, G1⟩
  case round =>
    obtain ⟨wo, rfl⟩ : ∃ x, x = wr := ⟨_, rfl⟩
    obtain ⟨m, xs, rfl, hm, HO, HP, HSo, HG⟩ := hrel
    by_cases h0 : 0 < m
    · have h0' : (0 : Int) < m := by omega
      go_wp2_with fail
      refine (put_any L n _ a _ HSo.out (row_keep HR0.out HG.out) (by omega) hn).mono ?_
      rintro e w2 ⟨⟨p, rfl, hp⟩, s2, g2⟩
      have z0 := HG.out.size
      have z2 := g2.size
      have ho2 : w2.ownsRow w.heap.size 69 2 u3 xs.length (veCells xs) := own_set HO.out (fun g hg => g2.block g (own_lt HO.out g hg) (by have := own_base HO.out g hg; simp; omega))
      obtain ⟨wb, hwb⟩ : ∃ x : World, x = w2.alloc (.cells #[.int .i64 p.ts, .int .i64 p.v] 69) := ⟨_, rfl⟩
      have zb : wb.heap.size = w2.heap.size + 1 := by rw [hwb]; simp
      have bb : Below w2.heap.size w2 wb := by rw [hwb]; exact (Below.refl _ _).alloc (Nat.le_refl _) _
      have cb : wb.heap[w2.heap.size]? = some (.cells #[.int .i64 p.ts, .int .i64 p.v] 69 (0, 0)) := by rw [hwb]; exact heap_alloc_new _ _
      obtain ⟨g, cap, W', hrun, o1, o2, o3⟩ := app_put xs p u3 w.heap.size w2.heap.size wb (own_below ho2 bb) cb (by omega) (by omega)
      have HRUN : Hid _ := hrun
      have O3 : Hid (W'.ownsRow w.heap.size 69 2 (.slice (some ⟨g, 0, none⟩) (xs.length + 1) cap) (xs ++ [p]).length (veCells (xs ++ [p]))) := by rw [Hid]; simpa using o1
      have P3 : Hid (∀ y ∈ xs ++ [p], putB y.ts y.v = true) := fun y hy => by
        rw [List.mem_append, List.mem_singleton] at hy
        rcases hy with hy | rfl
        · exact HP.out y hy
        · exact hp
      have S3 : Hid (SrcSt W' L a n (k + 1 + 3 * (xs ++ [p]).length)) := SrcSt.more (SrcSt.move s2 ((o2.block L (by omega) (fun e => by have := own_base HO.out L e.symm; omega)).trans (bb.block L (by omega)))) (by simp; omega)
      have G3 : Hid (w.grownBy W' (some L)) := grown_over (grown_below (grown_trans HG.out g2) bb) o2 (fun k hk => own_base HO.out k hk)
      clear hrun o1 o2 o3 s2 g2 bb cb ho2 hp
      go_wp2_with (first | (at_builtin; rw [← hwb]; refine wpList_app_run rfl _ _ _ rfl _ _ _ _ rfl rfl HRUN.out ?_) | fail)
      exact ⟨⟨m - 1, xs ++ [p], by go_num, by simp; omega, O3, P3, S3, G3⟩, by simp [intOf]; omega⟩
    · obtain rfl : m = 0 := by omega
      obtain ⟨a', c', hv, hrow⟩ := own_veRow HO.out
      have HW : Hid _ := hrow
      subst hv
      clear hrow
      go_wp2_with fail
      go_ret
      exact ⟨⟨xs, a', c', rfl, HW.out, by omega, HP.out⟩, SrcSt.more HSo.out (by omega), HG.out⟩
end Go.Proofs.Ytoojbgngjnepeaa.G
