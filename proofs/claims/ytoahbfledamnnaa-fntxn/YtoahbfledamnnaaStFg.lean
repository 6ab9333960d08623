/- The program's Forget: a chain cut and copied, all chains, the whole. -/
import Derived.Test.YtoahbfledamnnaaStDraw
import Derived.Test.YtoahbfledamnnaaStKids
import Derived.Test.YtoahbfledamnnaaStWrJ
import Derived.Test.YtoahbfledamnnaaStFgMath
import Derived.Test.YtoahbfledamnnaaGRegionFive
namespace Go.Proofs.Ytoahbfledamnnaa.G
open Go.ChangeShapes Go.WideShapes Go.ChangeAt Go.RowKit
set_option linter.unusedVariables false

set_option maxRecDepth 100000 in
theorem info_Pu : ∃ i, Try.prog.info? 43 = some i ∧ i.zero = some (.agg #[.int .i64 0, .int .i64 0]) ∧ i.size = 2 ∧ i.bytes = 16 := by
  refine ⟨_, rfl, ?_, ?_, ?_⟩ <;> kernel_rfl
theorem wpList_app_run {P : Program} {ops : Array Oper} {rest : List Oper} {o : Oper} {a : Act} {Q : Exit → Act → World → Prop} {w : World} (hgd : o.guard = none) (s x : Operand) (t : TypeId)
    (ho : o.op = .call { callee := .builtin .append, args := #[s, x], argTypes := #[t, t] }) (sv xv rv : Value) (w' : World) (hs : a.eval s = sv) (hx : a.eval x = xv)
    (hr : (Builtin.append_ #[t, t] o.type #[sv, xv]).run P w = .ok rv w') (h : wpList P ops Q rest (a.put o.dst rv) w') : wpList P ops Q (o :: rest) a w := by
  refine wpList_plain hgd fun K hK => ?_
  unfold Oper.wp execOp
  simp only [ho, resolve, invoke, builtin, Sem.run_bind, Sem.run_pure, Result.andThen_ok, List.map_toArray, List.map_cons, List.map_nil, hs, hx, hr]
  exact hK _ _ h
theorem app_put (xs : List Ve) (p : Ve) (v : Value) (base h : Nat) (W : World) (ho : W.ownsRow base 43 2 v xs.length (veCells xs)) (hu : W.heap[h]? = some (.cells #[.int .i64 p.ts, .int .i64 p.v] 43 (0, 0))) (hk : xs.length ≤ 1048576) (hb : base ≤ W.heap.size) :
    ∃ g cap W', (Builtin.append_ #[28, 28] 28 #[v, .slice (some ⟨h, 0, none⟩) 1 1]).run Try.prog W = .ok (.slice (some ⟨g, 0, none⟩) (xs.length + 1) cap) W' ∧ W'.ownsRow base 43 2 (.slice (some ⟨g, 0, none⟩) (xs.length + 1) cap) (xs.length + 1) (veCells (xs ++ [p])) ∧ W.grownBy W' v.ownBlock ∧ g < W'.heap.size := by
  obtain ⟨i, hi, hz, hsz, hby⟩ := info_Pu
  have e : veCells (xs ++ [p]) = veCells xs ++ [.int .i64 p.ts, .int .i64 p.v] := by simp [veCells]
  rw [e]
  obtain ⟨g, cap, W', h1, h2, h3, h4, h5⟩ := run_append_lies (P := Try.prog) W 28 28 base 43 i _ 2 16 Try.underlying28 hi hz hsz hby rfl (by decide) v xs.length (veCells xs) ho ⟨h, 0, none⟩ 1 1 [.int .i64 p.ts, .int .i64 p.v] rfl (fun j x hx => by
    rw [add_plain]
    match j, hx with
    | 0, hx => simp only [List.getElem?_cons_zero, Option.some.injEq] at hx; subst hx; exact row_cell hu 0
    | 1, hx => simp only [List.getElem?_cons_succ, List.getElem?_cons_zero, Option.some.injEq] at hx; subst hx; exact row_cell hu 1) (fun x hx => by
      simp only [List.mem_cons, List.not_mem_nil, or_false] at hx
      rcases hx with rfl | rfl <;> rfl) (by omega) (by unfold maxLen; omega) (by omega) hb W.heap.size rfl
  exact ⟨g, cap, W', h1, h2, h3, h5⟩
theorem own_veRow {base : Nat} {w : World} {e : TypeId} {v : Value} {x : List Ve} (h : w.ownsRow base e 2 v x.length (veCells x)) : ∃ a c, v = .slice a x.length c ∧ VeRow 0 w.heap.size w a x := by
  rcases h.2 with ⟨rfl, h0⟩ | ⟨g, cap, cur, rfl, h1, h2, h3, h4, h5, h6⟩
  · have : x = [] := List.eq_nil_of_length_eq_zero h0
    subst this
    exact ⟨none, 0, rfl, .inl rfl⟩
  · refine ⟨_, cap, rfl, .inr ⟨g, 0, rfl, Nat.zero_le _, (Array.getElem?_eq_some_iff.1 h2).1, fun i y hy => ?_⟩⟩
    obtain ⟨g0, g1⟩ := veCells_at x i y hy
    have hi := (List.getElem?_eq_some_iff.1 hy).1
    rw [← h6, List.getElem?_take, if_pos (by omega)] at g0 g1
    rw [row_rd h2]
    exact ⟨by simpa using g0, by simpa using g1⟩
theorem grown_over {a b c : World} {r q : Option Nat} (h : a.grownBy b r) (g : b.grownBy c q) (hq : ∀ k, q = some k → a.heap.size ≤ k) : a.grownBy c r :=
  ⟨g.os.trans h.os, g.tape.trans h.tape, g.output.trans h.output, Nat.le_trans h.size g.size, fun k hk hn => (g.block k (Nat.lt_of_lt_of_le hk h.size) (fun e => by have := hq k e.symm; omega)).trans (h.block k hk hn)⟩
theorem own_lt {w : World} {base size n : Nat} {e : TypeId} {v : Value} {xs : List Value} (h : w.ownsRow base e size v n xs) (g : Nat) (hg : v.ownBlock = some g) : g < w.heap.size := by
  rcases h.2 with ⟨e, _⟩ | ⟨g', cap, cur, e, h1, h2, _⟩
  · subst e; cases hg
  · subst e
    simp only [Value.ownBlock, Option.some.injEq] at hg
    subst hg
    exact (Array.getElem?_eq_some_iff.1 h2).1
set_option maxHeartbeats 4000000 in
theorem puts_any (L n k : Nat) (a : Option Addr) (w : World) (h : SrcSt w L a n k) (hr : ByteRow L w a n) (hk : k ≤ 99900) (hn : n ≤ 1048576) :
    Calls Try.prog 27 #[.pointer (some ⟨L, 0, none⟩)] w fun e w' => (∃ (ps : List Ve) (a' : Option Addr) (c' : Nat), e = .returned (.slice a' ps.length c') ∧ VeRow 0 w'.heap.size w' a' ps ∧ ps.length ≤ 4 ∧ ∀ p ∈ ps, putB p.ts p.v = true) ∧ SrcSt w' L a n (k + 13) ∧ w.grownBy w' (some L) := by
  obtain ⟨wa, hwa⟩ : ∃ x : World, x = w.alloc (.cells #[] 43) := ⟨_, rfl⟩
  have hL := h.lt
  have za : wa.heap.size = w.heap.size + 1 := by rw [hwa]; simp
  have ba : Below w.heap.size w wa := by rw [hwa]; exact (Below.refl _ _).alloc (Nat.le_refl _) _
  have ca : wa.heap[w.heap.size]? = some (.cells #[] 43 (0, 0)) := by rw [hwa]; exact heap_alloc_new _ _
  have HS : Hid _ := h.move (ba.block L hL)
  have HR : Hid _ := hr.up (by omega) ba
  have GA : Hid (w.grownBy wa (some L)) := grown_below (grown_refl _ _) ba
  have CA : Hid _ := ca
  have HR0 : Hid _ := hr
  clear h hr ba ca
  go_enter Try.func27, Try.ntmps27
  go_wp2_with fail
  rw [← hwa]
  refine (next_any 5 L n k a _ HS.out HR.out (by omega) hn (by omega) (by omega)).mono ?_
  rintro e w1 ⟨⟨q, hq, rfl⟩, s1, g1⟩
  have c1 := (g1.block w.heap.size (by omega) (by simp; omega)).trans CA.out
  have HS1 : Hid _ := s1
  have G1 : Hid (w.grownBy w1 (some L)) := grown_trans GA.out g1
  have O1 : Hid (w1.ownsRow w.heap.size 43 2 (.slice (some ⟨w.heap.size, 0, none⟩) 0 0) 0 []) := ⟨rfl, .inr ⟨_, 0, #[], rfl, Nat.le_refl _, c1, Nat.le_refl _, Nat.zero_le _, rfl, rfl⟩⟩
  clear s1 g1 c1 HS HR GA CA
  go_wp2_with fail
  go_loopw [3, 4] (fun v i w' => ∃ (m : Nat) (xs : List Ve), i = .int .i64 m ∧ m + xs.length ≤ 4 ∧ Hid (w'.ownsRow w.heap.size 43 2 v xs.length (veCells xs)) ∧ Hid (∀ p ∈ xs, putB p.ts p.v = true) ∧ Hid (SrcSt w' L a n (k + 1 + 3 * xs.length)) ∧ Hid (w.grownBy w' (some L))) (fun _ i _ => (intOf i).toNat)
  case atStart => exact ⟨q, [], rfl, by simp; omega, O1, by simp [Hid], HS1, G1⟩
  case round =>
    obtain ⟨wo, rfl⟩ : ∃ x, x = wr := ⟨_, rfl⟩
    obtain ⟨m, xs, rfl, hm, HO, HP, HSo, HG⟩ := hrel
    by_cases h0 : 0 < m
    · have h0' : (0 : Int) < m := by omega
      go_wp2_with fail
      refine (put_any L n _ a _ HSo.out (row_keep HR0.out HG.out) (by omega) hn).mono ?_
      rintro e w2 ⟨⟨p, rfl, hp⟩, s2, g2⟩
      have z0 := HG.out.size
      have z2 := g2.size
      have ho2 : w2.ownsRow w.heap.size 43 2 u3 xs.length (veCells xs) := own_set HO.out (fun g hg => g2.block g (own_lt HO.out g hg) (by have := own_base HO.out g hg; simp; omega))
      obtain ⟨wb, hwb⟩ : ∃ x : World, x = w2.alloc (.cells #[.int .i64 p.ts, .int .i64 p.v] 43) := ⟨_, rfl⟩
      have zb : wb.heap.size = w2.heap.size + 1 := by rw [hwb]; simp
      have bb : Below w2.heap.size w2 wb := by rw [hwb]; exact (Below.refl _ _).alloc (Nat.le_refl _) _
      have cb : wb.heap[w2.heap.size]? = some (.cells #[.int .i64 p.ts, .int .i64 p.v] 43 (0, 0)) := by rw [hwb]; exact heap_alloc_new _ _
      obtain ⟨g, cap, W', hrun, o1, o2, o3⟩ := app_put xs p u3 w.heap.size w2.heap.size wb (own_below ho2 bb) cb (by omega) (by omega)
      have HRUN : Hid _ := hrun
      have O3 : Hid (W'.ownsRow w.heap.size 43 2 (.slice (some ⟨g, 0, none⟩) (xs.length + 1) cap) (xs ++ [p]).length (veCells (xs ++ [p]))) := by rw [Hid]; simpa using o1
      have P3 : Hid (∀ y ∈ xs ++ [p], putB y.ts y.v = true) := fun y hy => by
        rw [List.mem_append, List.mem_singleton] at hy
        rcases hy with hy | rfl
        · exact HP.out y hy
        · exact hp
      have S3 : Hid (SrcSt W' L a n (k + 1 + 3 * (xs ++ [p]).length)) := SrcSt.more (SrcSt.move s2 ((o2.block L (by omega) (fun e => by have := own_base HO.out L e.symm; omega)).trans (bb.block L (by omega)))) (by simp; omega)
      have G3 : Hid (w.grownBy W' (some L)) := grown_over (grown_below (grown_trans HG.out g2) bb) o2 (fun k hk => own_base HO.out k hk)
      clear hrun o1 o2 o3 s2 g2 bb cb ho2 hp
      go_wp2_with (first | (at_builtin; rw [← hwb]; refine wpList_app_run rfl _ _ _ rfl _ _ _ _ rfl rfl HRUN.out ?_) | fail)
      exact ⟨⟨m - 1, xs ++ [p], by go_num, by simp; omega, O3, P3, S3, G3⟩, by simp [intOf]; omega⟩
    · obtain rfl : m = 0 := by omega
      obtain ⟨a', c', hv, hrow⟩ := own_veRow HO.out
      have HW : Hid _ := hrow
      subst hv
      clear hrow
      go_wp2_with fail
      go_ret
      exact ⟨⟨xs, a', c', rfl, HW.out, by omega, HP.out⟩, SrcSt.more HSo.out (by omega), HG.out⟩
end Go.Proofs.Ytoahbfledamnnaa.G
namespace Go.Proofs.Ytoahbfledamnnaa.G
open Go.ChangeShapes Go.WideShapes Go.ChangeAt Go.RowKit
set_option linter.unusedVariables false

theorem reads_one {k : Int} (h : 0 ≤ k ∧ k < 16) : readsB [k] = true := readsB_true fun i hi => by
  obtain rfl : i = 0 := by simp at hi; omega
  rw [rdB_eq (by simp)]
  simp [inS]
  omega
theorem puts_one' {k v : Int} (h : putB k v = true) : putsB [⟨k, v⟩] = true := by simp [putsB, h]
/-- A transaction that has begun, at its own store or at a later one. -/
theorem tx_none {l : Chs} {now st : Int} (h : storeB l now = true) (h0 : 0 ≤ st) (h1 : st ≤ now) : txnB l now st [] [] = true := by
  simp only [txnB, txB, h, Bool.true_and, Bool.and_eq_true, inS_iff]
  exact ⟨⟨⟨h0, h1⟩, by decide⟩, by decide⟩
theorem tx_read {l : Chs} {now st k : Int} (h : storeB l now = true) (h0 : 0 ≤ st) (h1 : st ≤ now) (hk : 0 ≤ k ∧ k < 16) : txnB l now st [k] [] = true := by
  simp only [txnB, txB, h, Bool.true_and, Bool.and_eq_true, inS_iff]
  exact ⟨⟨⟨h0, h1⟩, by decide⟩, reads_one hk⟩
theorem tx_both {l : Chs} {now st k v : Int} (h : storeB l now = true) (h0 : 0 ≤ st) (h1 : st ≤ now) (hk : 0 ≤ k ∧ k < 16) (hp : putB k v = true) : txnB l now st [k] [⟨k, v⟩] = true := by
  simp only [txnB, txB, h, Bool.true_and, Bool.and_eq_true, inS_iff]
  exact ⟨⟨⟨h0, h1⟩, puts_one' hp⟩, reads_one hk⟩
theorem rdK_one (k : Int) : rdK [] [] k = [k] := by simp [rdK, lastW]
theorem rdK_two (k v : Int) : rdK [k] [⟨k, v⟩] k = [k] := by simp [rdK]
theorem rdV_own (l : Chs) (st k v : Int) : rdV l st [⟨k, v⟩] k = v := by simp [rdV, lastW]
theorem rdV_none (l : Chs) (st k : Int) : rdV l st [] k = readV (chAt l k.toNat) st := by simp [rdV, lastW]
theorem put_low {ps : List Ve} (hp : ∀ p ∈ ps, putB p.ts p.v = true) : ∀ p ∈ ps, 0 ≤ p.ts := fun p h => by
  have := hp p h
  simp only [putB, keyS, Bool.and_eq_true, decide_eq_true_eq] at this
  exact this.1.1
theorem chain_below {key now : Int} {x : List Ve} (h : chainB key now x = true) : ∀ i, i < x.length → tsAt x i < now + 1 := fun i hi => by
  have := (okB_parts (chainB_at h hi)).2.1
  omega
/-- A chain behind the writes of the next hour. -/
theorem wr_at {l : Chs} {now k : Int} {ps : List Ve} (h : storeB l now = true) (hk : 0 ≤ k ∧ k < 16) (hp : ∀ p ∈ ps, putB p.ts p.v = true) : chAt (wrAll (now + 1) l ps) k.toNat = chAt l k.toNat ++ newV (now + 1) (lastW k ps) := by
  have hl : k.toNat < l.length := by have := (storeB_all h).1; omega
  have hw := wrAll_at (t := now + 1) (k := k.toNat) ps hl (chain_below (chainsB_at (storeB_all h).2.2.2 hl)) (put_low hp)
  rw [hw, chAt_eq hl]
  have e : ((k.toNat : Nat) : Int) = k := by omega
  rw [e]
/-- What others write is not read at the start's hour. -/
theorem rd_old {l : Chs} {now k : Int} {ps : List Ve} (h : storeB l now = true) (hk : 0 ≤ k ∧ k < 16) (hp : ∀ p ∈ ps, putB p.ts p.v = true) : readV (chAt (wrAll (now + 1) l ps) k.toNat) now = readV (chAt l k.toNat) now := by
  rw [wr_at h hk hp]; exact readV_new (by omega) _
theorem chain_of {l : Chs} {now k : Int} (h : storeB l now = true) (hk : 0 ≤ k ∧ k < 16) : chainB k now (chAt l k.toNat) = true := by
  have hl : k.toNat < l.length := by have := (storeB_all h).1; omega
  have := chainsB_at (storeB_all h).2.2.2 hl
  have e : ((k.toNat : Nat) : Int) = k := by omega
  rw [e] at this
  rwa [chAt_eq hl]
/-- Nothing was written behind Now. -/
theorem conf_none {l : Chs} {now k : Int} {ws : List Ve} (h : storeB l now = true) (hk : 0 ≤ k ∧ k < 16) : confB l now [k] ws = false := by
  have hc := chgB_new (chain_of h hk) none
  simp only [newV, List.append_nil, Option.isSome_none] at hc
  simp [confB, hc]
/-- The second of two that read and write one thing is refused. -/
theorem conf_second {l : Chs} {now k v : Int} (h : storeB l now = true) (hk : 0 ≤ k ∧ k < 16) (hp : putB k v = true) : confB (wrAll (now + 1) l [⟨k, v⟩]) now [k] [⟨k, v⟩] = true := by
  have hw := wr_at (ps := [⟨k, v⟩]) h hk (by simpa using hp)
  have e : lastW k [⟨k, v⟩] = some v := by simp [lastW]
  rw [e] at hw
  have hc := chgB_new (chain_of h hk) (some v)
  simp [confB, hw, hc]
theorem rd_new {l : Chs} {now k v : Int} (h : storeB l now = true) (hk : 0 ≤ k ∧ k < 16) (hp : putB k v = true) : readV (chAt (wrAll (now + 1) l [⟨k, v⟩]) k.toNat) (now + 1) = v := by
  have hw := wr_at (ps := [⟨k, v⟩]) h hk (by simpa using hp)
  have e : lastW k [⟨k, v⟩] = some v := by simp [lastW]
  rw [hw, e]; exact readV_now
/-- What is read of a right chain is a value of its key, or 0. -/
theorem readV_val {key now : Int} {x : List Ve} (h : chainB key now x = true) (ts : Int) : readV x ts = 0 ∨ valB key (readV x ts) = true := by
  have hall : ∀ p ∈ x, valB key p.v = true := fun p hp => by
    obtain ⟨i, hi, rfl⟩ := List.mem_iff_getElem.1 hp
    have := (okB_parts (chainB_at h hi)).2.2
    rwa [vAt_eq hi] at this
  have go : ∀ (x : List Ve) (v : Int), (∀ p ∈ x, valB key p.v = true) → (v = 0 ∨ valB key v = true) → (x.foldl (fun v x => if x.ts ≤ ts then x.v else v) v = 0 ∨ valB key (x.foldl (fun v x => if x.ts ≤ ts then x.v else v) v) = true) := by
    intro x
    induction x with
    | nil => intro v _ hv; exact hv
    | cons p r ih =>
      intro v hp hv
      rw [List.foldl_cons]
      refine ih _ (fun q hq => hp q (List.mem_cons_of_mem _ hq)) ?_
      by_cases hc : p.ts ≤ ts
      · simp only [hc, if_true]; exact .inr (hp p (List.mem_cons_self ..))
      · simp only [hc, if_false]; exact hv
  exact go x 0 hall (.inl rfl)
theorem put_three {k : Int} (hk : 0 ≤ k ∧ k < 16) : putB k 3 = true := by
  have h1 : keyS k = true := by simp [keyS, hk]
  have h2 : valB k 3 = true := by unfold valB; split <;> decide
  simp [putB, h1, h2]
theorem put_next {k v : Int} (hk : 0 ≤ k ∧ k < 16) (he : k % 2 = 0) (hv : v = 0 ∨ valB k v = true) (hlt : v < 2147483647) : putB k (v + 1) = true := by
  have h1 : keyS k = true := by simp [keyS, hk]
  have h2 : ¬ k % 2 = 1 := by omega
  have h3 : -2147483648 ≤ v := by
    rcases hv with rfl | hv
    · decide
    · simp only [valB, h2, if_false, intB, decide_eq_true_eq] at hv; exact hv.1
  have h4 : valB k (v + 1) = true := by
    simp only [valB, h2, if_false, intB, decide_eq_true_eq]; omega
  simp [putB, h1, h4]
theorem co_first {l : Chs} {now k v : Int} (h : storeB l now = true) (hk : 0 ≤ k ∧ k < 16) (hn : now ≠ 100000) : CoIs l now now [k] [⟨k, v⟩] (wrAll (now + 1) l [⟨k, v⟩]) (now + 1) (now + 1) 0 :=
  .inr (.inr (.inr ⟨by simp, conf_none h hk, hn, rfl, rfl, rfl, rfl⟩))
theorem co_second {l : Chs} {now k v : Int} (h : storeB l now = true) (hk : 0 ≤ k ∧ k < 16) (hp : putB k v = true) : CoIs (wrAll (now + 1) l [⟨k, v⟩]) (now + 1) now [k] [⟨k, v⟩] (wrAll (now + 1) l [⟨k, v⟩]) (now + 1) 0 16 :=
  .inr (.inl ⟨by simp, conf_second h hk hp, rfl, rfl, rfl, rfl⟩)
theorem co_reads (l : Chs) (now st : Int) (rs : List Int) : CoIs l now st rs [] l now st 0 := .inl ⟨rfl, rfl, rfl, rfl, rfl⟩
theorem reads_snoc {rs : List Int} {key : Int} (h : readsB rs = true) (hk : 0 ≤ key ∧ key < 16) (hn : key ∉ rs) : readsB (rs ++ [key]) = true := readsB_true fun i hi => by
  rw [rdB_eq hi]
  by_cases hlt : i < rs.length
  · obtain ⟨h1, h2⟩ := readsB_at h hlt
    have e : (rs ++ [key])[i] = rs[i] := List.getElem_append_left hlt
    have e2 : (rs ++ [key]).take i = rs.take i := by rw [List.take_append_of_le_length (by omega)]
    rw [e, e2]
    simp only [Bool.and_eq_true, inS_iff, Bool.not_eq_true', decide_eq_false_iff_not]
    exact ⟨by omega, h2⟩
  · obtain rfl : i = rs.length := by simp at hi; omega
    have e : (rs ++ [key])[rs.length] = key := by simp
    have e2 : (rs ++ [key]).take rs.length = rs := by simp
    rw [e, e2]
    simp only [Bool.and_eq_true, inS_iff, Bool.not_eq_true', decide_eq_false_iff_not]
    exact ⟨by omega, hn⟩
theorem reads_rdK {rs : List Int} {ws : List Ve} {key : Int} (h : readsB rs = true) (hk : 0 ≤ key ∧ key < 16) : readsB (rdK rs ws key) = true := by
  unfold rdK
  by_cases hc : (lastW key ws).isSome = true ∨ key ∈ rs
  · rw [if_pos hc]; exact h
  · rw [if_neg hc]; exact reads_snoc h hk (fun hm => hc (.inr hm))
theorem puts_snoc {ws : List Ve} {p : Ve} (h : putsB ws = true) (hl : ws.length < 400) (hp : putB p.ts p.v = true) : putsB (ws ++ [p]) = true := by
  simp only [putsB, Bool.and_eq_true, decide_eq_true_eq, List.all_append, List.all_cons, List.all_nil, Bool.and_true, List.length_append, List.length_cons, List.length_nil] at h ⊢
  exact ⟨by omega, h.2, hp⟩
theorem tx_snoc {l : Chs} {now st : Int} {rs : List Int} {ws : List Ve} {p : Ve} (h : txnB l now st rs ws = true) (hl : ws.length < 400) (hp : putB p.ts p.v = true) : txnB l now st rs (ws ++ [p]) = true := by
  have h0 := txnB_all h
  simp only [txnB, txB, h0.1, Bool.true_and, Bool.and_eq_true, inS_iff]
  exact ⟨⟨h0.2.1, puts_snoc h0.2.2.1 hl hp⟩, h0.2.2.2⟩
theorem tx_rdK {l : Chs} {now st key : Int} {rs : List Int} {ws : List Ve} (h : txnB l now st rs ws = true) (hk : 0 ≤ key ∧ key < 16) : txnB l now st (rdK rs ws key) ws = true := by
  have h0 := txnB_all h
  simp only [txnB, txB, h0.1, Bool.true_and, Bool.and_eq_true, inS_iff]
  exact ⟨⟨h0.2.1, h0.2.2.1⟩, reads_rdK h0.2.2.2 hk⟩
end Go.Proofs.Ytoahbfledamnnaa.G
namespace Go.Proofs.Ytoahbfledamnnaa.G
open Go.ChangeShapes Go.WideShapes Go.ChangeAt Go.RowKit
set_option linter.unusedVariables false

theorem NuOwn.kept2 {W W' : World} {a : Option Addr} {x : List Int} (h : NuOwn 0 W.heap.size W a x) (hs : W.heap.size ≤ W'.heap.size) (hk : ∀ (g : Nat) (cs : Array Value), W.heap[g]? = some (.cells cs 3 (0, 0)) → W'.heap[g]? = W.heap[g]?) : NuOwn 0 W'.heap.size W' a x := by
  rcases h with h | ⟨g, cs, e, h1, h2, h3, h4⟩
  · exact .inl h
  · exact .inr ⟨g, cs, e, h1, by omega, (hk g cs h3).trans h3, h4⟩
theorem NuOwn.row0 {W : World} {a : Option Addr} {x : List Int} (h : NuOwn 0 W.heap.size W a x) : NuRow 0 W.heap.size W a x := NuOwn.row h
theorem SrcSt.ne {W : World} {L : Nat} {sa : Option Addr} {n kk g : Nat} {T : TypeId} {cs : Array Value} (h : SrcSt W L sa n kk) (hg : W.heap[g]? = some (.cells cs T (0, 0))) (hT : T ≠ 78) : g ≠ L := by
  rintro rfl
  obtain ⟨c, p, sd, h1, _⟩ := h
  rw [h1] at hg
  simp only [Option.some.injEq, Obj.cells.injEq] at hg
  exact hT hg.2.1.symm
abbrev txZ : Array Value := #[.int .i64 0, .slice none 0 0, .slice none 0 0]
def rdTup (st : Int) (ra : Option Addr) (rn rq : Nat) (wv : Value) (z : Int) : Value := .tuple #[.agg #[.int .i64 st, .slice ra rn rq, wv], .int .i64 z]
/-- The region 'y, _ := l07Read(x, t, s.next(16))': 3 draws the key, 4 reads, 5 and 6 move, 8 makes the variable, 9 stores. -/
structure RdJ (w9 : World) (L : Nat) (sa : Option Addr) (n kk : Nat) (st : Int) (rs : List Int) (ws : List Ve) (wv : Value) (D : Array Bool) (u : Nat → Value) (W : World) : Prop where
  grown : w9.grownBy W (some L)
  s0 : D.getD 3 false = false → SrcSt W L sa n kk
  s1 : D.getD 3 false = true → SrcSt W L sa n (kk + 1) ∧ ∃ t : Nat, t < 16 ∧ u 29 = .int .i64 t
  rd : D.getD 4 false = true → ∃ (t : Nat) (ra : Option Addr) (rq : Nat) (z : Int), t < 16 ∧ u 30 = rdTup st ra (rdK rs ws t).length rq wv z ∧ NuOwn 0 W.heap.size W ra (rdK rs ws t) ∧ (rdK rs ws t).length ≤ rq ∧ (D.getD 9 false = true → ∃ y, u 7 = .pointer (some ⟨y, 0, none⟩) ∧ w9.heap.size ≤ y ∧ W.heap[y]? = some (.cells #[.int .i64 st, .slice ra (rdK rs ws t).length rq, wv] 30 (0, 0)))
  vr : D.getD 8 false = true → D.getD 9 false = false → ∃ y, u 7 = .pointer (some ⟨y, 0, none⟩) ∧ w9.heap.size ≤ y ∧ W.heap[y]? = some (.cells txZ 30 (0, 0))
  m5 : D.getD 5 false = true → u 25 = u 30 ∧ D.getD 4 false = true
  m6 : D.getD 6 false = true → (∃ x z, u 30 = .tuple #[x, z] ∧ u 31 = x) ∧ D.getD 4 false = true
  o9 : D.getD 9 false = true → D.getD 4 false = true ∧ D.getD 8 false = true
section
variable {w9 W W' : World} {L : Nat} {sa : Option Addr} {n kk : Nat} {st : Int} {rs : List Int} {ws : List Ve} {wv : Value} {D : Array Bool} {u : Nat → Value}
theorem RdJ.start {m : Nat} (h : SrcSt w9 L sa n kk) : RdJ w9 L sa n kk st rs ws wv (Array.replicate m false) u w9.drew := by
  have no : ∀ j, (Array.replicate m false).getD j false = true → False := fun j hj => by
    by_cases hx : j < m
    · simp [hx] at hj
    · simp [hx] at hj
  exact ⟨grown_below (grown_refl _ _) (Below.refl _ _).drew, fun _ => h, fun h => (no _ h).elim, fun h => (no _ h).elim, fun h => (no _ h).elim, fun h => (no _ h).elim, fun h => (no _ h).elim, fun h => (no _ h).elim⟩
theorem RdJ.src (h : RdJ w9 L sa n kk st rs ws wv D u W) : SrcSt W L sa n (kk + 1) := by
  cases h3 : D.getD 3 false
  · exact (h.s0 h3).more (by omega)
  · exact (h.s1 h3).1
/-- An operation that turns no block and none of these slots. -/
theorem RdJ.step (h : RdJ w9 L sa n kk st rs ws wv D u W) {i d : Nat} {val : Value} (hi : i ≠ 3 ∧ i ≠ 4 ∧ i ≠ 5 ∧ i ≠ 6 ∧ i ≠ 8 ∧ i ≠ 9) (hd : d ≠ 29 ∧ d ≠ 30 ∧ d ≠ 25 ∧ d ≠ 31 ∧ d ≠ 7) : RdJ w9 L sa n kk st rs ws wv (D.setIfInBounds i true) (upd u d val) W := by
  obtain ⟨i3, i4, i5, i6, i8, i9⟩ := hi
  obtain ⟨d1, d2, d3, d4, d5⟩ := hd
  have e3 : (D.setIfInBounds i true).getD 3 false = D.getD 3 false := getD_set_ne false i3
  have e4 : (D.setIfInBounds i true).getD 4 false = D.getD 4 false := getD_set_ne false i4
  have e5 : (D.setIfInBounds i true).getD 5 false = D.getD 5 false := getD_set_ne false i5
  have e6 : (D.setIfInBounds i true).getD 6 false = D.getD 6 false := getD_set_ne false i6
  have e8 : (D.setIfInBounds i true).getD 8 false = D.getD 8 false := getD_set_ne false i8
  have e9 : (D.setIfInBounds i true).getD 9 false = D.getD 9 false := getD_set_ne false i9
  have f1 : upd u d val 29 = u 29 := upd_ne _ _ (Ne.symm d1)
  have f2 : upd u d val 30 = u 30 := upd_ne _ _ (Ne.symm d2)
  have f3 : upd u d val 25 = u 25 := upd_ne _ _ (Ne.symm d3)
  have f4 : upd u d val 31 = u 31 := upd_ne _ _ (Ne.symm d4)
  have f5 : upd u d val 7 = u 7 := upd_ne _ _ (Ne.symm d5)
  obtain ⟨h1, h2, h3, h4, h5, h6, h7, h8⟩ := h
  exact ⟨h1, by rw [e3]; exact h2, by rw [e3, f1]; exact h3, by rw [e4, e9, f2, f5]; exact h4, by rw [e8, e9, f5]; exact h5, by rw [e4, e5, f2, f3]; exact h6, by rw [e4, e6, f2, f4]; exact h7, by rw [e4, e8, e9]; exact h8⟩
/-- The key is drawn. -/
theorem RdJ.three (h : RdJ w9 L sa n kk st rs ws wv D u W) (hg : W.grownBy W' (some L)) (hs : 3 < D.size) {t : Nat} (ht : t < 16) (hS : SrcSt W' L sa n (kk + 1)) : RdJ w9 L sa n kk st rs ws wv (D.setIfInBounds 3 true) (upd u 29 (.int .i64 t)) W' := by
  have hsrc := h.src
  have e4 : (D.setIfInBounds 3 true).getD 4 false = D.getD 4 false := getD_set_ne false (by omega)
  have e5 : (D.setIfInBounds 3 true).getD 5 false = D.getD 5 false := getD_set_ne false (by omega)
  have e6 : (D.setIfInBounds 3 true).getD 6 false = D.getD 6 false := getD_set_ne false (by omega)
  have e8 : (D.setIfInBounds 3 true).getD 8 false = D.getD 8 false := getD_set_ne false (by omega)
  have e9 : (D.setIfInBounds 3 true).getD 9 false = D.getD 9 false := getD_set_ne false (by omega)
  have f2 : upd u 29 (Value.int .i64 t) 30 = u 30 := upd_ne _ _ (by omega)
  have f3 : upd u 29 (Value.int .i64 t) 25 = u 25 := upd_ne _ _ (by omega)
  have f4 : upd u 29 (Value.int .i64 t) 31 = u 31 := upd_ne _ _ (by omega)
  have f5 : upd u 29 (Value.int .i64 t) 7 = u 7 := upd_ne _ _ (by omega)
  have ok : ∀ (g : Nat) (cs : Array Value) (T : TypeId), W.heap[g]? = some (.cells cs T (0, 0)) → T ≠ 78 → W'.heap[g]? = W.heap[g]? := fun g cs T hgT hT => hg.block g (Array.getElem?_eq_some_iff.1 hgT).1 (by have := hsrc.ne hgT hT; simpa using this)
  obtain ⟨h1, h2, h3, h4, h5, h6, h7, h8⟩ := h
  refine ⟨grown_trans h1 hg, fun e => by simp [hs] at e, fun _ => ⟨hS, t, ht, upd_at _ _ _⟩, ?_, ?_, by rw [e4, e5, f2, f3]; exact h6, by rw [e4, e6, f2, f4]; exact h7, by rw [e4, e8, e9]; exact h8⟩
  · rw [e4, e9, f2, f5]
    intro q
    obtain ⟨t, ra, rq, z, r1, r2, r3, r4, r5⟩ := h4 q
    refine ⟨t, ra, rq, z, r1, r2, r3.kept2 hg.size (fun g cs hc => ok g cs _ hc (by decide)), r4, fun q9 => ?_⟩
    obtain ⟨y, y1, y2, y3⟩ := r5 q9
    exact ⟨y, y1, y2, (ok y _ _ y3 (by decide)).trans y3⟩
  · rw [e8, e9, f5]
    intro q8 q9
    obtain ⟨y, y1, y2, y3⟩ := h5 q8 q9
    exact ⟨y, y1, y2, (ok y _ _ y3 (by decide)).trans y3⟩
/-- The reading. -/
theorem RdJ.four (h : RdJ w9 L sa n kk st rs ws wv D u W) (hb : Below W.heap.size W W') (h4 : D.getD 4 false = false) {t : Nat} {ra : Option Addr} {rq : Nat} {z : Int} (ht : t < 16) (hr : NuOwn 0 W'.heap.size W' ra (rdK rs ws t)) (hc : (rdK rs ws t).length ≤ rq) : RdJ w9 L sa n kk st rs ws wv (D.setIfInBounds 4 true) (upd u 30 (rdTup st ra (rdK rs ws t).length rq wv z)) W' := by
  have hL := h.src.lt
  have e3 : (D.setIfInBounds 4 true).getD 3 false = D.getD 3 false := getD_set_ne false (by omega)
  have e5 : (D.setIfInBounds 4 true).getD 5 false = D.getD 5 false := getD_set_ne false (by omega)
  have e6 : (D.setIfInBounds 4 true).getD 6 false = D.getD 6 false := getD_set_ne false (by omega)
  have e8 : (D.setIfInBounds 4 true).getD 8 false = D.getD 8 false := getD_set_ne false (by omega)
  have e9 : (D.setIfInBounds 4 true).getD 9 false = D.getD 9 false := getD_set_ne false (by omega)
  have f1 : upd u 30 (rdTup st ra (rdK rs ws t).length rq wv z) 29 = u 29 := upd_ne _ _ (by omega)
  have f5 : upd u 30 (rdTup st ra (rdK rs ws t).length rq wv z) 7 = u 7 := upd_ne _ _ (by omega)
  obtain ⟨h1, h2, h3, _, h5, h6, h7, h8⟩ := h
  have n5 : ¬ D.getD 5 false = true := fun e => by have := (h6 e).2; rw [h4] at this; cases this
  have n6 : ¬ D.getD 6 false = true := fun e => by have := (h7 e).2; rw [h4] at this; cases this
  have n9 : ¬ D.getD 9 false = true := fun e => by have := (h8 e).1; rw [h4] at this; cases this
  refine ⟨grown_below h1 hb, ?_, ?_, fun _ => ⟨t, ra, rq, z, ht, upd_at _ _ _, hr, hc, fun e => (n9 (e9 ▸ e)).elim⟩, ?_, fun e => (n5 (e5 ▸ e)).elim, fun e => (n6 (e6 ▸ e)).elim, fun e => (n9 (e9 ▸ e)).elim⟩
  · rw [e3]; intro q; exact (h2 q).move (hb.block L hL)
  · rw [e3, f1]; intro q; exact ⟨(h3 q).1.move (hb.block L hL), (h3 q).2⟩
  · rw [e8, e9, f5]
    intro q8 q9
    obtain ⟨y, y1, y2, y3⟩ := h5 q8 q9
    exact ⟨y, y1, y2, (hb.block y (Array.getElem?_eq_some_iff.1 y3).1).trans y3⟩
theorem RdJ.five (h : RdJ w9 L sa n kk st rs ws wv D u W) (h4 : D.getD 4 false = true) : RdJ w9 L sa n kk st rs ws wv (D.setIfInBounds 5 true) (upd u 25 (u 30)) W := by
  have e3 : (D.setIfInBounds 5 true).getD 3 false = D.getD 3 false := getD_set_ne false (by omega)
  have e4 : (D.setIfInBounds 5 true).getD 4 false = D.getD 4 false := getD_set_ne false (by omega)
  have e6 : (D.setIfInBounds 5 true).getD 6 false = D.getD 6 false := getD_set_ne false (by omega)
  have e8 : (D.setIfInBounds 5 true).getD 8 false = D.getD 8 false := getD_set_ne false (by omega)
  have e9 : (D.setIfInBounds 5 true).getD 9 false = D.getD 9 false := getD_set_ne false (by omega)
  have f1 : upd u 25 (u 30) 29 = u 29 := upd_ne _ _ (by omega)
  have f2 : upd u 25 (u 30) 30 = u 30 := upd_ne _ _ (by omega)
  have f4 : upd u 25 (u 30) 31 = u 31 := upd_ne _ _ (by omega)
  have f5 : upd u 25 (u 30) 7 = u 7 := upd_ne _ _ (by omega)
  obtain ⟨h1, h2, h3, h4', h5, h6, h7, h8⟩ := h
  exact ⟨h1, by rw [e3]; exact h2, by rw [e3, f1]; exact h3, by rw [e4, e9, f2, f5]; exact h4', by rw [e8, e9, f5]; exact h5, fun _ => ⟨by rw [upd_at, f2], by rw [e4]; exact h4⟩, by rw [e4, e6, f2, f4]; exact h7, by rw [e4, e8, e9]; exact h8⟩
theorem RdJ.six (h : RdJ w9 L sa n kk st rs ws wv D u W) (h4 : D.getD 4 false = true) {x z : Value} (hx : u 30 = .tuple #[x, z]) : RdJ w9 L sa n kk st rs ws wv (D.setIfInBounds 6 true) (upd u 31 x) W := by
  have e3 : (D.setIfInBounds 6 true).getD 3 false = D.getD 3 false := getD_set_ne false (by omega)
  have e4 : (D.setIfInBounds 6 true).getD 4 false = D.getD 4 false := getD_set_ne false (by omega)
  have e5 : (D.setIfInBounds 6 true).getD 5 false = D.getD 5 false := getD_set_ne false (by omega)
  have e8 : (D.setIfInBounds 6 true).getD 8 false = D.getD 8 false := getD_set_ne false (by omega)
  have e9 : (D.setIfInBounds 6 true).getD 9 false = D.getD 9 false := getD_set_ne false (by omega)
  have f1 : upd u 31 x 29 = u 29 := upd_ne _ _ (by omega)
  have f2 : upd u 31 x 30 = u 30 := upd_ne _ _ (by omega)
  have f3 : upd u 31 x 25 = u 25 := upd_ne _ _ (by omega)
  have f5 : upd u 31 x 7 = u 7 := upd_ne _ _ (by omega)
  obtain ⟨h1, h2, h3, h4', h5, h6, h7, h8⟩ := h
  exact ⟨h1, by rw [e3]; exact h2, by rw [e3, f1]; exact h3, by rw [e4, e9, f2, f5]; exact h4', by rw [e8, e9, f5]; exact h5, by rw [e4, e5, f2, f3]; exact h6, fun _ => ⟨⟨x, z, by rw [f2]; exact hx, upd_at _ _ _⟩, by rw [e4]; exact h4⟩, by rw [e4, e8, e9]; exact h8⟩
/-- The variable. -/
theorem RdJ.eight (h : RdJ w9 L sa n kk st rs ws wv D u W) (hb : Below W.heap.size W W') (h8 : D.getD 8 false = false) (hc : W'.heap[W.heap.size]? = some (.cells txZ 30 (0, 0))) : RdJ w9 L sa n kk st rs ws wv (D.setIfInBounds 8 true) (upd u 7 (.pointer (some ⟨W.heap.size, 0, none⟩))) W' := by
  have hL := h.src.lt
  have e3 : (D.setIfInBounds 8 true).getD 3 false = D.getD 3 false := getD_set_ne false (by omega)
  have e4 : (D.setIfInBounds 8 true).getD 4 false = D.getD 4 false := getD_set_ne false (by omega)
  have e5 : (D.setIfInBounds 8 true).getD 5 false = D.getD 5 false := getD_set_ne false (by omega)
  have e6 : (D.setIfInBounds 8 true).getD 6 false = D.getD 6 false := getD_set_ne false (by omega)
  have e9 : (D.setIfInBounds 8 true).getD 9 false = D.getD 9 false := getD_set_ne false (by omega)
  have f1 : upd u 7 (Value.pointer (some ⟨W.heap.size, 0, none⟩)) 29 = u 29 := upd_ne _ _ (by omega)
  have f2 : upd u 7 (Value.pointer (some ⟨W.heap.size, 0, none⟩)) 30 = u 30 := upd_ne _ _ (by omega)
  have f3 : upd u 7 (Value.pointer (some ⟨W.heap.size, 0, none⟩)) 25 = u 25 := upd_ne _ _ (by omega)
  have f4 : upd u 7 (Value.pointer (some ⟨W.heap.size, 0, none⟩)) 31 = u 31 := upd_ne _ _ (by omega)
  obtain ⟨h1, h2, h3, h4, h5, h6, h7, h8'⟩ := h
  have hz := h1.size
  have n9 : ¬ D.getD 9 false = true := fun e => by have := (h8' e).2; rw [h8] at this; cases this
  refine ⟨grown_below h1 hb, ?_, ?_, ?_, fun _ _ => ⟨W.heap.size, upd_at _ _ _, hz, hc⟩, by rw [e4, e5, f2, f3]; exact h6, by rw [e4, e6, f2, f4]; exact h7, fun e => (n9 (e9 ▸ e)).elim⟩
  · rw [e3]; intro q; exact (h2 q).move (hb.block L hL)
  · rw [e3, f1]; intro q; exact ⟨(h3 q).1.move (hb.block L hL), (h3 q).2⟩
  · rw [e4, f2]
    intro q
    obtain ⟨t, ra, rq, z, r1, r2, r3, r4, _⟩ := h4 q
    exact ⟨t, ra, rq, z, r1, r2, r3.kept2 hb.size (fun g cs hc => hb.block g (Array.getElem?_eq_some_iff.1 hc).1), r4, fun e => (n9 (e9 ▸ e)).elim⟩
/-- The store. -/
theorem RdJ.nine (h : RdJ w9 L sa n kk st rs ws wv D u W) (hs : 9 < D.size) (h8 : D.getD 8 false = true) (h9 : D.getD 9 false = false) {y t : Nat} {ra : Option Addr} {rq : Nat} {z : Int} (ht : t < 16) (q1 : u 7 = .pointer (some ⟨y, 0, none⟩)) (q2 : w9.heap.size ≤ y) (q3 : W.heap[y]? = some (.cells txZ 30 (0, 0))) (h4 : D.getD 4 false = true) (q4 : u 30 = rdTup st ra (rdK rs ws t).length rq wv z) (q5 : NuOwn 0 W.heap.size W ra (rdK rs ws t)) (q6 : (rdK rs ws t).length ≤ rq) (hg : ∀ g, g ≠ y → W'.heap[g]? = W.heap[g]?) (hz : W'.heap.size = W.heap.size) (hgr : w9.grownBy W' (some L)) (hc : W'.heap[y]? = some (.cells #[.int .i64 st, .slice ra (rdK rs ws t).length rq, wv] 30 (0, 0))) {val : Value} : RdJ w9 L sa n kk st rs ws wv (D.setIfInBounds 9 true) (upd u 99 val) W' := by
  have hne := h.src.ne q3 (by decide)
  have e3 : (D.setIfInBounds 9 true).getD 3 false = D.getD 3 false := getD_set_ne false (by omega)
  have e4 : (D.setIfInBounds 9 true).getD 4 false = D.getD 4 false := getD_set_ne false (by omega)
  have e5 : (D.setIfInBounds 9 true).getD 5 false = D.getD 5 false := getD_set_ne false (by omega)
  have e6 : (D.setIfInBounds 9 true).getD 6 false = D.getD 6 false := getD_set_ne false (by omega)
  have e8 : (D.setIfInBounds 9 true).getD 8 false = D.getD 8 false := getD_set_ne false (by omega)
  have f1 : upd u 99 val 29 = u 29 := upd_ne _ _ (by omega)
  have f2 : upd u 99 val 30 = u 30 := upd_ne _ _ (by omega)
  have f3 : upd u 99 val 25 = u 25 := upd_ne _ _ (by omega)
  have f4 : upd u 99 val 31 = u 31 := upd_ne _ _ (by omega)
  have f5 : upd u 99 val 7 = u 7 := upd_ne _ _ (by omega)
  obtain ⟨h1, h2, h3, _, h5, h6, h7, h8'⟩ := h
  refine ⟨hgr, ?_, ?_, fun _ => ⟨t, ra, rq, z, ht, by rw [f2]; exact q4, ?_, q6, fun _ => ⟨y, by rw [f5]; exact q1, q2, hc⟩⟩, fun _ e => by simp [hs] at e, by rw [e4, e5, f2, f3]; exact h6, by rw [e4, e6, f2, f4]; exact h7, fun _ => by rw [e4, e8]; exact ⟨h4, h8⟩⟩
  · rw [e3]; intro q; exact (h2 q).move (hg L (Ne.symm hne))
  · rw [e3, f1]; intro q; exact ⟨(h3 q).1.move (hg L (Ne.symm hne)), (h3 q).2⟩
  · exact q5.kept2 (by omega) (fun g cs hcs => hg g (by rintro rfl; rw [q3] at hcs; simp at hcs))
end
/-- The region 't.Writes = append(t.Writes, s.put())': 3 draws, 4 makes the row of one, 5 appends. -/
structure PtJ (w : World) (L X R : Nat) (box : Array Value) (sa : Option Addr) (n kk : Nat) (st : Int) (rs : List Int) (ra : Option Addr) (rq : Nat) (ws : List Ve) (wv : Value) (D : Array Bool) (u : Nat → Value) (W : World) : Prop where
  grown : w.grownBy W (some L)
  tx : W.heap[X]? = some (.cells #[.int .i64 st, .slice ra rs.length rq, wv] 30 (0, 0))
  rs0 : W.heap[R]? = some (.cells txZ 30 (0, 0))
  st : W.heap[w.heap.size]? = some (.cells box 25 (0, 0))
  nu : NuOwn 0 W.heap.size W ra rs
  s0 : D.getD 3 false = false → SrcSt W L sa n kk
  s1 : D.getD 3 false = true → SrcSt W L sa n (kk + 3) ∧ ∃ p : Ve, u 37 = .agg #[.int .i64 p.ts, .int .i64 p.v] ∧ putB p.ts p.v = true
  own : D.getD 5 false = false → W.ownsRow w.heap.size 43 2 wv ws.length (veCells ws)
  one : D.getD 4 false = true → D.getD 5 false = false → ∃ (p : Ve) (h : Nat), putB p.ts p.v = true ∧ u 38 = .slice (some ⟨h, 0, none⟩) 1 1 ∧ W.heap[h]? = some (.cells #[.int .i64 p.ts, .int .i64 p.v] 43 (0, 0))
  app : D.getD 5 false = true → ∃ (p : Ve) (g cap : Nat), putB p.ts p.v = true ∧ u 39 = .slice (some ⟨g, 0, none⟩) (ws.length + 1) cap ∧ W.ownsRow w.heap.size 43 2 (.slice (some ⟨g, 0, none⟩) (ws.length + 1) cap) (ws.length + 1) (veCells (ws ++ [p]))
  c4 : D.getD 4 false = true → D.getD 3 false = true
  c5 : D.getD 5 false = true → D.getD 4 false = true
section
variable {w W W' : World} {L X R : Nat} {box : Array Value} {sa : Option Addr} {n kk : Nat} {st : Int} {rs : List Int} {ra : Option Addr} {rq : Nat} {ws : List Ve} {wv : Value} {D : Array Bool} {u : Nat → Value}
theorem PtJ.src (h : PtJ w L X R box sa n kk st rs ra rq ws wv D u W) : SrcSt W L sa n (kk + 3) := by
  cases h3 : D.getD 3 false
  · exact (h.s0 h3).more (by omega)
  · exact (h.s1 h3).1
theorem PtJ.start {w9 : World} {m : Nat} (hg : w.grownBy w9 (some L)) (hX : w9.heap[X]? = some (.cells #[.int .i64 st, .slice ra rs.length rq, wv] 30 (0, 0))) (hR : w9.heap[R]? = some (.cells txZ 30 (0, 0))) (hB : w9.heap[w.heap.size]? = some (.cells box 25 (0, 0))) (hn : NuOwn 0 w9.heap.size w9 ra rs) (hS : SrcSt w9 L sa n kk) (ho : w9.ownsRow w.heap.size 43 2 wv ws.length (veCells ws)) : PtJ w L X R box sa n kk st rs ra rq ws wv (Array.replicate m false) u w9.drew := by
  have no : ∀ j, (Array.replicate m false).getD j false = true → False := fun j hj => by
    by_cases hx : j < m
    · simp [hx] at hj
    · simp [hx] at hj
  exact ⟨grown_below hg (Below.refl _ _).drew, hX, hR, hB, hn, fun _ => hS, fun h => (no _ h).elim, fun _ => ho, fun h => (no _ h).elim, fun h => (no _ h).elim, fun h => (no _ h).elim, fun h => (no _ h).elim⟩
theorem PtJ.step (h : PtJ w L X R box sa n kk st rs ra rq ws wv D u W) {i d : Nat} {val : Value} (hi : i ≠ 3 ∧ i ≠ 4 ∧ i ≠ 5) (hd : d ≠ 37 ∧ d ≠ 38 ∧ d ≠ 39) : PtJ w L X R box sa n kk st rs ra rq ws wv (D.setIfInBounds i true) (upd u d val) W := by
  obtain ⟨i3, i4, i5⟩ := hi
  obtain ⟨d1, d2, d3⟩ := hd
  have e3 : (D.setIfInBounds i true).getD 3 false = D.getD 3 false := getD_set_ne false i3
  have e4 : (D.setIfInBounds i true).getD 4 false = D.getD 4 false := getD_set_ne false i4
  have e5 : (D.setIfInBounds i true).getD 5 false = D.getD 5 false := getD_set_ne false i5
  have f1 : upd u d val 37 = u 37 := upd_ne _ _ (Ne.symm d1)
  have f2 : upd u d val 38 = u 38 := upd_ne _ _ (Ne.symm d2)
  have f3 : upd u d val 39 = u 39 := upd_ne _ _ (Ne.symm d3)
  obtain ⟨h1, h2, h3, hB, h4, h5, h6, h7, h8, h9, h10, h11⟩ := h
  exact ⟨h1, h2, h3, hB, h4, by rw [e3]; exact h5, by rw [e3, f1]; exact h6, by rw [e5]; exact h7, by rw [e4, e5, f2]; exact h8, by rw [e5, f3]; exact h9, by rw [e3, e4]; exact h10, by rw [e4, e5]; exact h11⟩
theorem PtJ.three (h : PtJ w L X R box sa n kk st rs ra rq ws wv D u W) (hg : W.grownBy W' (some L)) (hs : 3 < D.size) (h3 : D.getD 3 false = false) {p : Ve} (hp : putB p.ts p.v = true) (hS : SrcSt W' L sa n (kk + 3)) : PtJ w L X R box sa n kk st rs ra rq ws wv (D.setIfInBounds 3 true) (upd u 37 (.agg #[.int .i64 p.ts, .int .i64 p.v])) W' := by
  have hsrc := h.src
  have e4 : (D.setIfInBounds 3 true).getD 4 false = D.getD 4 false := getD_set_ne false (by omega)
  have e5 : (D.setIfInBounds 3 true).getD 5 false = D.getD 5 false := getD_set_ne false (by omega)
  have ok : ∀ (g : Nat) (cs : Array Value) (T : TypeId), W.heap[g]? = some (.cells cs T (0, 0)) → T ≠ 78 → W'.heap[g]? = W.heap[g]? := fun g cs T hgT hT => hg.block g (Array.getElem?_eq_some_iff.1 hgT).1 (by have := hsrc.ne hgT hT; simpa using this)
  obtain ⟨h1, h2, h3', hB, h4, h5, h6, h7, h8, h9, h10, h11⟩ := h
  have n4 : ¬ D.getD 4 false = true := fun e => by have := h10 e; rw [h3] at this; cases this
  have n5 : ¬ D.getD 5 false = true := fun e => n4 (h11 e)
  refine ⟨grown_trans h1 hg, (ok X _ _ h2 (by decide)).trans h2, (ok R _ _ h3' (by decide)).trans h3', (ok _ _ _ hB (by decide)).trans hB, h4.kept2 hg.size (fun g cs hc => ok g cs _ hc (by decide)), fun e => by simp [hs] at e, fun _ => ⟨hS, p, upd_at _ _ _, hp⟩, fun e => ?_, fun e => (n4 (e4 ▸ e)).elim, fun e => (n5 (e5 ▸ e)).elim, fun e => (n4 (e4 ▸ e)).elim, fun e => (n5 (e5 ▸ e)).elim⟩
  have ho := h7 (e5 ▸ e)
  refine own_set ho (fun g hg2 => ?_)
  rcases ho.2 with ⟨e1, _⟩ | ⟨ga, ca, cua, ea, _, ha, _⟩
  · rw [e1] at hg2; cases hg2
  · rw [ea] at hg2
    simp only [Value.ownBlock, Option.some.injEq] at hg2
    subst hg2
    exact ok _ _ _ ha (by decide)
theorem PtJ.four (h : PtJ w L X R box sa n kk st rs ra rq ws wv D u W) (hb : Below W.heap.size W W') (hs : 4 < D.size) (h4 : D.getD 4 false = false) (h3 : D.getD 3 false = true) {p : Ve} (hp : putB p.ts p.v = true) (hc : W'.heap[W.heap.size]? = some (.cells #[.int .i64 p.ts, .int .i64 p.v] 43 (0, 0))) : PtJ w L X R box sa n kk st rs ra rq ws wv (D.setIfInBounds 4 true) (upd u 38 (.slice (some ⟨W.heap.size, 0, none⟩) 1 1)) W' := by
  have hL := h.src.lt
  have e3 : (D.setIfInBounds 4 true).getD 3 false = D.getD 3 false := getD_set_ne false (by omega)
  have e5 : (D.setIfInBounds 4 true).getD 5 false = D.getD 5 false := getD_set_ne false (by omega)
  have f1 : upd u 38 (Value.slice (some ⟨W.heap.size, 0, none⟩) 1 1) 37 = u 37 := upd_ne _ _ (by omega)
  obtain ⟨h1, h2, h3', hB, h4', h5, h6, h7, h8, h9, h10, h11⟩ := h
  have n5 : ¬ D.getD 5 false = true := fun e => by have := h11 e; rw [h4] at this; cases this
  refine ⟨grown_below h1 hb, (hb.block X (Array.getElem?_eq_some_iff.1 h2).1).trans h2, (hb.block R (Array.getElem?_eq_some_iff.1 h3').1).trans h3', (hb.block _ (Array.getElem?_eq_some_iff.1 hB).1).trans hB, h4'.kept2 hb.size (fun g cs hc => hb.block g (Array.getElem?_eq_some_iff.1 hc).1), ?_, ?_, fun e => own_below (h7 (e5 ▸ e)) hb, fun _ _ => ⟨p, W.heap.size, hp, upd_at _ _ _, hc⟩, fun e => (n5 (e5 ▸ e)).elim, fun _ => e3 ▸ h3, fun e => (n5 (e5 ▸ e)).elim⟩
  · rw [e3]; intro q; exact (h5 q).move (hb.block L hL)
  · rw [e3, f1]; intro q; exact ⟨(h6 q).1.move (hb.block L hL), (h6 q).2⟩
theorem PtJ.five (h : PtJ w L X R box sa n kk st rs ra rq ws wv D u W) (hLw : L < w.heap.size) (hs : 5 < D.size) (h5 : D.getD 5 false = false) (h4 : D.getD 4 false = true) (hgr : W.grownBy W' wv.ownBlock) {p : Ve} {g cap : Nat} (hp : putB p.ts p.v = true) (ho : W'.ownsRow w.heap.size 43 2 (.slice (some ⟨g, 0, none⟩) (ws.length + 1) cap) (ws.length + 1) (veCells (ws ++ [p]))) : PtJ w L X R box sa n kk st rs ra rq ws wv (D.setIfInBounds 5 true) (upd u 39 (.slice (some ⟨g, 0, none⟩) (ws.length + 1) cap)) W' := by
  have hL := h.src.lt
  have e3 : (D.setIfInBounds 5 true).getD 3 false = D.getD 3 false := getD_set_ne false (by omega)
  have e4 : (D.setIfInBounds 5 true).getD 4 false = D.getD 4 false := getD_set_ne false (by omega)
  have f1 : upd u 39 (Value.slice (some ⟨g, 0, none⟩) (ws.length + 1) cap) 37 = u 37 := upd_ne _ _ (by omega)
  obtain ⟨h1, h2, h3, hB, h4', h5', h6, h7, h8, h9, h10, h11⟩ := h
  have how := h7 h5
  have nb : ∀ (b : Nat) (cs : Array Value) (T : TypeId), W.heap[b]? = some (.cells cs T (0, 0)) → T ≠ 43 → W'.heap[b]? = W.heap[b]? := fun b cs T hb hT => hgr.block b (Array.getElem?_eq_some_iff.1 hb).1 (fun e => by
    rcases how.2 with ⟨e1, _⟩ | ⟨ga, ca, cua, ea, _, ha, _⟩
    · rw [e1] at e; cases e
    · rw [ea] at e
      simp only [Value.ownBlock, Option.some.injEq] at e
      subst e
      rw [ha] at hb
      simp only [Option.some.injEq, Obj.cells.injEq] at hb
      exact hT hb.2.1.symm)
  have hLL : W'.heap[L]? = W.heap[L]? := hgr.block L hL (fun e => by have := own_base how L e.symm; omega)
  refine ⟨grown_over h1 hgr (fun k hk => own_base how k hk), (nb X _ _ h2 (by decide)).trans h2, (nb R _ _ h3 (by decide)).trans h3, (nb _ _ _ hB (by decide)).trans hB, h4'.kept2 hgr.size (fun g cs hc => nb g cs _ hc (by decide)), ?_, ?_, fun e => by simp [hs] at e, fun _ e => by simp [hs] at e, fun _ => ⟨p, g, cap, hp, upd_at _ _ _, ho⟩, fun _ => e3 ▸ h10 h4, fun _ => e4 ▸ h4⟩
  · rw [e3]; intro q; exact (h5' q).move hLL
  · rw [e3, f1]; intro q; exact ⟨(h6 q).1.move hLL, (h6 q).2⟩
end
end Go.Proofs.Ytoahbfledamnnaa.G
namespace Go.Proofs.Ytoahbfledamnnaa.G
open Go.ChangeShapes Go.WideShapes Go.ChangeAt Go.RowKit
set_option linter.unusedVariables false

theorem VeRow.drop {lo hi : Nat} {w : World} {b o : Nat} {l : List Ve} (h : VeRow lo hi w (some ⟨b, o, none⟩) l) (k : Nat) : VeRow lo hi w (some ⟨b, o + k * 2, none⟩) (l.drop k) := by
  rcases h with rfl | ⟨b', o', e, h1, h2, h3⟩
  · exact .inl (by simp)
  · simp only [Option.some.injEq, Addr.mk.injEq, and_true] at e
    obtain ⟨rfl, rfl⟩ := e
    refine .inr ⟨b, _, rfl, h1, h2, fun i x hx => ?_⟩
    have := h3 (k + i) x (by simpa [List.getElem?_drop] using hx)
    rwa [show o + (k + i) * 2 = o + k * 2 + i * 2 by omega] at this
end Go.Proofs.Ytoahbfledamnnaa.G
