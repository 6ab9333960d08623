/- What the law counts of a run. -/
import Derived.Test.YtoaeggfnlenjkaaGreatDoorStNums
import Derived.Deep.AppendLies
import Derived.Deep.AppendSrc
import Derived.Test.YtoaeggfnlenjkaaGreatDoorOuToOwn
import Derived.Test.YtoaeggfnlenjkaaGreatDoorOuOwn
import Derived.Deep.CutBlock
import Derived.Deep.CutRange
import Derived.Test.YtoaeggfnlenjkaaGreatDoorDigitsD
import Derived.Test.YtoaeggfnlenjkaaGreatDoorOuText
namespace Go.Proofs.YtoaeggfnlenjkaaGreatDoor.G
open Go.ChangeShapes Go.WideShapes Go.ChangeAt Go.RowKit
set_option linter.unusedVariables false

set_option maxRecDepth 100000 in
theorem info_bool : ∃ i, Tryz.prog.info? 4 = some i ∧ i.zero = some (.bool false) ∧ i.size = 1 ∧ i.bytes = 1 := by
  refine ⟨_, rfl, ?_, ?_, ?_⟩ <;> kernel_rfl
theorem wpList_append_run {P : Program} {ops : Array Oper} {rest : List Oper} {o : Oper} {a : Act} {Q : Exit → Act → World → Prop} {w : World} (hgd : o.guard = none) (s x : Operand) (t : TypeId)
    (ho : o.op = .call { callee := .builtin .append, args := #[s, x], argTypes := #[t, t] }) (sv xv rv : Value) (w' : World) (hs : a.eval s = sv) (hx : a.eval x = xv)
    (hr : (Builtin.append_ #[t, t] o.type #[sv, xv]).run P w = .ok rv w') (h : wpList P ops Q rest (a.put o.dst rv) w') : wpList P ops Q (o :: rest) a w := by
  refine wpList_plain hgd fun K hK => ?_
  unfold Oper.wp execOp
  simp only [ho, resolve, invoke, builtin, Sem.run_bind, Sem.run_pure, Result.andThen_ok, List.map_toArray, List.map_cons, List.map_nil, hs, hx, hr]
  exact hK _ _ h
def nuV (x : List Int) : List Value := x.map fun z => .int .i64 z
theorem nuV_snoc (x : List Int) (z : Int) : nuV (x ++ [z]) = nuV x ++ [.int .i64 z] := by simp [nuV]
theorem app_num (x : List Int) (z : Int) (v : Value) (base h : Nat) (W : World) (ho : W.ownsRow base 3 1 v x.length (nuV x)) (hu : W.heap[h]? = some (.cells #[.int .i64 z] 3 (0, 0))) (hk : x.length ≤ 1048576) (hb : base ≤ W.heap.size) :
    ∃ g cap W', (Builtin.append_ #[51, 51] 51 #[v, .slice (some ⟨h, 0, none⟩) 1 1]).run Tryz.prog W = .ok (.slice (some ⟨g, 0, none⟩) (x.length + 1) cap) W' ∧ W'.ownsRow base 3 1 (.slice (some ⟨g, 0, none⟩) (x.length + 1) cap) (x.length + 1) (nuV (x ++ [z])) ∧ W.grownBy W' v.ownBlock ∧ (v.ownBlock = some g ∨ g = W.heap.size) ∧ g < W'.heap.size := by
  obtain ⟨i, hi, hz, hsz, hby⟩ := info_int
  rw [nuV_snoc]
  exact run_append_lies (P := Tryz.prog) W 51 51 base 3 i _ 1 8 Tryz.underlying51 hi hz hsz hby rfl (by decide) v x.length (nuV x) ho ⟨h, 0, none⟩ 1 1 [.int .i64 z] rfl (fun j y hx => by
    have hj : j = 0 := by have := (List.getElem?_eq_some_iff.1 hx).1; simpa using this
    subst hj
    simp only [List.getElem?_cons_zero, Option.some.injEq] at hx
    subst hx
    rw [add_plain]
    exact row_cell hu 0) (fun y hy => by rw [List.mem_singleton.1 hy]; rfl) (by omega) (by unfold maxLen; omega) (by omega) hb W.heap.size rfl
/-- The keys below k that changed. -/
def keysK (l : Chs) (ts : Int) : Nat → List Int
  | 0 => []
  | k + 1 => if chgB (chAt l k) ts = true then keysK l ts k ++ [(k : Int)] else keysK l ts k
theorem keysK_len (l : Chs) (ts : Int) : ∀ k, (keysK l ts k).length ≤ k
  | 0 => Nat.le_refl _
  | k + 1 => by
    have := keysK_len l ts k
    unfold keysK
    split <;> simp <;> omega
/-- Numbers that a call owns. -/
def NuOwn (lo hi : Nat) (w : World) (a : Option Addr) (x : List Int) : Prop := x = [] ∨ ∃ g cs, a = some ⟨g, 0, none⟩ ∧ lo ≤ g ∧ g < hi ∧ w.heap[g]? = some (.cells cs 3 (0, 0)) ∧ x.length ≤ cs.size ∧ ∀ (i : Nat) (z : Int), x[i]? = some z → cs[i]? = some (.int .i64 z)
theorem NuOwn.of {base : Nat} {w : World} {v : Value} {x : List Int} (h : w.ownsRow base 3 1 v x.length (nuV x)) : ∃ a c, v = .slice a x.length c ∧ NuOwn base w.heap.size w a x := by
  rcases h.2 with ⟨rfl, h0⟩ | ⟨g, cap, cur, rfl, h1, h2, h3, h4, h5, h6⟩
  · have : x = [] := List.eq_nil_of_length_eq_zero h0
    subst this
    exact ⟨none, 0, rfl, .inl rfl⟩
  · refine ⟨_, cap, rfl, .inr ⟨g, cur, rfl, h1, (Array.getElem?_eq_some_iff.1 h2).1, h2, by omega, fun i z hz => ?_⟩⟩
    have hi := (List.getElem?_eq_some_iff.1 hz).1
    have : (nuV x)[i]? = some (.int .i64 z) := by simp [nuV, hz]
    rw [← h6, List.getElem?_take, if_pos (by omega)] at this
    simpa using this
theorem NuOwn.row {lo hi : Nat} {w : World} {a : Option Addr} {x : List Int} (h : NuOwn lo hi w a x) : NuRow lo hi w a x := by
  rcases h with h | ⟨g, cs, rfl, h1, h2, h3, h4, h5⟩
  · exact .inl h
  · exact nu_of h3 h1 h2 (fun i h => h5 i _ (List.getElem?_eq_getElem h))
theorem NuOwn.keep {lo hi : Nat} {w w' : World} {a : Option Addr} {x : List Int} (h : NuOwn lo hi w a x) (hk : Agree lo hi w w') : NuOwn lo hi w' a x := by
  rcases h with h | ⟨g, cs, rfl, h1, h2, h3, h4⟩
  · exact .inl h
  · exact .inr ⟨g, cs, rfl, h1, h2, (hk g h1 h2).trans h3, h4⟩
theorem NuOwn.wide {lo hi lo' hi' : Nat} {w : World} {a : Option Addr} {x : List Int} (h : NuOwn lo hi w a x) (e1 : lo' ≤ lo) (e2 : hi ≤ hi') : NuOwn lo' hi' w a x := by
  rcases h with h | ⟨g, cs, rfl, h1, h2, h3⟩
  · exact .inl h
  · exact .inr ⟨g, cs, rfl, by omega, by omega, h3⟩
/-- Numbers that bear the marks from K on. -/
def NuMk (lo hi : Nat) (w : World) (a : Option Addr) (n : Nat) (K : Int) : Prop := n = 0 ∨ ∃ g cs, a = some ⟨g, 0, none⟩ ∧ lo ≤ g ∧ g < hi ∧ w.heap[g]? = some (.cells cs 3 (0, 0)) ∧ n ≤ cs.size ∧ ∀ i : Nat, i < n → cs[i]? = some (.int .i64 (K + i))
theorem NuMk.keep {lo hi : Nat} {w w' : World} {a : Option Addr} {n : Nat} {K : Int} (h : NuMk lo hi w a n K) (hk : Agree lo hi w w') : NuMk lo hi w' a n K := by
  rcases h with h | ⟨g, cs, rfl, h1, h2, h3, h4⟩
  · exact .inl h
  · exact .inr ⟨g, cs, rfl, h1, h2, (hk g h1 h2).trans h3, h4⟩
set_option maxHeartbeats 2000000 in
theorem eq_nums (a a' : Option Addr) (c c' : Nat) (x : List Int) (w : World) (hr : NuRow 0 w.heap.size w a x) (hr' : NuRow 0 w.heap.size w a' x) (hl : x.length ≤ 1048576) :
    Calls Tryz.prog 67 #[.slice a x.length c, .slice a' x.length c'] w fun e w' => e = .returned (.bool true) ∧ Below w.heap.size w w' := by
  have HR : Hid _ := hr
  have HR' : Hid _ := hr'
  clear hr hr'
  go_enter Tryz.func67, Tryz.ntmps67
  go_wp2_with fail
  go_loopw [5] (fun i w' => ∃ (k q : Nat), k ≤ x.length ∧ i = .int .i64 k ∧ w' = w.drewN q) (fun i _ => x.length - (intOf i).toNat)
  case atStart => exact ⟨0, 0, by omega, rfl, rfl⟩
  case round =>
    obtain ⟨k, q, hk, rfl, rfl⟩ := hrel
    by_cases hlt : k < x.length
    · obtain ⟨b, o, ha, _, hbl, d0⟩ := NuRow.cells HR.out k hlt
      obtain ⟨b', o', ha', _, hbl', d1⟩ := NuRow.cells HR'.out k hlt
      subst ha ha'
      have hlt' : (k : Int) < x.length := by omega
      go_wp2_with fail
      go_quiet (fail)
      go_wp2_with fail
      exact ⟨⟨k + 1, q + nq, by omega, by go_num, by simp⟩, by simp [intOf]; omega⟩
    · go_wp2_with fail
      go_ret
      exact ⟨rfl, below_drewN (Below.refl _ _) _⟩
end Go.Proofs.YtoaeggfnlenjkaaGreatDoor.G
namespace Go.Proofs.YtoaeggfnlenjkaaGreatDoor.G
open Go.ChangeShapes Go.WideShapes Go.ChangeAt Go.RowKit
set_option linter.unusedVariables false

section
variable {H : Type} {enc : TypeId × Value → H} {W : World}
theorem Nus_open {fuel : Nat} {cs : List Value} {x : DataW H × List MemPlace} (h : DataW.trod enc Tryz.prog W 0 (fun _ => true) true fuel 51 cs = some x) :
    ∃ a c, ∃ l : List Int, cs = [.slice a l.length c] ∧ l.length ≤ maxLen ∧ NuRow 0 W.heap.size W a l := by
  have ci : Tryz.prog.cellsOf 3 = 1 := by kernel_rfl
  obtain ⟨a, len, cap, rfl, hm, hr⟩ := sl_open Tryz.underlying51 (z := 1) (by kernel_rfl) (by omega) h
  rcases hr with rfl | ⟨n, b, o, rfl, rfl, hb, hx⟩
  · exact ⟨a, cap, [], rfl, Nat.zero_le _, .inl rfl⟩
  · obtain ⟨l, hl, hp⟩ := list_of (p := fun i x => NuAt (rdOf W b) (o + i * 1) x) (fun i hi => by
      obtain ⟨cs', y, hcl, hc, hd⟩ := hx i hi
      obtain ⟨g0, e0, _, _⟩ := DataW.trod_int Tryz.underlying3 hd
      subst e0
      exact ⟨g0, hc 0 (by omega)⟩)
    subst hl
    exact ⟨_, cap, l, rfl, hm, .inr ⟨b, o, rfl, Nat.zero_le _, hb, fun i x hx => hp i x hx⟩⟩
end
set_option maxHeartbeats 1000000 in
theorem sz_nums (a : Option Addr) (c len : Nat) (n : Int) (w : World) (hl : len ≤ maxLen) (h0 : 0 ≤ n) (h1 : n ≤ 1048576) :
    Calls Tryz.prog 57 #[.slice a len c, .int .i64 n] w fun e w' => ∃ m, e = .returned (.int .i64 m) ∧ Sz n m (len ≤ 1048576) ∧ w' = w := by
  unfold maxLen at hl
  by_cases hz : n - len < 0
  · go_enter Tryz.func57, Tryz.ntmps57
    go_wp2_with fail
    go_ret
    exact ⟨-1, rfl, Sz.neg h0, rfl⟩
  · go_enter Tryz.func57, Tryz.ntmps57
    go_wp2_with fail
    go_ret
    exact ⟨_, rfl, ⟨by omega, by omega, fun _ => by omega⟩, rfl⟩
set_option maxHeartbeats 1000000 in
theorem to_nums (a : Option Addr) (c : Nat) (l : List Int) (w : World) (hr : NuRow 0 w.heap.size w a l) (hl : l.length ≤ 1048576) :
    Calls Tryz.prog 62 #[.slice a l.length c] w fun e w' => e = .returned (.slice (some ⟨w.heap.size, 0, none⟩) l.length l.length) ∧ NuOwn w.heap.size w'.heap.size w' (some ⟨w.heap.size, 0, none⟩) l ∧ Below w.heap.size w w' := by
  have HR : Hid (NuRow 0 w.heap.size w a l) := hr
  clear hr
  obtain ⟨i27, hi, hz, hsz, hby⟩ := info_int
  have hmk := run_make (P := Tryz.prog) w 51 3 i27 _ Tryz.underlying51 hi hz .i64 .i64 (l.length : Int) (l.length : Int) (by omega) (by omega) (by rw [hby]; omega) (by omega)
  rw [hsz, Int.toNat_natCast, Nat.mul_one] at hmk
  clear hi hz hsz hby
  have hs0 := size_madeCells (Value.int .i64 0).cells l.length
  generalize madeCells (Value.int .i64 0).cells l.length = cs0 at *
  go_enter Tryz.func62, Tryz.ntmps62
  go_wp2_with fail
  go_loopw [4] (fun i w' => ∃ (k : Nat) (cs : Array Value), k ≤ l.length ∧ i = .int .i64 k ∧ Below w.heap.size w w' ∧ Hid (w'.heap[w.heap.size]? = some (.cells cs 3 (0, 0))) ∧ cs.size = l.length ∧ Hid (∀ i x, i < k → l[i]? = some x → cs[i]? = some (.int .i64 x))) (fun i _ => l.length - (intOf i).toNat)
  case atStart => exact ⟨0, cs0, by omega, rfl, (Below.refl _ _).alloc (Nat.le_refl _) _, heap_alloc_new _ _, hs0, fun i x h => by omega⟩
  case round =>
    obtain ⟨wo, rfl⟩ : ∃ x, x = wr := ⟨_, rfl⟩
    obtain ⟨k, cs, hk, rfl, hb, HH, hcs, HL⟩ := hrel
    clear hmk hs0
    by_cases hlt : k < l.length
    · obtain ⟨b, o, ha, _, hbl, d0⟩ := NuRow.cells (NuRow.keep HR.out (agree hb (Nat.le_refl _))) k hlt
      subst ha
      obtain ⟨v0, hv0⟩ : ∃ v, wo.cell? ⟨w.heap.size, k, none⟩ = some v := ⟨_, (row_cell HH.out _).trans (Array.getElem?_eq_getElem (by omega))⟩
      have hf0 := row_frozen HH.out k
      go_wp2_with fail
      refine ⟨⟨k + 1, _, by omega, by go_num, hb.setCell (Nat.le_refl _) _, row_set HH.out _ _, by simp [hcs], ?_⟩, by simp [intOf]; omega⟩
      intro i x hi hx
      by_cases e : i = k
      · subst e
        rw [List.getElem?_eq_getElem hlt] at hx
        simp only [Option.some.injEq] at hx
        subst hx
        simp [Array.getElem?_setIfInBounds]; omega
      · rw [Array.getElem?_setIfInBounds_ne (by omega)]; exact HL.out i x (by omega) hx
    · go_wp2_with fail
      go_ret
      obtain rfl : k = l.length := by omega
      have hN : w.heap.size < wo.heap.size := (Array.getElem?_eq_some_iff.1 HH.out).1
      exact ⟨rfl, .inr ⟨w.heap.size, cs, rfl, Nat.le_refl _, hN, HH.out, by omega, fun i x hx => HL.out i x (List.getElem?_eq_some_iff.1 hx).1 hx⟩, hb⟩
end Go.Proofs.YtoaeggfnlenjkaaGreatDoor.G
namespace Go.Proofs.YtoaeggfnlenjkaaGreatDoor.G
open Go.ChangeShapes Go.WideShapes Go.ChangeAt Go.RowKit
set_option linter.unusedVariables false

structure Rn where
  need : Int
  rs : List Int
  ws : List Ve
  h : Oh
  sub : Ous
  es : List ByteArray
/-- Where its lists lie. -/
structure RnA where
  ra : Option Addr
  rc : Nat
  wa : Option Addr
  wc : Nat
  a1 : Option Addr
  c1 : Nat
  a2 : Option Addr
  c2 : Nat
  ea : Option Addr
  ec : Nat
def RunRow (lo hi : Nat) (w : World) (p : RnA) (r : Rn) : Prop := NuRow lo hi w p.ra r.rs ∧ VeRow lo hi w p.wa r.ws ∧ KeRow lo hi w p.a1 r.h.keys ∧ OuRow lo hi w p.a2 r.sub ∧ KeRow lo hi w p.ea r.es
theorem RunRow.up {w w' : World} {p : RnA} {r : Rn} (h : RunRow 0 w.heap.size w p r) (hb : Below w.heap.size w w') : RunRow 0 w'.heap.size w' p r :=
  ⟨NuRow.up h.1 hb, VeRow.up h.2.1 hb, KeRow.up h.2.2.1 hb, OuRow.up h.2.2.2.1 hb, KeRow.up h.2.2.2.2 hb⟩
theorem RunRow.keep {lo hi : Nat} {w w' : World} {p : RnA} {r : Rn} (h : RunRow lo hi w p r) (hk : Agree lo hi w w') : RunRow lo hi w' p r :=
  ⟨NuRow.keep h.1 hk, VeRow.keep h.2.1 hk, KeRow.keep h.2.2.1 hk, OuRow.keep h.2.2.2.1 hk, KeRow.keep h.2.2.2.2 hk⟩
theorem RunRow.wide {lo hi lo' hi' : Nat} {w : World} {p : RnA} {r : Rn} (h : RunRow lo hi w p r) (e1 : lo' ≤ lo) (e2 : hi ≤ hi') : RunRow lo' hi' w p r :=
  ⟨NuRow.wide h.1 e1 e2, VeRow.wide h.2.1 e1 e2, KeRow.wide h.2.2.1 e1 e2, OuRow.wide h.2.2.2.1 e1 e2, KeRow.wide h.2.2.2.2 e1 e2⟩
/-- Bounds. -/
def RnBd (m : Nat) (r : Rn) : Prop := r.rs.length ≤ m ∧ r.ws.length ≤ m ∧ (OhBd m r.h ∧ r.sub.len ≤ m ∧ OusBd m r.sub) ∧ r.es.length ≤ m ∧ ∀ x ∈ r.es, x.size ≤ m
/-- Writes that a call owns. -/
def RwOwn (lo hi : Nat) (w : World) (a : Option Addr) (x : List Ve) : Prop := x = [] ∨ ∃ g, a = some ⟨g, 0, none⟩ ∧ lo ≤ g ∧ g < hi ∧ PuBlk w g x
theorem RwOwn.keep {lo hi : Nat} {w w' : World} {a : Option Addr} {x : List Ve} (h : RwOwn lo hi w a x) (hk : Agree lo hi w w') : RwOwn lo hi w' a x := by
  rcases h with h | ⟨g, e, h1, h2, h3⟩
  · exact .inl h
  · exact .inr ⟨g, e, h1, h2, h3.move (hk g h1 h2)⟩
theorem RwOwn.row {lo hi : Nat} {w : World} {a : Option Addr} {x : List Ve} (h : RwOwn lo hi w a x) : VeRow lo hi w a x := by
  rcases h with h | ⟨g, e, h1, h2, h3⟩
  · exact .inl h
  · rw [e]; exact h3.row h1 h2
/-- A run whose lists are its own, one behind the other. -/
def RunOwn (lo hi : Nat) (w : World) (p : RnA) (r : Rn) : Prop := ∃ m1 m2 m3, lo ≤ m1 ∧ m1 ≤ m2 ∧ m2 ≤ m3 ∧ m3 ≤ hi ∧ NuOwn lo m1 w p.ra r.rs ∧ RwOwn m1 m2 w p.wa r.ws ∧ PartsO m2 m3 w p.a1 p.a2 r.h r.sub ∧ KeOwn m3 hi w p.ea r.es
theorem RunOwn.keep {lo hi : Nat} {w w' : World} {p : RnA} {r : Rn} (h : RunOwn lo hi w p r) (hk : Agree lo hi w w') : RunOwn lo hi w' p r := by
  obtain ⟨m1, m2, m3, e1, e2, e3, e4, h1, h2, h3, h4⟩ := h
  exact ⟨m1, m2, m3, e1, e2, e3, e4, h1.keep fun g a b => hk g (by omega) (by omega), h2.keep fun g a b => hk g (by omega) (by omega), h3.keep fun g a b => hk g (by omega) (by omega), h4.keep fun g a b => hk g (by omega) (by omega)⟩
theorem RunOwn.row {lo hi : Nat} {w : World} {p : RnA} {r : Rn} (h : RunOwn lo hi w p r) : RunRow lo hi w p r := by
  obtain ⟨m1, m2, m3, e1, e2, e3, e4, h1, h2, h3, h4⟩ := h
  exact ⟨NuRow.wide h1.row (by omega) (by omega), VeRow.wide h2.row (by omega) (by omega), KeRow.wide h3.rows.1 (by omega) (by omega), OuRow.wide h3.rows.2 (by omega) (by omega), KeRow.wide (ke_row h4) (by omega) (by omega)⟩
section
variable {H : Type} {enc : TypeId × Value → H} {W : World}
theorem nine {α : Type} {l : List α} (h : l.length = 9) : ∃ a b c d e f g i j, l = [a, b, c, d, e, f, g, i, j] := by
  match l, h with
  | [a, b, c, d, e, f, g, i, j], _ => exact ⟨a, b, c, d, e, f, g, i, j, rfl⟩
theorem run_open {fuel : Nat} {cs : List Value} {x : DataW H × List MemPlace} (h : DataW.trod enc Tryz.prog W 0 (fun _ => true) true fuel 54 cs = some x) :
    ∃ (r : Rn) (p : RnA), cs = [.int .i64 r.need, .slice p.ra r.rs.length p.rc, .slice p.wa r.ws.length p.wc, .int .i64 r.h.k, .int .i64 r.h.n, .string r.h.t, .slice p.a1 r.h.keys.length p.c1, .slice p.a2 r.sub.len p.c2, .slice p.ea r.es.length p.ec] ∧ r.h.keys.length ≤ p.c1 ∧ RnBd maxLen r ∧ RunRow 0 W.heap.size W p r := by
  have ci : Tryz.prog.cellsOf 3 = 1 := by kernel_rfl
  have c1 : Tryz.prog.cellsOf 51 = 1 := by kernel_rfl
  have c2 : Tryz.prog.cellsOf 52 = 1 := by kernel_rfl
  have c3 : Tryz.prog.cellsOf 41 = 5 := by kernel_rfl
  have c4 : Tryz.prog.cellsOf 23 = 1 := by kernel_rfl
  have co : Tryz.prog.cellsOf 54 = 9 := by kernel_rfl
  obtain ⟨xs, n', rfl, rfl, hcl, hxl, hf⟩ := DataW.trod_struct Tryz.underlying54 h
  rw [co] at hcl
  obtain ⟨v0, v1, v2, v3, v4, v5, v6, v7, v8, rfl⟩ := nine hcl
  obtain ⟨y0, y1, y2, y3, y4, rfl⟩ := five hxl
  obtain ⟨k, e0, _, _⟩ := DataW.trod_int Tryz.underlying3 (hf 0 _ rfl)
  obtain ⟨ra, rc, rs, e1, b1, q1⟩ := Nus_open (hf 1 _ rfl)
  obtain ⟨wa, wc, ws, e2, _, b2, q2⟩ := Pus_open (hf 2 _ rfl)
  obtain ⟨oh, sub, a1, a2, d1, d2, e3, hc, b3, b4, b5, q3, q4⟩ := out_open (hf 3 _ rfl)
  obtain ⟨ea, ec, es, e4, _, b6, b7, q5⟩ := keys_open (hf 4 _ rfl)
  simp [ci, c1, c2, c3, c4] at e0 e1 e2 e3 e4
  obtain ⟨g3, g4, g5, g6, g7⟩ := e3
  subst e0 e1 e2 g3 g4 g5 g6 g7 e4
  exact ⟨⟨k, rs, ws, oh, sub, es⟩, ⟨ra, rc, wa, wc, a1, d1, a2, d2, ea, ec⟩, rfl, hc, ⟨b1, b2, ⟨b3, b4, b5⟩, b6, b7⟩, q1, q2, q3, q4, q5⟩
end
end Go.Proofs.YtoaeggfnlenjkaaGreatDoor.G
namespace Go.Proofs.YtoaeggfnlenjkaaGreatDoor.G
open Go.ChangeShapes Go.WideShapes Go.ChangeAt Go.RowKit
set_option linter.unusedVariables false

def wO : Ous → Nat
  | .nil => 0
  | .cons h sub rest => 1 + h.keys.length + wO sub + wO rest
def wN : Ous → Nat
  | .nil => 0
  | .cons h sub rest => h.keys.length + wO sub + wN rest
theorem wO_eq : ∀ l : Ous, wO l = l.len + wN l
  | .nil => rfl
  | .cons h sub rest => by simp only [wO, wN, Ous.len, wO_eq rest]; omega
theorem cO_w : ∀ l : Ous, cO l ≤ 3 * wO l
  | .nil => Nat.le_refl _
  | .cons h sub rest => by have := cO_w sub; have := cO_w rest; simp only [cO, cOh, wO]; omega
set_option maxHeartbeats 1000000 in
theorem sz_keys_w (a : Option Addr) (c : Nat) (l : List ByteArray) (n : Int) (w : World) (hr : KeRow 0 w.heap.size w a l) (hl : l.length ≤ maxLen) (ht : ∀ x ∈ l, x.size ≤ maxLen) (h0 : 0 ≤ n) (h1 : n ≤ 1048576) :
    Calls Tryz.prog 19 #[.slice a l.length c, .int .i64 n] w fun e w' => ∃ m, e = .returned (.int .i64 m) ∧ Sz n m ((l.length ≤ 1048576 ∧ ∀ x ∈ l, x.size ≤ 1048576) ∧ m + l.length ≤ n) ∧ w' = w := by
  unfold maxLen at hl
  by_cases hz : n - l.length < 0
  · go_enter Tryz.func19, Tryz.ntmps19
    go_wp2_with fail
    go_ret
    exact ⟨-1, rfl, Sz.neg h0, rfl⟩
  · have HR : Hid (KeRow 0 w.heap.size w a l) := hr
    have HT : Hid (∀ x ∈ l, x.size ≤ maxLen) := ht
    clear hr ht
    go_enter Tryz.func19, Tryz.ntmps19
    go_wp2_with fail
    go_loop [1, 5] (fun r i => ∃ (k : Nat) (m : Int), k ≤ l.length ∧ i = .int .i64 k ∧ r = .int .i64 m ∧ 0 ≤ m ∧ m + l.length ≤ n ∧ Hid (∀ x ∈ l.take k, x.size ≤ 1048576)) (fun _ i => l.length - (intOf i).toNat)
    case atStart => exact ⟨0, _, by omega, rfl, rfl, by omega, by omega, by simp [Hid]⟩
    case round =>
      obtain ⟨k, m, hk, rfl, rfl, hm0, hm1, HK⟩ := hrel
      by_cases hlt : k < l.length
      · obtain ⟨b, o, ha, _, hbl, c0⟩ := KeRow.cells HR.out k hlt
        subst ha
        have hx : l[k].size ≤ maxLen := HT.out l[k] (List.getElem_mem hlt)
        unfold maxLen at hx
        by_cases hneg : m - l[k].size < 0
        · go_wp2_with fail
          go_ret
          exact ⟨-1, rfl, Sz.neg h0, rfl⟩
        · go_wp2_with fail
          go_round
          case rel => exact ⟨k + 1, m - l[k].size, by omega, by go_num, by go_num, by omega, by omega, all_take hlt HK.out (by omega)⟩
          case measure => simp [intOf]; omega
      · go_wp2_with fail
        go_ret
        rw [List.take_of_length_le (by omega)] at HK
        exact ⟨m, rfl, ⟨by omega, by omega, fun _ => ⟨⟨by omega, HK.out⟩, hm1⟩⟩, rfl⟩
def SzOus_w (l : Ous) : Prop := ∀ (a : Option Addr) (c : Nat) (n : Int) (w : World), OuRow 0 w.heap.size w a l → l.len ≤ maxLen → OusBd maxLen l → 0 ≤ n → n ≤ 1048576 →
    Calls Tryz.prog 53 #[.slice a l.len c, .int .i64 n] w fun e w' => ∃ m, e = .returned (.int .i64 m) ∧ Sz n m ((l.len ≤ 1048576 ∧ OusBd 1048576 l) ∧ m + wO l ≤ n) ∧ Below w.heap.size w w'
set_option maxHeartbeats 1000000 in
theorem sz_out_w (h : Oh) (sub : Ous) (ih : SzOus_w sub) (a1 a2 : Option Addr) (c1 c2 : Nat) (n : Int) (w : World) (r1 : KeRow 0 w.heap.size w a1 h.keys) (r2 : OuRow 0 w.heap.size w a2 sub)
    (hb : OhBd maxLen h) (hl : sub.len ≤ maxLen) (hs : OusBd maxLen sub) (h0 : 0 ≤ n) (h1 : n ≤ 1048576) :
    Calls Tryz.prog 18 #[.agg #[.int .i64 h.k, .int .i64 h.n, .string h.t, .slice a1 h.keys.length c1, .slice a2 sub.len c2], .int .i64 n] w fun e w' =>
      ∃ m, e = .returned (.int .i64 m) ∧ Sz n m ((OhBd 1048576 h ∧ sub.len ≤ 1048576 ∧ OusBd 1048576 sub) ∧ m + h.keys.length + wO sub ≤ n) ∧ Below w.heap.size w w' := by
  obtain ⟨b1, b2, b3⟩ := hb
  have b1' := b1
  unfold maxLen at b1'
  have H3 : Hid (∀ x ∈ h.keys, x.size ≤ maxLen) := b3
  have HS : Hid (OusBd maxLen sub) := hs
  have HI : Hid (SzOus_w sub) := ih
  obtain ⟨V, hV⟩ : ∃ V, V = w.alloc (.cells #[.int .i64 h.k, .int .i64 h.n, .string h.t, .slice a1 h.keys.length c1, .slice a2 sub.len c2] 41) := ⟨_, rfl⟩
  have B0 : Below w.heap.size w V := by rw [hV]; exact (Below.refl _ _).alloc (Nat.le_refl _) _
  have c0 : V.heap[w.heap.size]? = some (.cells #[.int .i64 h.k, .int .i64 h.n, .string h.t, .slice a1 h.keys.length c1, .slice a2 sub.len c2] 41 (0, 0)) := by rw [hV]; exact heap_alloc_new _ _
  have x0 := fun o => row_cell c0 o
  have R1 : Hid (KeRow 0 V.heap.size V a1 h.keys) := KeRow.up r1 B0
  have R2 : Hid (OuRow 0 V.heap.size V a2 sub) := OuRow.up r2 B0
  have HB : Hid _ := B0
  clear b3 hs ih r1 r2 B0 c0
  by_cases g1 : n - h.t.size < 0
  · go_enter Tryz.func18, Tryz.ntmps18
    go_upto_region 1 with fail
    rw [← hV]
    clear hV
    go_wp2_with fail
    go_ret
    exact ⟨-1, rfl, Sz.neg h0, HB.out⟩
  go_enter Tryz.func18, Tryz.ntmps18
  go_upto_region 1 with fail
  rw [← hV]
  clear hV
  go_wp2_with fail
  refine (sz_keys_w a1 c1 h.keys _ _ R1.out b2 H3.out (by omega) (by omega)).mono ?_
  rintro e w1 ⟨m1, rfl, hm, hw⟩
  rw [hw]
  clear hw w1
  have M1 : Hid _ := hm
  have u1 := hm.1
  clear hm
  by_cases n1 : m1 < 0
  · go_wp2_with fail
    go_ret
    exact ⟨-1, rfl, Sz.neg h0, HB.out⟩
  go_wp2_with fail
  refine (HI.out a2 c2 _ _ R2.out hl HS.out (by omega) (by omega)).mono ?_
  rintro e w3 ⟨m3, rfl, hm, hb3⟩
  have M3 : Hid _ := hm
  have u3 := hm.1
  clear hm
  have q3 : Below w.heap.size w w3 := HB.out.trans (hb3.mono HB.out.size)
  clear hb3
  by_cases n3 : m3 < 0
  · go_wp2_with fail
    go_ret
    exact ⟨-1, rfl, Sz.neg h0, q3⟩
  · go_wp2_with fail
    go_ret
    exact ⟨m3, rfl, ⟨by omega, by omega, fun _ => ⟨⟨⟨by omega, (M1.out.2.2 (by omega)).1.1, (M1.out.2.2 (by omega)).1.2⟩, (M3.out.2.2 (by omega)).1⟩, by have h1 := (M1.out.2.2 (by omega)).2; have h2 := (M3.out.2.2 (by omega)).2; omega⟩⟩, q3⟩
/-- From the k-th value on. -/
theorem sz_ous_w : ∀ l : Ous, SzOus_w l := by
  suffices H : ∀ (m : Nat) (l : Ous), l.size ≤ m → SzOus_w l from fun l => H l.size l (Nat.le_refl _)
  intro m
  induction m with
  | zero =>
    intro l hl
    cases l with
    | cons h s r => simp [Ous.size] at hl
    | nil =>
      intro a c n w hr hlen hbd h0 h1
      simp only [Ous.len]
      go_enter Tryz.func53, Tryz.ntmps53
      go_wp2_with fail
      go_loop [1, 5] (fun r i => r = .int .i64 n ∧ i = .int .i64 0) (fun _ _ => 0)
      case atStart => exact ⟨by simp, rfl⟩
      case round =>
        obtain ⟨rfl, rfl⟩ := hrel
        go_wp2_with fail
        go_ret
        exact ⟨n, rfl, ⟨Int.le_refl _, by omega, fun _ => ⟨by first | trivial | exact ⟨Nat.zero_le _, trivial⟩, by simp [wO]⟩⟩, Below.refl _ _⟩
  | succ m ih =>
    intro l hl a c n w hr hlen hbd h0 h1
    unfold maxLen at hlen
    by_cases hz : n - l.len < 0
    · go_enter Tryz.func53, Tryz.ntmps53
      go_wp2_with fail
      go_ret
      exact ⟨-1, rfl, Sz.neg h0, Below.refl _ _⟩
    have HIH : Hid (∀ x : Ous, x.size ≤ m → SzOus_w x) := ih
    have HF : Hid (OuFrom 0 w.heap.size w a 0 l) := hr.from_
    have HD : Hid (OusBd maxLen l) := hbd
    have HSZ : Hid (l.size ≤ m + 1) := hl
    obtain ⟨N, hN⟩ : ∃ N, N = l.len := ⟨_, rfl⟩
    rw [← hN] at hlen hz ⊢
    have HN : Hid (l.len = N) := hN.symm
    clear hr hbd ih hl hN
    go_enter Tryz.func53, Tryz.ntmps53
    go_wp2_with fail
    go_loopw [1, 5] (fun r i w' => ∃ (k : Nat) (q : Int) (rest : Ous), i = .int .i64 k ∧ r = .int .i64 q ∧ k + rest.len = N ∧ 0 ≤ q ∧ q ≤ n ∧ Below w.heap.size w w' ∧ Hid (rest.size ≤ m + 1) ∧ Hid (OuFrom 0 w.heap.size w a k rest) ∧ Hid (OusBd maxLen rest) ∧ Hid (OusBd 1048576 rest → OusBd 1048576 l) ∧ Hid (q + N + wN l ≤ n + wN rest)) (fun _ i _ => N - (intOf i).toNat)
    case atStart => exact ⟨0, _, l, rfl, rfl, by rw [HN.out]; omega, by omega, by omega, Below.refl _ _, HSZ, HF, HD, fun h => h, by unfold Hid; omega⟩
    case round =>
      obtain ⟨wo, rfl⟩ : ∃ x, x = wr := ⟨_, rfl⟩
      obtain ⟨k, q, rest, rfl, rfl, hk, hq0, hq1, hb, HS, HFr, HDr, HL, HWT⟩ := hrel
      cases rest with
      | nil =>
        simp only [Ous.len] at hk
        obtain rfl : k = N := by omega
        go_wp2_with fail
        go_ret
        exact ⟨q, rfl, ⟨hq1, by omega, fun _ => ⟨⟨by first | omega | (rw [HN.out]; omega), HL.out trivial⟩, by have h1 := HWT.out; have h2 := HN.out; simp only [wN] at h1; rw [wO_eq]; omega⟩⟩, hb⟩
      | cons h sub rest =>
        obtain ⟨b, o, a1, c1, a2, c2, ha, _, hbl, e0, e1, e2, e3, e4, hc, r1, r2, rf⟩ := OuFrom.step (OuFrom.keep HFr.out (agree hb (Nat.le_refl _)))
        subst ha
        obtain ⟨d1, d2, d3, d4⟩ := HDr.out
        have hs1 : sub.size ≤ m ∧ rest.size ≤ m + 1 := by have := HS.out; simp only [Ous.size] at this; omega
        have hlt : (k : Int) < N := by simp only [Ous.len] at hk; omega
        have R1 : Hid (KeRow 0 wo.heap.size wo a1 h.keys) := KeRow.wide r1 (Nat.le_refl _) hb.size
        have R2 : Hid (OuRow 0 wo.heap.size wo a2 sub) := OuRow.wide r2 (Nat.le_refl _) hb.size
        have D1 : Hid _ := d1
        have D3 : Hid _ := d3
        have D4 : Hid _ := d4
        have RF : Hid (OuFrom 0 w.heap.size w (some ⟨b, o, none⟩) (k + 1) rest) := by
          rcases HFr.out with h | ⟨b', o', e', f1, f2, f3⟩
          · cases h
          · simp only [Option.some.injEq, Addr.mk.injEq] at e'
            obtain ⟨rfl, rfl, _⟩ := e'
            obtain ⟨_, _, _, _, _, _, e9, _, _, _, _, _, _, _, _, _, _, rf9⟩ := OuFrom.step HFr.out
            exact rf9
        clear r1 r2 rf d1 d3 d4
        go_wp2_with fail
        refine (sz_out_w h sub (HIH.out sub hs1.1) a1 a2 c1 c2 q _ R1.out R2.out D1.out d2 D3.out hq0 (by omega)).mono ?_
        rintro e w1 ⟨m1, rfl, hm, hb1⟩
        have HM : Hid _ := hm
        have u1 := hm.1
        have qb : Below w.heap.size w w1 := hb.trans (hb1.mono hb.size)
        clear hm hb1 e0 e1 e2 e3 e4
        by_cases hneg : m1 < 0
        · go_wp2_with fail
          go_ret
          exact ⟨-1, rfl, Sz.neg h0, qb⟩
        · go_wp2_with fail
          exact ⟨⟨k + 1, m1, rest, by go_num, rfl, by simp only [Ous.len] at hk; omega, by omega, by omega, qb, hs1.2, RF, D4, fun hx => HL.out ⟨(HM.out.2.2 (by omega)).1.1, (HM.out.2.2 (by omega)).1.2.1, (HM.out.2.2 (by omega)).1.2.2, hx⟩, by have h1 := HWT.out; have h2 := (HM.out.2.2 (by omega)).2; simp only [wN] at h1; unfold Hid; omega⟩, by simp [intOf]; omega⟩
end Go.Proofs.YtoaeggfnlenjkaaGreatDoor.G
namespace Go.Proofs.YtoaeggfnlenjkaaGreatDoor.G
open Go.ChangeShapes Go.WideShapes Go.ChangeAt Go.RowKit
set_option linter.unusedVariables false

set_option maxHeartbeats 1000000 in
theorem sz_keys (a : Option Addr) (c : Nat) (l : List ByteArray) (n : Int) (w : World) (hr : KeRow 0 w.heap.size w a l) (hl : l.length ≤ maxLen) (ht : ∀ x ∈ l, x.size ≤ maxLen) (h0 : 0 ≤ n) (h1 : n ≤ 1048576) :
    Calls Tryz.prog 19 #[.slice a l.length c, .int .i64 n] w fun e w' => ∃ m, e = .returned (.int .i64 m) ∧ Sz n m (l.length ≤ 1048576 ∧ ∀ x ∈ l, x.size ≤ 1048576) ∧ w' = w := by
  unfold maxLen at hl
  by_cases hz : n - l.length < 0
  · go_enter Tryz.func19, Tryz.ntmps19
    go_wp2_with fail
    go_ret
    exact ⟨-1, rfl, Sz.neg h0, rfl⟩
  · have HR : Hid (KeRow 0 w.heap.size w a l) := hr
    have HT : Hid (∀ x ∈ l, x.size ≤ maxLen) := ht
    clear hr ht
    go_enter Tryz.func19, Tryz.ntmps19
    go_wp2_with fail
    go_loop [1, 5] (fun r i => ∃ (k : Nat) (m : Int), k ≤ l.length ∧ i = .int .i64 k ∧ r = .int .i64 m ∧ 0 ≤ m ∧ m ≤ n ∧ Hid (∀ x ∈ l.take k, x.size ≤ 1048576)) (fun _ i => l.length - (intOf i).toNat)
    case atStart => exact ⟨0, _, by omega, rfl, rfl, by omega, by omega, by simp [Hid]⟩
    case round =>
      obtain ⟨k, m, hk, rfl, rfl, hm0, hm1, HK⟩ := hrel
      by_cases hlt : k < l.length
      · obtain ⟨b, o, ha, _, hbl, c0⟩ := KeRow.cells HR.out k hlt
        subst ha
        have hx : l[k].size ≤ maxLen := HT.out l[k] (List.getElem_mem hlt)
        unfold maxLen at hx
        by_cases hneg : m - l[k].size < 0
        · go_wp2_with fail
          go_ret
          exact ⟨-1, rfl, Sz.neg h0, rfl⟩
        · go_wp2_with fail
          go_round
          case rel => exact ⟨k + 1, m - l[k].size, by omega, by go_num, by go_num, by omega, by omega, all_take hlt HK.out (by omega)⟩
          case measure => simp [intOf]; omega
      · go_wp2_with fail
        go_ret
        rw [List.take_of_length_le (by omega)] at HK
        exact ⟨m, rfl, ⟨hm1, by omega, fun _ => ⟨by omega, HK.out⟩⟩, rfl⟩
def SzOus (l : Ous) : Prop := ∀ (a : Option Addr) (c : Nat) (n : Int) (w : World), OuRow 0 w.heap.size w a l → l.len ≤ maxLen → OusBd maxLen l → 0 ≤ n → n ≤ 1048576 →
    Calls Tryz.prog 53 #[.slice a l.len c, .int .i64 n] w fun e w' => ∃ m, e = .returned (.int .i64 m) ∧ Sz n m (l.len ≤ 1048576 ∧ OusBd 1048576 l) ∧ Below w.heap.size w w'
set_option maxHeartbeats 1000000 in
theorem sz_out (h : Oh) (sub : Ous) (ih : SzOus sub) (a1 a2 : Option Addr) (c1 c2 : Nat) (n : Int) (w : World) (r1 : KeRow 0 w.heap.size w a1 h.keys) (r2 : OuRow 0 w.heap.size w a2 sub)
    (hb : OhBd maxLen h) (hl : sub.len ≤ maxLen) (hs : OusBd maxLen sub) (h0 : 0 ≤ n) (h1 : n ≤ 1048576) :
    Calls Tryz.prog 18 #[.agg #[.int .i64 h.k, .int .i64 h.n, .string h.t, .slice a1 h.keys.length c1, .slice a2 sub.len c2], .int .i64 n] w fun e w' =>
      ∃ m, e = .returned (.int .i64 m) ∧ Sz n m (OhBd 1048576 h ∧ sub.len ≤ 1048576 ∧ OusBd 1048576 sub) ∧ Below w.heap.size w w' := by
  obtain ⟨b1, b2, b3⟩ := hb
  have b1' := b1
  unfold maxLen at b1'
  have H3 : Hid (∀ x ∈ h.keys, x.size ≤ maxLen) := b3
  have HS : Hid (OusBd maxLen sub) := hs
  have HI : Hid (SzOus sub) := ih
  obtain ⟨V, hV⟩ : ∃ V, V = w.alloc (.cells #[.int .i64 h.k, .int .i64 h.n, .string h.t, .slice a1 h.keys.length c1, .slice a2 sub.len c2] 41) := ⟨_, rfl⟩
  have B0 : Below w.heap.size w V := by rw [hV]; exact (Below.refl _ _).alloc (Nat.le_refl _) _
  have c0 : V.heap[w.heap.size]? = some (.cells #[.int .i64 h.k, .int .i64 h.n, .string h.t, .slice a1 h.keys.length c1, .slice a2 sub.len c2] 41 (0, 0)) := by rw [hV]; exact heap_alloc_new _ _
  have x0 := fun o => row_cell c0 o
  have R1 : Hid (KeRow 0 V.heap.size V a1 h.keys) := KeRow.up r1 B0
  have R2 : Hid (OuRow 0 V.heap.size V a2 sub) := OuRow.up r2 B0
  have HB : Hid _ := B0
  clear b3 hs ih r1 r2 B0 c0
  by_cases g1 : n - h.t.size < 0
  · go_enter Tryz.func18, Tryz.ntmps18
    go_upto_region 1 with fail
    rw [← hV]
    clear hV
    go_wp2_with fail
    go_ret
    exact ⟨-1, rfl, Sz.neg h0, HB.out⟩
  go_enter Tryz.func18, Tryz.ntmps18
  go_upto_region 1 with fail
  rw [← hV]
  clear hV
  go_wp2_with fail
  refine (sz_keys a1 c1 h.keys _ _ R1.out b2 H3.out (by omega) (by omega)).mono ?_
  rintro e w1 ⟨m1, rfl, hm, hw⟩
  rw [hw]
  clear hw w1
  have M1 : Hid _ := hm
  have u1 := hm.1
  clear hm
  by_cases n1 : m1 < 0
  · go_wp2_with fail
    go_ret
    exact ⟨-1, rfl, Sz.neg h0, HB.out⟩
  go_wp2_with fail
  refine (HI.out a2 c2 _ _ R2.out hl HS.out (by omega) (by omega)).mono ?_
  rintro e w3 ⟨m3, rfl, hm, hb3⟩
  have M3 : Hid _ := hm
  have u3 := hm.1
  clear hm
  have q3 : Below w.heap.size w w3 := HB.out.trans (hb3.mono HB.out.size)
  clear hb3
  by_cases n3 : m3 < 0
  · go_wp2_with fail
    go_ret
    exact ⟨-1, rfl, Sz.neg h0, q3⟩
  · go_wp2_with fail
    go_ret
    exact ⟨m3, rfl, ⟨by omega, by omega, fun _ => ⟨⟨by omega, (M1.out.2.2 (by omega)).1, (M1.out.2.2 (by omega)).2⟩, M3.out.2.2 (by omega)⟩⟩, q3⟩
/-- From the k-th value on. -/
theorem sz_ous : ∀ l : Ous, SzOus l := by
  suffices H : ∀ (m : Nat) (l : Ous), l.size ≤ m → SzOus l from fun l => H l.size l (Nat.le_refl _)
  intro m
  induction m with
  | zero =>
    intro l hl
    cases l with
    | cons h s r => simp [Ous.size] at hl
    | nil =>
      intro a c n w hr hlen hbd h0 h1
      simp only [Ous.len]
      go_enter Tryz.func53, Tryz.ntmps53
      go_wp2_with fail
      go_loop [1, 5] (fun r i => r = .int .i64 n ∧ i = .int .i64 0) (fun _ _ => 0)
      case atStart => exact ⟨by simp, rfl⟩
      case round =>
        obtain ⟨rfl, rfl⟩ := hrel
        go_wp2_with fail
        go_ret
        exact ⟨n, rfl, ⟨Int.le_refl _, by omega, fun _ => by first | trivial | exact ⟨Nat.zero_le _, trivial⟩⟩, Below.refl _ _⟩
  | succ m ih =>
    intro l hl a c n w hr hlen hbd h0 h1
    unfold maxLen at hlen
    by_cases hz : n - l.len < 0
    · go_enter Tryz.func53, Tryz.ntmps53
      go_wp2_with fail
      go_ret
      exact ⟨-1, rfl, Sz.neg h0, Below.refl _ _⟩
    have HIH : Hid (∀ x : Ous, x.size ≤ m → SzOus x) := ih
    have HF : Hid (OuFrom 0 w.heap.size w a 0 l) := hr.from_
    have HD : Hid (OusBd maxLen l) := hbd
    have HSZ : Hid (l.size ≤ m + 1) := hl
    obtain ⟨N, hN⟩ : ∃ N, N = l.len := ⟨_, rfl⟩
    rw [← hN] at hlen hz ⊢
    have HN : Hid (l.len = N) := hN.symm
    clear hr hbd ih hl hN
    go_enter Tryz.func53, Tryz.ntmps53
    go_wp2_with fail
    go_loopw [1, 5] (fun r i w' => ∃ (k : Nat) (q : Int) (rest : Ous), i = .int .i64 k ∧ r = .int .i64 q ∧ k + rest.len = N ∧ 0 ≤ q ∧ q ≤ n ∧ Below w.heap.size w w' ∧ Hid (rest.size ≤ m + 1) ∧ Hid (OuFrom 0 w.heap.size w a k rest) ∧ Hid (OusBd maxLen rest) ∧ Hid (OusBd 1048576 rest → OusBd 1048576 l)) (fun _ i _ => N - (intOf i).toNat)
    case atStart => exact ⟨0, _, l, rfl, rfl, by rw [HN.out]; omega, by omega, by omega, Below.refl _ _, HSZ, HF, HD, fun h => h⟩
    case round =>
      obtain ⟨wo, rfl⟩ : ∃ x, x = wr := ⟨_, rfl⟩
      obtain ⟨k, q, rest, rfl, rfl, hk, hq0, hq1, hb, HS, HFr, HDr, HL⟩ := hrel
      cases rest with
      | nil =>
        simp only [Ous.len] at hk
        obtain rfl : k = N := by omega
        go_wp2_with fail
        go_ret
        exact ⟨q, rfl, ⟨hq1, by omega, fun _ => ⟨by first | omega | (rw [HN.out]; omega), HL.out trivial⟩⟩, hb⟩
      | cons h sub rest =>
        obtain ⟨b, o, a1, c1, a2, c2, ha, _, hbl, e0, e1, e2, e3, e4, hc, r1, r2, rf⟩ := OuFrom.step (OuFrom.keep HFr.out (agree hb (Nat.le_refl _)))
        subst ha
        obtain ⟨d1, d2, d3, d4⟩ := HDr.out
        have hs1 : sub.size ≤ m ∧ rest.size ≤ m + 1 := by have := HS.out; simp only [Ous.size] at this; omega
        have hlt : (k : Int) < N := by simp only [Ous.len] at hk; omega
        have R1 : Hid (KeRow 0 wo.heap.size wo a1 h.keys) := KeRow.wide r1 (Nat.le_refl _) hb.size
        have R2 : Hid (OuRow 0 wo.heap.size wo a2 sub) := OuRow.wide r2 (Nat.le_refl _) hb.size
        have D1 : Hid _ := d1
        have D3 : Hid _ := d3
        have D4 : Hid _ := d4
        have RF : Hid (OuFrom 0 w.heap.size w (some ⟨b, o, none⟩) (k + 1) rest) := by
          rcases HFr.out with h | ⟨b', o', e', f1, f2, f3⟩
          · cases h
          · simp only [Option.some.injEq, Addr.mk.injEq] at e'
            obtain ⟨rfl, rfl, _⟩ := e'
            obtain ⟨_, _, _, _, _, _, e9, _, _, _, _, _, _, _, _, _, _, rf9⟩ := OuFrom.step HFr.out
            exact rf9
        clear r1 r2 rf d1 d3 d4
        go_wp2_with fail
        refine (sz_out h sub (HIH.out sub hs1.1) a1 a2 c1 c2 q _ R1.out R2.out D1.out d2 D3.out hq0 (by omega)).mono ?_
        rintro e w1 ⟨m1, rfl, hm, hb1⟩
        have HM : Hid _ := hm
        have u1 := hm.1
        have qb : Below w.heap.size w w1 := hb.trans (hb1.mono hb.size)
        clear hm hb1 e0 e1 e2 e3 e4
        by_cases hneg : m1 < 0
        · go_wp2_with fail
          go_ret
          exact ⟨-1, rfl, Sz.neg h0, qb⟩
        · go_wp2_with fail
          exact ⟨⟨k + 1, m1, rest, by go_num, rfl, by simp only [Ous.len] at hk; omega, by omega, by omega, qb, hs1.2, RF, D4, fun hx => HL.out ⟨(HM.out.2.2 (by omega)).1, (HM.out.2.2 (by omega)).2.1, (HM.out.2.2 (by omega)).2.2, hx⟩⟩, by simp [intOf]; omega⟩
end Go.Proofs.YtoaeggfnlenjkaaGreatDoor.G
namespace Go.Proofs.YtoaeggfnlenjkaaGreatDoor.G
open Go.ChangeShapes Go.WideShapes Go.ChangeAt Go.RowKit
set_option linter.unusedVariables false

theorem sumW_take {l : List ByteArray} {k : Nat} (h : k < l.length) : sumW (l.take (k + 1)) = sumW (l.take k) + l[k].size + 1 := by
  rw [List.take_succ_eq_append_getElem h, sumW_app, sumW_cons, sumW_nil]; omega
set_option maxHeartbeats 1000000 in
theorem sz_texts (a : Option Addr) (c : Nat) (l : List ByteArray) (n : Int) (w : World) (hr : KeRow 0 w.heap.size w a l) (hl : l.length ≤ maxLen) (ht : ∀ x ∈ l, x.size ≤ maxLen) (h0 : 0 ≤ n) (h1 : n ≤ 1048576) :
    Calls Tryz.prog 19 #[.slice a l.length c, .int .i64 n] w fun e w' => ∃ m, e = .returned (.int .i64 m) ∧ Sz n m (sumW l ≤ 1048576) ∧ w' = w := by
  unfold maxLen at hl
  by_cases hz : n - l.length < 0
  · go_enter Tryz.func19, Tryz.ntmps19
    go_wp2_with fail
    go_ret
    exact ⟨-1, rfl, Sz.neg h0, rfl⟩
  · have HR : Hid (KeRow 0 w.heap.size w a l) := hr
    have HT : Hid (∀ x ∈ l, x.size ≤ maxLen) := ht
    clear hr ht
    go_enter Tryz.func19, Tryz.ntmps19
    go_wp2_with fail
    go_loop [1, 5] (fun r i => ∃ (k : Nat) (m : Int), k ≤ l.length ∧ i = .int .i64 k ∧ r = .int .i64 m ∧ 0 ≤ m ∧ m ≤ n ∧ Hid (m + sumW (l.take k) + l.length = n + k)) (fun _ i => l.length - (intOf i).toNat)
    case atStart => exact ⟨0, _, by omega, rfl, rfl, by omega, by omega, by rw [Hid, List.take_zero, sumW_nil]; omega⟩
    case round =>
      obtain ⟨k, m, hk, rfl, rfl, hm0, hm1, HK⟩ := hrel
      by_cases hlt : k < l.length
      · obtain ⟨b, o, ha, _, hbl, c0⟩ := KeRow.cells HR.out k hlt
        subst ha
        have hx : l[k].size ≤ maxLen := HT.out l[k] (List.getElem_mem hlt)
        unfold maxLen at hx
        by_cases hneg : m - l[k].size < 0
        · go_wp2_with fail
          go_ret
          exact ⟨-1, rfl, Sz.neg h0, rfl⟩
        · go_wp2_with fail
          go_round
          case rel => exact ⟨k + 1, m - l[k].size, by omega, by go_num, by go_num, by omega, by omega, by have := HK.out; rw [Hid, sumW_take hlt]; omega⟩
          case measure => simp [intOf]; omega
      · go_wp2_with fail
        go_ret
        rw [List.take_of_length_le (by omega)] at HK
        exact ⟨m, rfl, ⟨hm1, by omega, fun _ => by have := HK.out; omega⟩, rfl⟩
end Go.Proofs.YtoaeggfnlenjkaaGreatDoor.G
namespace Go.Proofs.YtoaeggfnlenjkaaGreatDoor.G
open Go.ChangeShapes Go.WideShapes Go.ChangeAt Go.RowKit
set_option linter.unusedVariables false

/-- What is known of a run that is not too great. -/
def RnSm (r : Rn) : Prop := RnBd 1048576 r ∧ r.h.keys.length + wO r.sub ≤ 1048576 ∧ sumW r.es ≤ 1048576
set_option maxHeartbeats 2000000 in
theorem sz_run (r : Rn) (p : RnA) (n : Int) (w : World) (hr : RunRow 0 w.heap.size w p r) (hb : RnBd maxLen r) (h0 : 0 ≤ n) (h1 : n ≤ 1048576) :
    Calls Tryz.prog 25 #[.agg #[.int .i64 r.need, .slice p.ra r.rs.length p.rc, .slice p.wa r.ws.length p.wc, .int .i64 r.h.k, .int .i64 r.h.n, .string r.h.t, .slice p.a1 r.h.keys.length p.c1, .slice p.a2 r.sub.len p.c2, .slice p.ea r.es.length p.ec], .int .i64 n] w fun e w' => ∃ m, e = .returned (.int .i64 m) ∧ Sz n m (RnSm r) ∧ Below w.heap.size w w' := by
  have HB : Hid (Below w.heap.size w (w.alloc (.cells #[.int .i64 r.need, .slice p.ra r.rs.length p.rc, .slice p.wa r.ws.length p.wc, .int .i64 r.h.k, .int .i64 r.h.n, .string r.h.t, .slice p.a1 r.h.keys.length p.c1, .slice p.a2 r.sub.len p.c2, .slice p.ea r.es.length p.ec] 54))) := (Below.refl _ _).alloc (Nat.le_refl _) _
  obtain ⟨V, hV⟩ : ∃ V, V = w.alloc (.cells #[.int .i64 r.need, .slice p.ra r.rs.length p.rc, .slice p.wa r.ws.length p.wc, .int .i64 r.h.k, .int .i64 r.h.n, .string r.h.t, .slice p.a1 r.h.keys.length p.c1, .slice p.a2 r.sub.len p.c2, .slice p.ea r.es.length p.ec] 54) := ⟨_, rfl⟩
  rw [← hV] at HB
  have c0 : V.heap[w.heap.size]? = some (.cells #[.int .i64 r.need, .slice p.ra r.rs.length p.rc, .slice p.wa r.ws.length p.wc, .int .i64 r.h.k, .int .i64 r.h.n, .string r.h.t, .slice p.a1 r.h.keys.length p.c1, .slice p.a2 r.sub.len p.c2, .slice p.ea r.es.length p.ec] 54 (0, 0)) := by rw [hV]; exact heap_alloc_new _ _
  have zV := (Array.getElem?_eq_some_iff.1 c0).1
  have HR : Hid (RunRow 0 V.heap.size V p r) := hr.up HB.out
  have HD : Hid (RnBd maxLen r) := hb
  have C0 : Hid _ := c0
  have y0 := fun o => row_cell c0 o
  clear hr hb c0
  go_enter Tryz.func25, Tryz.ntmps25
  go_upto_region 1 with fail
  rw [← hV]
  clear hV
  go_wp2_with fail
  refine (sz_nums p.ra p.rc r.rs.length n _ HD.out.1 h0 h1).mono ?_
  rintro e w1 ⟨m1, rfl, hm, rfl⟩
  have M1 : Hid (Sz n m1 (r.rs.length ≤ 1048576)) := hm
  have hm1 := hm.1
  clear hm
  by_cases g1 : m1 < 0
  · go_wp2_with fail
    go_ret
    exact ⟨-1, rfl, Sz.neg h0, HB.out⟩
  go_wp2_with fail
  refine (sz_Pus p.wa p.wc r.ws.length m1 _ HD.out.2.1 (by omega) (by omega)).mono ?_
  rintro e w1 ⟨m2, rfl, hm, rfl⟩
  have M2 : Hid (Sz m1 m2 (r.ws.length ≤ 1048576)) := hm
  have hm2 := hm.1
  clear hm
  by_cases g2 : m2 < 0
  · go_wp2_with fail
    go_ret
    exact ⟨-1, rfl, Sz.neg h0, HB.out⟩
  go_wp2_with fail
  refine (sz_out_w r.h r.sub (sz_ous_w r.sub) p.a1 p.a2 p.c1 p.c2 m2 _ HR.out.2.2.1 HR.out.2.2.2.1 HD.out.2.2.1.1 HD.out.2.2.1.2.1 HD.out.2.2.1.2.2 (by omega) (by omega)).mono ?_
  rintro e w2 ⟨m3, rfl, hm, hb2⟩
  have M3 : Hid (Sz m2 m3 ((OhBd 1048576 r.h ∧ r.sub.len ≤ 1048576 ∧ OusBd 1048576 r.sub) ∧ m3 + r.h.keys.length + wO r.sub ≤ m2)) := hm
  have hm3 := hm.1
  have B2 : Hid (Below w.heap.size w w2) := HB.out.trans (hb2.mono HB.out.size)
  have y2 := fun o => row_cell ((hb2.block _ zV).trans C0.out) o
  have R2 : Hid (KeRow 0 w2.heap.size w2 p.ea r.es) := KeRow.up HR.out.2.2.2.2 hb2
  clear hm hb2 y0 C0 HR
  by_cases g3 : m3 < 0
  · go_wp2_with fail
    go_ret
    exact ⟨-1, rfl, Sz.neg h0, B2.out⟩
  go_wp2_with fail
  refine (sz_texts p.ea p.ec r.es m3 _ R2.out HD.out.2.2.2.1 HD.out.2.2.2.2 (by omega) (by omega)).mono ?_
  rintro e w3 ⟨m4, rfl, hm, rfl⟩
  have M4 : Hid (Sz m3 m4 (sumW r.es ≤ 1048576)) := hm
  have hm4 := hm.1
  clear hm y2
  by_cases g4 : m4 < 0
  · go_wp2_with fail
    go_ret
    exact ⟨-1, rfl, Sz.neg h0, B2.out⟩
  go_wp2_with fail
  go_ret
  refine ⟨m4, rfl, ⟨by omega, by omega, fun _ => ?_⟩, B2.out⟩
  have q3 := M3.out.2.2 (by omega)
  have q4 := M4.out.2.2 (by omega)
  refine ⟨⟨M1.out.2.2 (by omega), M2.out.2.2 (by omega), q3.1, ?_, fun x hx => ?_⟩, by omega, q4⟩
  · have := len_sumW r.es; omega
  · have := mem_sumW hx; omega
end Go.Proofs.YtoaeggfnlenjkaaGreatDoor.G
