/- Answers' values as data, how they lie in memory, and how an argument is opened. -/
import Derived.Test.YtnkaoeijcdchiaaGreatDoorStMark
import Derived.Deep.AppendLies
import Derived.Deep.AppendSrc
namespace Go.Proofs.YtnkaoeijcdchiaaGreatDoor.G
open Go.ChangeShapes Go.WideShapes Go.ChangeAt Go.RowKit
set_option linter.unusedVariables false

theorem keyB_in (key : Int) : inS key 0 15 = keyS key := by unfold inS keyS; rw [Bool.eq_iff_iff]; simp; omega
end Go.Proofs.YtnkaoeijcdchiaaGreatDoor.G
namespace Go.Proofs.YtnkaoeijcdchiaaGreatDoor.G
open Go.ChangeShapes Go.WideShapes Go.ChangeAt Go.RowKit
set_option linter.unusedVariables false

def NuAt (rd : Nat → Option Value) (o : Nat) (x : Int) : Prop := rd o = some (.int .i64 x)
abbrev NuRow (lo hi : Nat) (w : World) (a : Option Addr) (l : List Int) : Prop := Row NuAt 1 lo hi w a l
theorem NuRow.keep {lo hi : Nat} {w w' : World} {a : Option Addr} {l : List Int} (h : NuRow lo hi w a l) (hk : Agree lo hi w w') : NuRow lo hi w' a l := Row.of h hk fun _ _ _ hx => hx
theorem NuRow.wide {lo hi lo' hi' : Nat} {w : World} {a : Option Addr} {l : List Int} (h : NuRow lo hi w a l) (e1 : lo' ≤ lo) (e2 : hi ≤ hi') : NuRow lo' hi' w a l := Row.out h e1 e2 fun _ _ _ hx => hx
theorem NuRow.up {w w' : World} {a : Option Addr} {l : List Int} (h : NuRow 0 w.heap.size w a l) (hb : Below w.heap.size w w') : NuRow 0 w'.heap.size w' a l := NuRow.wide (NuRow.keep h (agree hb (Nat.le_refl _))) (Nat.le_refl _) hb.size
theorem NuRow.cells {lo hi : Nat} {w : World} {a : Option Addr} {l : List Int} (h : NuRow lo hi w a l) (k : Nat) (hk : k < l.length) :
    ∃ b o, a = some ⟨b, o, none⟩ ∧ lo ≤ b ∧ b < hi ∧ w.cell? ⟨b, o + k, none⟩ = some (.int .i64 l[k]) := by
  obtain ⟨b, o, e1, e2, e3, h0⟩ := Row.at_ h k hk
  rw [Nat.mul_one] at h0
  exact ⟨b, o, e1, e2, e3, h0⟩
theorem nu_of {w : World} {N lo hi : Nat} {cs : Array Value} {T : TypeId} {l : List Int} (h : w.heap[N]? = some (.cells cs T (0, 0))) (h1 : lo ≤ N) (h2 : N < hi) (hc : ∀ i (h : i < l.length), cs[i]? = some (.int .i64 l[i])) : NuRow lo hi w (some ⟨N, 0, none⟩) l := by
  refine .inr ⟨N, 0, rfl, h1, h2, fun i x hx => ?_⟩
  obtain ⟨hi, rfl⟩ := List.getElem?_eq_some_iff.1 hx
  rw [row_rd h]
  show cs[0 + i * 1]? = _
  rw [Nat.mul_one, Nat.zero_add]
  exact hc i hi
set_option maxRecDepth 100000 in
theorem info_int : ∃ i, Tryz.prog.info? 3 = some i ∧ i.zero = some (.int .i64 0) ∧ i.size = 1 ∧ i.bytes = 8 := by
  refine ⟨_, rfl, ?_, ?_, ?_⟩ <;> kernel_rfl
/-- What all keys tell at an hour. -/
def vals (l : Chs) (ts : Int) : List Int := l.map fun x => readV x ts
theorem vals_len (l : Chs) (ts : Int) : (vals l ts).length = l.length := by simp [vals]
theorem vals_at {l : Chs} {ts : Int} {i : Nat} (h : i < (vals l ts).length) : (vals l ts)[i] = readV (l[i]'(by rw [vals_len] at h; exact h)) ts := by simp [vals]
end Go.Proofs.YtnkaoeijcdchiaaGreatDoor.G
namespace Go.Proofs.YtnkaoeijcdchiaaGreatDoor.G
open Go.ChangeShapes Go.WideShapes Go.ChangeAt Go.RowKit
set_option linter.unusedVariables false

set_option maxRecDepth 100000 in
theorem info_bool : ∃ i, Tryz.prog.info? 4 = some i ∧ i.zero = some (.bool false) ∧ i.size = 1 ∧ i.bytes = 1 := by
  refine ⟨_, rfl, ?_, ?_, ?_⟩ <;> kernel_rfl
theorem wpList_append_run {P : Program} {ops : Array Oper} {rest : List Oper} {o : Oper} {a : Act} {Q : Exit → Act → World → Prop} {w : World} (hgd : o.guard = none) (s x : Operand) (t : TypeId)
    (ho : o.op = .call { callee := .builtin .append, args := #[s, x], argTypes := #[t, t] }) (sv xv rv : Value) (w' : World) (hs : a.eval s = sv) (hx : a.eval x = xv)
    (hr : (Builtin.append_ #[t, t] o.type #[sv, xv]).run P w = .ok rv w') (h : wpList P ops Q rest (a.put o.dst rv) w') : wpList P ops Q (o :: rest) a w := by
  refine wpList_plain hgd fun K hK => ?_
  unfold Oper.wp execOp
  simp only [ho, resolve, invoke, builtin, Sem.run_bind, Sem.run_pure, Result.andThen_ok, List.map_toArray, List.map_cons, List.map_nil, hs, hx, hr]
  exact hK _ _ h
def nuV (x : List Int) : List Value := x.map fun z => .int .i64 z
theorem nuV_snoc (x : List Int) (z : Int) : nuV (x ++ [z]) = nuV x ++ [.int .i64 z] := by simp [nuV]
theorem app_num (x : List Int) (z : Int) (v : Value) (base h : Nat) (W : World) (ho : W.ownsRow base 3 1 v x.length (nuV x)) (hu : W.heap[h]? = some (.cells #[.int .i64 z] 3 (0, 0))) (hk : x.length ≤ 1048576) (hb : base ≤ W.heap.size) :
    ∃ g cap W', (Builtin.append_ #[25, 25] 25 #[v, .slice (some ⟨h, 0, none⟩) 1 1]).run Tryz.prog W = .ok (.slice (some ⟨g, 0, none⟩) (x.length + 1) cap) W' ∧ W'.ownsRow base 3 1 (.slice (some ⟨g, 0, none⟩) (x.length + 1) cap) (x.length + 1) (nuV (x ++ [z])) ∧ W.grownBy W' v.ownBlock ∧ (v.ownBlock = some g ∨ g = W.heap.size) ∧ g < W'.heap.size := by
  obtain ⟨i, hi, hz, hsz, hby⟩ := info_int
  rw [nuV_snoc]
  exact run_append_lies (P := Tryz.prog) W 25 25 base 3 i _ 1 8 Tryz.underlying25 hi hz hsz hby rfl (by decide) v x.length (nuV x) ho ⟨h, 0, none⟩ 1 1 [.int .i64 z] rfl (fun j y hx => by
    have hj : j = 0 := by have := (List.getElem?_eq_some_iff.1 hx).1; simpa using this
    subst hj
    simp only [List.getElem?_cons_zero, Option.some.injEq] at hx
    subst hx
    rw [add_plain]
    exact row_cell hu 0) (fun y hy => by rw [List.mem_singleton.1 hy]; rfl) (by omega) (by unfold maxLen; omega) (by omega) hb W.heap.size rfl
/-- The keys below k that changed. -/
def keysK (l : Chs) (ts : Int) : Nat → List Int
  | 0 => []
  | k + 1 => if chgB (chAt l k) ts = true then keysK l ts k ++ [(k : Int)] else keysK l ts k
theorem keysK_len (l : Chs) (ts : Int) : ∀ k, (keysK l ts k).length ≤ k
  | 0 => Nat.le_refl _
  | k + 1 => by
    have := keysK_len l ts k
    unfold keysK
    split <;> simp <;> omega
/-- Numbers that a call owns. -/
def NuOwn (lo hi : Nat) (w : World) (a : Option Addr) (x : List Int) : Prop := x = [] ∨ ∃ g cs, a = some ⟨g, 0, none⟩ ∧ lo ≤ g ∧ g < hi ∧ w.heap[g]? = some (.cells cs 3 (0, 0)) ∧ x.length ≤ cs.size ∧ ∀ (i : Nat) (z : Int), x[i]? = some z → cs[i]? = some (.int .i64 z)
theorem NuOwn.of {base : Nat} {w : World} {v : Value} {x : List Int} (h : w.ownsRow base 3 1 v x.length (nuV x)) : ∃ a c, v = .slice a x.length c ∧ NuOwn base w.heap.size w a x := by
  rcases h.2 with ⟨rfl, h0⟩ | ⟨g, cap, cur, rfl, h1, h2, h3, h4, h5, h6⟩
  · have : x = [] := List.eq_nil_of_length_eq_zero h0
    subst this
    exact ⟨none, 0, rfl, .inl rfl⟩
  · refine ⟨_, cap, rfl, .inr ⟨g, cur, rfl, h1, (Array.getElem?_eq_some_iff.1 h2).1, h2, by omega, fun i z hz => ?_⟩⟩
    have hi := (List.getElem?_eq_some_iff.1 hz).1
    have : (nuV x)[i]? = some (.int .i64 z) := by simp [nuV, hz]
    rw [← h6, List.getElem?_take, if_pos (by omega)] at this
    simpa using this
theorem NuOwn.row {lo hi : Nat} {w : World} {a : Option Addr} {x : List Int} (h : NuOwn lo hi w a x) : NuRow lo hi w a x := by
  rcases h with h | ⟨g, cs, rfl, h1, h2, h3, h4, h5⟩
  · exact .inl h
  · exact nu_of h3 h1 h2 (fun i h => h5 i _ (List.getElem?_eq_getElem h))
theorem NuOwn.keep {lo hi : Nat} {w w' : World} {a : Option Addr} {x : List Int} (h : NuOwn lo hi w a x) (hk : Agree lo hi w w') : NuOwn lo hi w' a x := by
  rcases h with h | ⟨g, cs, rfl, h1, h2, h3, h4⟩
  · exact .inl h
  · exact .inr ⟨g, cs, rfl, h1, h2, (hk g h1 h2).trans h3, h4⟩
theorem NuOwn.wide {lo hi lo' hi' : Nat} {w : World} {a : Option Addr} {x : List Int} (h : NuOwn lo hi w a x) (e1 : lo' ≤ lo) (e2 : hi ≤ hi') : NuOwn lo' hi' w a x := by
  rcases h with h | ⟨g, cs, rfl, h1, h2, h3⟩
  · exact .inl h
  · exact .inr ⟨g, cs, rfl, by omega, by omega, h3⟩
/-- Numbers that bear the marks from K on. -/
def NuMk (lo hi : Nat) (w : World) (a : Option Addr) (n : Nat) (K : Int) : Prop := n = 0 ∨ ∃ g cs, a = some ⟨g, 0, none⟩ ∧ lo ≤ g ∧ g < hi ∧ w.heap[g]? = some (.cells cs 3 (0, 0)) ∧ n ≤ cs.size ∧ ∀ i : Nat, i < n → cs[i]? = some (.int .i64 (K + i))
theorem NuMk.keep {lo hi : Nat} {w w' : World} {a : Option Addr} {n : Nat} {K : Int} (h : NuMk lo hi w a n K) (hk : Agree lo hi w w') : NuMk lo hi w' a n K := by
  rcases h with h | ⟨g, cs, rfl, h1, h2, h3, h4⟩
  · exact .inl h
  · exact .inr ⟨g, cs, rfl, h1, h2, (hk g h1 h2).trans h3, h4⟩
set_option maxHeartbeats 2000000 in
theorem mark_nums (a : Option Addr) (c : Nat) (x : List Int) (lo hi : Nat) (K : Int) (w : World) (ho : NuOwn lo hi w a x) (hl : x.length ≤ 1048576) (h0 : 0 ≤ K) (h1 : K ≤ 4398046511104) :
    Calls Tryz.prog 43 #[.slice a x.length c, .int .i64 K] w fun e w' => ∃ r : Int, e = .returned (.int .i64 r) ∧ r = K + x.length ∧ NuMk lo hi w' a x.length K ∧ KeptS lo hi w w' := by
  rcases ho with rfl | ⟨g, cs0, rfl, g1, g2, hh, hs, hm⟩
  · go_enter Tryz.func43, Tryz.ntmps43
    go_wp2_with fail
    go_loop [1, 5] (fun s i => s = .int .i64 K ∧ i = .int .i64 0) (fun _ _ => 0)
    case atStart => exact ⟨rfl, rfl⟩
    case round =>
      obtain ⟨rfl, rfl⟩ := hrel
      go_wp2_with fail
      go_ret
      exact ⟨_, rfl, by simp, .inl rfl, KeptS.refl _ _ _⟩
  · have HH : Hid _ := hh
    clear hh hm
    go_enter Tryz.func43, Tryz.ntmps43
    go_wp2_with fail
    go_loopw [1, 5] (fun s i w' => ∃ (k : Nat) (z : Int) (cs : Array Value), k ≤ x.length ∧ i = .int .i64 k ∧ s = .int .i64 z ∧ z = K + k ∧ Hid (w'.heap[g]? = some (.cells cs 3 (0, 0))) ∧ x.length ≤ cs.size ∧ Hid (∀ i : Nat, i < k → cs[i]? = some (.int .i64 (K + i))) ∧ Hid (KeptS lo hi w w')) (fun _ i _ => x.length - (intOf i).toNat)
    case atStart => exact ⟨0, K, cs0, by omega, rfl, rfl, by omega, HH, hs, fun i h => by omega, KeptS.refl _ _ _⟩
    case round =>
      obtain ⟨k, z, cs, hk, rfl, rfl, hz, HW, hcs, HM, HK⟩ := hrel
      by_cases hlt : k < x.length
      · obtain ⟨u0, hv0⟩ : ∃ v, wr.cell? ⟨g, k, none⟩ = some v := ⟨_, (row_cell HW.out _).trans (Array.getElem?_eq_getElem (by omega))⟩
        have hf0 := row_frozen HW.out k
        have HZ : Hid (z = K + k) := hz
        have hz1 : 0 ≤ z := by omega
        have hz2 : z ≤ 4398048608256 := by omega
        clear hz
        go_wp2_with fail
        refine ⟨⟨k + 1, z + 1, _, by omega, by go_num, by go_num, by have := HZ.out; omega, row_set HW.out _ _, by simpa using hcs, ?_, HK.out.set (p := ⟨g, k, none⟩) g1 g2 _⟩, by simp [intOf]; omega⟩
        intro i hi
        by_cases e : i = k
        · subst e; rw [← HZ.out]; simp [Array.getElem?_setIfInBounds]; omega
        · rw [Array.getElem?_setIfInBounds_ne (by omega)]; exact HM.out i (by omega)
      · obtain rfl : k = x.length := by omega
        have HZ : Hid _ := hz
        clear hz
        go_wp2_with fail
        go_ret
        exact ⟨_, rfl, HZ.out, .inr ⟨g, cs, rfl, g1, g2, HW.out, hcs, HM.out⟩, HK.out⟩
set_option maxHeartbeats 2000000 in
theorem eq_nums (a a' : Option Addr) (c c' : Nat) (x : List Int) (w : World) (hr : NuRow 0 w.heap.size w a x) (hr' : NuRow 0 w.heap.size w a' x) (hl : x.length ≤ 1048576) :
    Calls Tryz.prog 36 #[.slice a x.length c, .slice a' x.length c'] w fun e w' => e = .returned (.bool true) ∧ Below w.heap.size w w' := by
  have HR : Hid _ := hr
  have HR' : Hid _ := hr'
  clear hr hr'
  go_enter Tryz.func36, Tryz.ntmps36
  go_wp2_with fail
  go_loopw [5] (fun i w' => ∃ (k q : Nat), k ≤ x.length ∧ i = .int .i64 k ∧ w' = w.drewN q) (fun i _ => x.length - (intOf i).toNat)
  case atStart => exact ⟨0, 0, by omega, rfl, rfl⟩
  case round =>
    obtain ⟨k, q, hk, rfl, rfl⟩ := hrel
    by_cases hlt : k < x.length
    · obtain ⟨b, o, ha, _, hbl, d0⟩ := NuRow.cells HR.out k hlt
      obtain ⟨b', o', ha', _, hbl', d1⟩ := NuRow.cells HR'.out k hlt
      subst ha ha'
      have hlt' : (k : Int) < x.length := by omega
      go_wp2_with fail
      go_quiet (fail)
      go_wp2_with fail
      exact ⟨⟨k + 1, q + nq, by omega, by go_num, by simp⟩, by simp [intOf]; omega⟩
    · go_wp2_with fail
      go_ret
      exact ⟨rfl, below_drewN (Below.refl _ _) _⟩
end Go.Proofs.YtnkaoeijcdchiaaGreatDoor.G
namespace Go.Proofs.YtnkaoeijcdchiaaGreatDoor.G
open Go.ChangeShapes Go.WideShapes Go.ChangeAt Go.RowKit
set_option linter.unusedVariables false

section
variable {H : Type} {enc : TypeId × Value → H} {W : World}
theorem Nus_open {fuel : Nat} {cs : List Value} {x : DataW H × List MemPlace} (h : DataW.trod enc Tryz.prog W 0 (fun _ => true) true fuel 25 cs = some x) :
    ∃ a c, ∃ l : List Int, cs = [.slice a l.length c] ∧ l.length ≤ maxLen ∧ NuRow 0 W.heap.size W a l := by
  have ci : Tryz.prog.cellsOf 3 = 1 := by kernel_rfl
  obtain ⟨a, len, cap, rfl, hm, hr⟩ := sl_open Tryz.underlying25 (z := 1) (by kernel_rfl) (by omega) h
  rcases hr with rfl | ⟨n, b, o, rfl, rfl, hb, hx⟩
  · exact ⟨a, cap, [], rfl, Nat.zero_le _, .inl rfl⟩
  · obtain ⟨l, hl, hp⟩ := list_of (p := fun i x => NuAt (rdOf W b) (o + i * 1) x) (fun i hi => by
      obtain ⟨cs', y, hcl, hc, hd⟩ := hx i hi
      obtain ⟨g0, e0, _, _⟩ := DataW.trod_int Tryz.underlying3 hd
      subst e0
      exact ⟨g0, hc 0 (by omega)⟩)
    subst hl
    exact ⟨_, cap, l, rfl, hm, .inr ⟨b, o, rfl, Nat.zero_le _, hb, fun i x hx => hp i x hx⟩⟩
end
set_option maxHeartbeats 1000000 in
theorem sz_nums (a : Option Addr) (c len : Nat) (n : Int) (w : World) (hl : len ≤ maxLen) (h0 : 0 ≤ n) (h1 : n ≤ 1048576) :
    Calls Tryz.prog 21 #[.slice a len c, .int .i64 n] w fun e w' => ∃ m, e = .returned (.int .i64 m) ∧ Sz n m (len ≤ 1048576) ∧ w' = w := by
  unfold maxLen at hl
  by_cases hz : n - len < 0
  · go_enter Tryz.func21, Tryz.ntmps21
    go_wp2_with fail
    go_ret
    exact ⟨-1, rfl, Sz.neg h0, rfl⟩
  · go_enter Tryz.func21, Tryz.ntmps21
    go_wp2_with fail
    go_ret
    exact ⟨_, rfl, ⟨by omega, by omega, fun _ => by omega⟩, rfl⟩
set_option maxHeartbeats 1000000 in
theorem to_nums (a : Option Addr) (c : Nat) (l : List Int) (w : World) (hr : NuRow 0 w.heap.size w a l) (hl : l.length ≤ 1048576) :
    Calls Tryz.prog 28 #[.slice a l.length c] w fun e w' => e = .returned (.slice (some ⟨w.heap.size, 0, none⟩) l.length l.length) ∧ NuOwn w.heap.size w'.heap.size w' (some ⟨w.heap.size, 0, none⟩) l ∧ Below w.heap.size w w' := by
  have HR : Hid (NuRow 0 w.heap.size w a l) := hr
  clear hr
  obtain ⟨i27, hi, hz, hsz, hby⟩ := info_int
  have hmk := run_make (P := Tryz.prog) w 25 3 i27 _ Tryz.underlying25 hi hz .i64 .i64 (l.length : Int) (l.length : Int) (by omega) (by omega) (by rw [hby]; omega) (by omega)
  rw [hsz, Int.toNat_natCast, Nat.mul_one] at hmk
  clear hi hz hsz hby
  have hs0 := size_madeCells (Value.int .i64 0).cells l.length
  generalize madeCells (Value.int .i64 0).cells l.length = cs0 at *
  go_enter Tryz.func28, Tryz.ntmps28
  go_wp2_with fail
  go_loopw [4] (fun i w' => ∃ (k : Nat) (cs : Array Value), k ≤ l.length ∧ i = .int .i64 k ∧ Below w.heap.size w w' ∧ Hid (w'.heap[w.heap.size]? = some (.cells cs 3 (0, 0))) ∧ cs.size = l.length ∧ Hid (∀ i x, i < k → l[i]? = some x → cs[i]? = some (.int .i64 x))) (fun i _ => l.length - (intOf i).toNat)
  case atStart => exact ⟨0, cs0, by omega, rfl, (Below.refl _ _).alloc (Nat.le_refl _) _, heap_alloc_new _ _, hs0, fun i x h => by omega⟩
  case round =>
    obtain ⟨wo, rfl⟩ : ∃ x, x = wr := ⟨_, rfl⟩
    obtain ⟨k, cs, hk, rfl, hb, HH, hcs, HL⟩ := hrel
    clear hmk hs0
    by_cases hlt : k < l.length
    · obtain ⟨b, o, ha, _, hbl, d0⟩ := NuRow.cells (NuRow.keep HR.out (agree hb (Nat.le_refl _))) k hlt
      subst ha
      obtain ⟨v0, hv0⟩ : ∃ v, wo.cell? ⟨w.heap.size, k, none⟩ = some v := ⟨_, (row_cell HH.out _).trans (Array.getElem?_eq_getElem (by omega))⟩
      have hf0 := row_frozen HH.out k
      go_wp2_with fail
      refine ⟨⟨k + 1, _, by omega, by go_num, hb.setCell (Nat.le_refl _) _, row_set HH.out _ _, by simp [hcs], ?_⟩, by simp [intOf]; omega⟩
      intro i x hi hx
      by_cases e : i = k
      · subst e
        rw [List.getElem?_eq_getElem hlt] at hx
        simp only [Option.some.injEq] at hx
        subst hx
        simp [Array.getElem?_setIfInBounds]; omega
      · rw [Array.getElem?_setIfInBounds_ne (by omega)]; exact HL.out i x (by omega) hx
    · go_wp2_with fail
      go_ret
      obtain rfl : k = l.length := by omega
      have hN : w.heap.size < wo.heap.size := (Array.getElem?_eq_some_iff.1 HH.out).1
      exact ⟨rfl, .inr ⟨w.heap.size, cs, rfl, Nat.le_refl _, hN, HH.out, by omega, fun i x hx => HL.out i x (List.getElem?_eq_some_iff.1 hx).1 hx⟩, hb⟩
end Go.Proofs.YtnkaoeijcdchiaaGreatDoor.G
namespace Go.Proofs.YtnkaoeijcdchiaaGreatDoor.G
open Go.ChangeShapes Go.WideShapes Go.ChangeAt Go.RowKit
set_option linter.unusedVariables false

/-- A value but for its items. -/
structure Oh where
  k : Int
  n : Int
  t : ByteArray
  keys : List ByteArray
/-- A list of values: the first one, its items, and the rest. -/
inductive Ous where
  | nil
  | cons (h : Oh) (sub rest : Ous)
namespace Ous
def len : Ous → Nat
  | .nil => 0
  | .cons _ _ rest => rest.len + 1
def size : Ous → Nat
  | .nil => 0
  | .cons _ sub rest => 1 + sub.size + rest.size
theorem len_le_size : ∀ l : Ous, l.len ≤ l.size
  | .nil => Nat.le_refl _
  | .cons h sub rest => by have := len_le_size rest; simp [len, size]; omega
theorem nil_of {l : Ous} (h : l.len = 0) : l = .nil := by cases l with | nil => rfl | cons h s r => simp [len] at h
end Ous
def KeAt (rd : Nat → Option Value) (o : Nat) (x : ByteArray) : Prop := rd o = some (.string x)
abbrev KeRow (lo hi : Nat) (w : World) (a : Option Addr) (l : List ByteArray) : Prop := Row KeAt 1 lo hi w a l
theorem KeRow.keep {lo hi : Nat} {w w' : World} {a : Option Addr} {l : List ByteArray} (h : KeRow lo hi w a l) (hk : Agree lo hi w w') : KeRow lo hi w' a l := Row.of h hk fun _ _ _ hx => hx
theorem KeRow.wide {lo hi lo' hi' : Nat} {w : World} {a : Option Addr} {l : List ByteArray} (h : KeRow lo hi w a l) (e1 : lo' ≤ lo) (e2 : hi ≤ hi') : KeRow lo' hi' w a l := Row.out h e1 e2 fun _ _ _ hx => hx
theorem KeRow.up {w w' : World} {a : Option Addr} {l : List ByteArray} (h : KeRow 0 w.heap.size w a l) (hb : Below w.heap.size w w') : KeRow 0 w'.heap.size w' a l := KeRow.wide (KeRow.keep h (agree hb (Nat.le_refl _))) (Nat.le_refl _) hb.size
theorem KeRow.cells {lo hi : Nat} {w : World} {a : Option Addr} {l : List ByteArray} (h : KeRow lo hi w a l) (k : Nat) (hk : k < l.length) :
    ∃ b o, a = some ⟨b, o, none⟩ ∧ lo ≤ b ∧ b < hi ∧ w.cell? ⟨b, o + k, none⟩ = some (.string l[k]) := by
  obtain ⟨b, o, e1, e2, e3, h0⟩ := Row.at_ h k hk
  rw [Nat.mul_one] at h0
  exact ⟨b, o, e1, e2, e3, h0⟩
theorem KeRow.take {lo hi : Nat} {w : World} {a : Option Addr} {x : List ByteArray} (h : KeRow lo hi w a x) (n : Nat) : KeRow lo hi w a (x.take n) := by
  rcases h with rfl | ⟨b, o, e, h1, h2, h3⟩
  · exact .inl (by simp)
  · exact .inr ⟨b, o, e, h1, h2, fun i y hy => h3 i y (by rw [List.getElem?_take] at hy; split at hy; exact hy; cases hy)⟩
/-- One value's cells but the last. -/
def OhAt (lo hi : Nat) (w : World) (rd : Nat → Option Value) (o : Nat) (h : Oh) : Prop :=
  rd o = some (.int .i64 h.k) ∧ rd (o + 1) = some (.int .i64 h.n) ∧ rd (o + 2) = some (.string h.t) ∧ ∃ a c, rd (o + 3) = some (.slice a h.keys.length c) ∧ h.keys.length ≤ c ∧ KeRow lo hi w a h.keys
/-- The first k of a list. -/
def OuPre (lo hi : Nat) (w : World) : Ous → (Nat → Option Value) → Nat → Nat → Prop
  | .nil, _, _, _ => True
  | .cons h sub rest, rd, o, k => k = 0 ∨ (OhAt lo hi w rd o h ∧
      (∃ a c, rd (o + 4) = some (.slice a sub.len c) ∧ (sub = .nil ∨ ∃ b o', a = some ⟨b, o', none⟩ ∧ lo ≤ b ∧ b < hi ∧ OuPre lo hi w sub (rdOf w b) o' sub.len)) ∧
      OuPre lo hi w rest rd (o + 5) (k - 1))
def OuRow (lo hi : Nat) (w : World) (a : Option Addr) (l : Ous) : Prop :=
  l = .nil ∨ ∃ b o, a = some ⟨b, o, none⟩ ∧ lo ≤ b ∧ b < hi ∧ OuPre lo hi w l (rdOf w b) o l.len
theorem OhAt.keep {lo hi : Nat} {w w' : World} {rd : Nat → Option Value} {o : Nat} {h : Oh} (hh : OhAt lo hi w rd o h) (hk : Agree lo hi w w') : OhAt lo hi w' rd o h := by
  obtain ⟨h0, h1, h2, a, c, h3, hc, h4⟩ := hh
  exact ⟨h0, h1, h2, a, c, h3, hc, h4.keep hk⟩
theorem OhAt.wide {lo hi lo' hi' : Nat} {w : World} {rd : Nat → Option Value} {o : Nat} {h : Oh} (hh : OhAt lo hi w rd o h) (e1 : lo' ≤ lo) (e2 : hi ≤ hi') : OhAt lo' hi' w rd o h := by
  obtain ⟨h0, h1, h2, a, c, h3, hc, h4⟩ := hh
  exact ⟨h0, h1, h2, a, c, h3, hc, h4.wide e1 e2⟩
theorem OuPre.keep {lo hi : Nat} {w w' : World} (hk : Agree lo hi w w') : ∀ {l : Ous} {rd : Nat → Option Value} {o k : Nat}, OuPre lo hi w l rd o k → OuPre lo hi w' l rd o k
  | .nil, _, _, _, _ => trivial
  | .cons h sub rest, rd, o, k, hp => by
    rcases hp with hp | ⟨p1, ⟨a, c, p2, p3⟩, p4⟩
    · exact .inl hp
    · refine .inr ⟨p1.keep hk, ⟨a, c, p2, ?_⟩, OuPre.keep hk p4⟩
      rcases p3 with p3 | ⟨b, o', e, e1, e2, p3⟩
      · exact .inl p3
      · exact .inr ⟨b, o', e, e1, e2, by rw [hk.rd e1 e2]; exact OuPre.keep hk p3⟩
theorem OuPre.wide {lo hi lo' hi' : Nat} {w : World} (e1 : lo' ≤ lo) (e2 : hi ≤ hi') : ∀ {l : Ous} {rd : Nat → Option Value} {o k : Nat}, OuPre lo hi w l rd o k → OuPre lo' hi' w l rd o k
  | .nil, _, _, _, _ => trivial
  | .cons h sub rest, rd, o, k, hp => by
    rcases hp with hp | ⟨p1, ⟨a, c, p2, p3⟩, p4⟩
    · exact .inl hp
    · refine .inr ⟨p1.wide e1 e2, ⟨a, c, p2, ?_⟩, OuPre.wide e1 e2 p4⟩
      rcases p3 with p3 | ⟨b, o', e, f1, f2, p3⟩
      · exact .inl p3
      · exact .inr ⟨b, o', e, by omega, by omega, OuPre.wide e1 e2 p3⟩
theorem OuRow.keep {lo hi : Nat} {w w' : World} {a : Option Addr} {l : Ous} (h : OuRow lo hi w a l) (hk : Agree lo hi w w') : OuRow lo hi w' a l := by
  rcases h with h | ⟨b, o, rfl, h1, h2, h3⟩
  · exact .inl h
  · exact .inr ⟨b, o, rfl, h1, h2, by rw [hk.rd h1 h2]; exact h3.keep hk⟩
theorem OuRow.wide {lo hi lo' hi' : Nat} {w : World} {a : Option Addr} {l : Ous} (h : OuRow lo hi w a l) (e1 : lo' ≤ lo) (e2 : hi ≤ hi') : OuRow lo' hi' w a l := by
  rcases h with h | ⟨b, o, rfl, h1, h2, h3⟩
  · exact .inl h
  · exact .inr ⟨b, o, rfl, by omega, by omega, h3.wide e1 e2⟩
theorem OuRow.up {w w' : World} {a : Option Addr} {l : Ous} (h : OuRow 0 w.heap.size w a l) (hb : Below w.heap.size w w') : OuRow 0 w'.heap.size w' a l :=
  (h.keep (agree hb (Nat.le_refl _))).wide (Nat.le_refl _) hb.size
/-- A list in memory from its k-th value on. -/
def OuFrom (lo hi : Nat) (w : World) (a : Option Addr) (k : Nat) (l : Ous) : Prop :=
  l = .nil ∨ ∃ b o, a = some ⟨b, o, none⟩ ∧ lo ≤ b ∧ b < hi ∧ OuPre lo hi w l (rdOf w b) (o + k * 5) l.len
theorem OuRow.from_ {lo hi : Nat} {w : World} {a : Option Addr} {l : Ous} (h : OuRow lo hi w a l) : OuFrom lo hi w a 0 l := by
  rcases h with h | ⟨b, o, rfl, h1, h2, h3⟩
  · exact .inl h
  · exact .inr ⟨b, o, rfl, h1, h2, by simpa using h3⟩
theorem OuFrom.keep {lo hi : Nat} {w w' : World} {a : Option Addr} {k : Nat} {l : Ous} (h : OuFrom lo hi w a k l) (hk : Agree lo hi w w') : OuFrom lo hi w' a k l := by
  rcases h with h | ⟨b, o, rfl, h1, h2, h3⟩
  · exact .inl h
  · exact .inr ⟨b, o, rfl, h1, h2, by rw [hk.rd h1 h2]; exact h3.keep hk⟩
theorem OuFrom.wide {lo hi lo' hi' : Nat} {w : World} {a : Option Addr} {k : Nat} {l : Ous} (h : OuFrom lo hi w a k l) (e1 : lo' ≤ lo) (e2 : hi ≤ hi') : OuFrom lo' hi' w a k l := by
  rcases h with h | ⟨b, o, rfl, h1, h2, h3⟩
  · exact .inl h
  · exact .inr ⟨b, o, rfl, by omega, by omega, h3.wide e1 e2⟩
theorem OuFrom.up {w w' : World} {a : Option Addr} {k : Nat} {l : Ous} (h : OuFrom 0 w.heap.size w a k l) (hb : Below w.heap.size w w') : OuFrom 0 w'.heap.size w' a k l :=
  (h.keep (agree hb (Nat.le_refl _))).wide (Nat.le_refl _) hb.size
/-- The k-th value's cells, its lists, and the rest. -/
theorem OuFrom.step {lo hi : Nat} {w : World} {a : Option Addr} {k : Nat} {h : Oh} {sub rest : Ous} (H : OuFrom lo hi w a k (.cons h sub rest)) :
    ∃ b o a1 c1 a2 c2, a = some ⟨b, o, none⟩ ∧ lo ≤ b ∧ b < hi ∧ w.cell? ⟨b, o + k * 5, none⟩ = some (.int .i64 h.k) ∧ w.cell? ⟨b, o + k * 5 + 1, none⟩ = some (.int .i64 h.n) ∧ w.cell? ⟨b, o + k * 5 + 2, none⟩ = some (.string h.t) ∧
      w.cell? ⟨b, o + k * 5 + 3, none⟩ = some (.slice a1 h.keys.length c1) ∧ w.cell? ⟨b, o + k * 5 + 4, none⟩ = some (.slice a2 sub.len c2) ∧ h.keys.length ≤ c1 ∧
      KeRow lo hi w a1 h.keys ∧ OuRow lo hi w a2 sub ∧ OuFrom lo hi w a (k + 1) rest := by
  rcases H with H | ⟨b, o, rfl, h1, h2, h3⟩
  · cases H
  · rcases h3 with h3 | ⟨⟨p0, p1, p2, a1, c1, p3, pc, q3⟩, ⟨a2, c2, p4, q4⟩, p6⟩
    · simp [Ous.len] at h3
    refine ⟨b, o, a1, c1, a2, c2, rfl, h1, h2, p0, p1, p2, p3, p4, pc, q3, q4, ?_⟩
    refine .inr ⟨b, o, rfl, h1, h2, ?_⟩
    rw [show o + (k + 1) * 5 = o + k * 5 + 5 by omega]
    have e : (Ous.cons h sub rest).len - 1 = rest.len := by simp [Ous.len]
    rw [e] at p6
    exact p6
/-- Bounds. -/
def OhBd (m : Nat) (h : Oh) : Prop := h.t.size ≤ m ∧ h.keys.length ≤ m ∧ ∀ x ∈ h.keys, x.size ≤ m
def OusBd (m : Nat) : Ous → Prop
  | .nil => True
  | .cons h sub rest => OhBd m h ∧ sub.len ≤ m ∧ OusBd m sub ∧ OusBd m rest
theorem five {α : Type} {l : List α} (h : l.length = 5) : ∃ a b c d e, l = [a, b, c, d, e] := by
  match l, h with
  | [a, b, c, d, e], _ => exact ⟨a, b, c, d, e, rfl⟩
def appO : List (Oh × Ous) → Ous → Ous
  | [], r => r
  | x :: l, r => .cons x.1 x.2 (appO l r)
theorem appO_len : ∀ (l : List (Oh × Ous)) (r : Ous), (appO l r).len = l.length + r.len
  | [], r => by simp [appO]
  | x :: l, r => by simp [appO, Ous.len, appO_len l r]; omega
section
variable {H : Type} {enc : TypeId × Value → H} {W : World}
theorem sl_open2 {t e : TypeId} {z : Nat} {fuel : Nat} {cs : List Value} {x : DataW H × List MemPlace} (ht : Tryz.prog.underlying t = some (.slice e)) (hz : Tryz.prog.cellsOf e = z) (hz0 : 0 < z) (h : DataW.trod enc Tryz.prog W 0 (fun _ => true) true fuel t cs = some x) :
    ∃ a len cap, cs = [.slice a len cap] ∧ len ≤ cap ∧ len ≤ maxLen ∧ (len = 0 ∨ ∃ n b o, fuel = n + 1 ∧ a = some ⟨b, o, none⟩ ∧ b < W.heap.size ∧
      ∀ i, i < len → ∃ cs' y, cs'.length = z ∧ (∀ j, j < z → rdOf W b (o + i * z + j) = cs'[j]?) ∧ DataW.trod enc Tryz.prog W 0 (fun _ => true) true n e cs' = some y) := by
  have h' := h
  rcases DataW.trod_slice ht h with ⟨rfl, _⟩ | ⟨a, len, cap, elems, rest, n, rfl, rfl, _, hb, hl, hm, hlen, hel, _, _⟩
  · exact ⟨none, 0, 0, rfl, Nat.le_refl _, Nat.zero_le _, .inl rfl⟩
  · obtain ⟨a', len', cap', e', h1, h2⟩ := sl_open ht hz hz0 h'
    simp only [List.cons.injEq, Value.slice.injEq, and_true] at e'
    obtain ⟨rfl, rfl, rfl⟩ := e'
    exact ⟨_, _, _, rfl, hl, h1, h2⟩
theorem keys_open {fuel : Nat} {cs : List Value} {x : DataW H × List MemPlace} (h : DataW.trod enc Tryz.prog W 0 (fun _ => true) true fuel 27 cs = some x) :
    ∃ a c, ∃ l : List ByteArray, cs = [.slice a l.length c] ∧ l.length ≤ c ∧ l.length ≤ maxLen ∧ (∀ x ∈ l, x.size ≤ maxLen) ∧ KeRow 0 W.heap.size W a l := by
  have cst : Tryz.prog.cellsOf 9 = 1 := by kernel_rfl
  obtain ⟨a, len, cap, rfl, hcap, hm, hr⟩ := sl_open2 Tryz.underlying27 (z := 1) cst (by omega) h
  rcases hr with rfl | ⟨n, b, o, rfl, rfl, hb, hx⟩
  · exact ⟨a, cap, [], rfl, Nat.zero_le _, Nat.zero_le _, by simp, .inl rfl⟩
  · obtain ⟨l, hl, hp⟩ := list_of (p := fun i x => KeAt (rdOf W b) (o + i * 1) x ∧ x.size ≤ maxLen) (fun i hi => by
      obtain ⟨cs', y, hcl, hc, hd⟩ := hx i hi
      obtain ⟨s, e0, _, hs⟩ := DataW.trod_string Tryz.underlying9 hd
      subst e0
      exact ⟨s, hc 0 (by omega), hs⟩)
    subst hl
    refine ⟨_, cap, l, rfl, hcap, hm, fun x hx => ?_, .inr ⟨b, o, rfl, Nat.zero_le _, hb, fun i x hx => (hp i x hx).1⟩⟩
    obtain ⟨i, hi, rfl⟩ := List.getElem_of_mem hx
    exact (hp i _ (List.getElem?_eq_getElem hi)).2
theorem ous_of {lo hi : Nat} {w : World} {rd : Nat → Option Value} {m : Nat} : ∀ {l : List (Oh × Ous)} {o : Nat}, (∀ i x, l[i]? = some x → OhAt lo hi w rd (o + i * 5) x.1 ∧ (∃ a c, rd (o + i * 5 + 4) = some (.slice a x.2.len c) ∧ OuRow lo hi w a x.2) ∧ OhBd m x.1 ∧ x.2.len ≤ m ∧ OusBd m x.2) →
    OuPre lo hi w (appO l .nil) rd o l.length ∧ OusBd m (appO l .nil)
  | [], _, _ => ⟨trivial, trivial⟩
  | x :: l, o, h => by
    obtain ⟨h1, h2, h3, h4, h5⟩ := h 0 x rfl
    have := ous_of (l := l) (o := o + 5) (fun i y hy => by
      have := h (i + 1) y (by simpa using hy)
      rw [show o + (i + 1) * 5 = o + 5 + i * 5 by omega] at this
      exact this)
    simp only [Nat.zero_mul, Nat.add_zero] at h1 h2
    exact ⟨.inr ⟨h1, h2, this.1⟩, h3, h4, h5, this.2⟩
theorem ous_open : ∀ {fuel : Nat} {cs : List Value} {x : DataW H × List MemPlace}, DataW.trod enc Tryz.prog W 0 (fun _ => true) true fuel 28 cs = some x →
    ∃ a c, ∃ l : Ous, cs = [.slice a l.len c] ∧ l.len ≤ maxLen ∧ OusBd maxLen l ∧ OuRow 0 W.heap.size W a l := by
  intro fuel
  induction fuel using Nat.strongRecOn with
  | _ fuel ih =>
  intro cs x h
  have ci : Tryz.prog.cellsOf 3 = 1 := by kernel_rfl
  have cst : Tryz.prog.cellsOf 9 = 1 := by kernel_rfl
  have cs1 : Tryz.prog.cellsOf 27 = 1 := by kernel_rfl
  have cs3 : Tryz.prog.cellsOf 28 = 1 := by kernel_rfl
  obtain ⟨a, len, cap, rfl, _, hm, hr⟩ := sl_open2 Tryz.underlying28 (z := 5) (by kernel_rfl) (by omega) h
  rcases hr with rfl | ⟨n, b, o, rfl, rfl, hb, hx⟩
  · exact ⟨a, cap, .nil, rfl, Nat.zero_le _, trivial, .inl rfl⟩
  · obtain ⟨l, hl, hp⟩ := list_of (p := fun i (x : Oh × Ous) => OhAt 0 W.heap.size W (rdOf W b) (o + i * 5) x.1 ∧ (∃ a c, rdOf W b (o + i * 5 + 4) = some (.slice a x.2.len c) ∧ OuRow 0 W.heap.size W a x.2) ∧ OhBd maxLen x.1 ∧ x.2.len ≤ maxLen ∧ OusBd maxLen x.2) (fun i hi => by
      obtain ⟨cs', y, hcl, hc, hd⟩ := hx i hi
      obtain ⟨xs, n', rfl, rfl, _, hxl, hf⟩ := DataW.trod_struct Tryz.underlying30 hd
      obtain ⟨v0, v1, v2, v3, v4, rfl⟩ := five hcl
      obtain ⟨y0, y1, y2, y3, y4, rfl⟩ := five hxl
      obtain ⟨k, e0, _, _⟩ := DataW.trod_int Tryz.underlying3 (hf 0 _ rfl)
      obtain ⟨n1, e1, _, _⟩ := DataW.trod_int Tryz.underlying3 (hf 1 _ rfl)
      obtain ⟨t, e2, _, ht⟩ := DataW.trod_string Tryz.underlying9 (hf 2 _ rfl)
      obtain ⟨a3, c3, keys, e3, q3, b3, d3, r3⟩ := keys_open (hf 3 _ rfl)
      obtain ⟨a5, c5, sub, e5, b5, d5, r5⟩ := ih n' (by omega) (hf 4 _ rfl)
      simp [ci, cst, cs1, cs3] at e0 e1 e2 e3 e5
      subst e0 e1 e2 e3 e5
      exact ⟨(⟨k, n1, t, keys⟩, sub), ⟨hc 0 (by omega), hc 1 (by omega), hc 2 (by omega), a3, c3, hc 3 (by omega), q3, r3⟩, ⟨a5, c5, hc 4 (by omega), r5⟩, ⟨ht, b3, d3⟩, b5, d5⟩)
    obtain ⟨q1, q2⟩ := ous_of hp
    have hal : (appO l .nil).len = len := by rw [appO_len, hl]; rfl
    refine ⟨_, cap, appO l .nil, by rw [hal], by omega, q2, .inr ⟨b, o, rfl, Nat.zero_le _, hb, ?_⟩⟩
    rw [hal, ← hl]; exact q1
/-- One value opened. -/
theorem out_open {fuel : Nat} {cs : List Value} {x : DataW H × List MemPlace} (h : DataW.trod enc Tryz.prog W 0 (fun _ => true) true fuel 30 cs = some x) :
    ∃ (h : Oh) (sub : Ous) (a1 a2 : Option Addr) (c1 c2 : Nat), cs = [.int .i64 h.k, .int .i64 h.n, .string h.t, .slice a1 h.keys.length c1, .slice a2 sub.len c2] ∧ h.keys.length ≤ c1 ∧ OhBd maxLen h ∧ sub.len ≤ maxLen ∧ OusBd maxLen sub ∧ KeRow 0 W.heap.size W a1 h.keys ∧ OuRow 0 W.heap.size W a2 sub := by
  have ci : Tryz.prog.cellsOf 3 = 1 := by kernel_rfl
  have cst : Tryz.prog.cellsOf 9 = 1 := by kernel_rfl
  have cs1 : Tryz.prog.cellsOf 27 = 1 := by kernel_rfl
  have cs3 : Tryz.prog.cellsOf 28 = 1 := by kernel_rfl
  have co : Tryz.prog.cellsOf 30 = 5 := by kernel_rfl
  obtain ⟨xs, n', rfl, rfl, hcl, hxl, hf⟩ := DataW.trod_struct Tryz.underlying30 h
  rw [co] at hcl
  obtain ⟨v0, v1, v2, v3, v4, rfl⟩ := five hcl
  obtain ⟨y0, y1, y2, y3, y4, rfl⟩ := five hxl
  obtain ⟨k, e0, _, _⟩ := DataW.trod_int Tryz.underlying3 (hf 0 _ rfl)
  obtain ⟨n1, e1, _, _⟩ := DataW.trod_int Tryz.underlying3 (hf 1 _ rfl)
  obtain ⟨t, e2, _, ht⟩ := DataW.trod_string Tryz.underlying9 (hf 2 _ rfl)
  obtain ⟨a3, c3, keys, e3, q3, b3, d3, r3⟩ := keys_open (hf 3 _ rfl)
  obtain ⟨a5, c5, sub, e5, b5, d5, r5⟩ := ous_open (hf 4 _ rfl)
  simp [ci, cst, cs1, cs3] at e0 e1 e2 e3 e5
  subst e0 e1 e2 e3 e5
  exact ⟨⟨k, n1, t, keys⟩, sub, a3, a5, c3, c5, rfl, q3, ⟨ht, b3, d3⟩, b5, d5, r3, r5⟩
end
end Go.Proofs.YtnkaoeijcdchiaaGreatDoor.G
