/- KeysSince: what both sides compute; rows of numbers that a call owns. -/
import Derived.Test.YtljnhecdelimfaaStNums
import Derived.Test.YtljnhecdelimfaaStMark
import Derived.Deep.AppendLies
import Derived.Deep.AppendSrc
namespace Go.Proofs.Ytljnhecdelimfaa.G
open Go.ChangeShapes Go.WideShapes Go.ChangeAt Go.RowKit
set_option linter.unusedVariables false

set_option maxRecDepth 100000 in
theorem info_bool : ∃ i, Try.prog.info? 4 = some i ∧ i.zero = some (.bool false) ∧ i.size = 1 ∧ i.bytes = 1 := by
  refine ⟨_, rfl, ?_, ?_, ?_⟩ <;> kernel_rfl
theorem wpList_append_run {P : Program} {ops : Array Oper} {rest : List Oper} {o : Oper} {a : Act} {Q : Exit → Act → World → Prop} {w : World} (hgd : o.guard = none) (s x : Operand) (t : TypeId)
    (ho : o.op = .call { callee := .builtin .append, args := #[s, x], argTypes := #[t, t] }) (sv xv rv : Value) (w' : World) (hs : a.eval s = sv) (hx : a.eval x = xv)
    (hr : (Builtin.append_ #[t, t] o.type #[sv, xv]).run P w = .ok rv w') (h : wpList P ops Q rest (a.put o.dst rv) w') : wpList P ops Q (o :: rest) a w := by
  refine wpList_plain hgd fun K hK => ?_
  unfold Oper.wp execOp
  simp only [ho, resolve, invoke, builtin, Sem.run_bind, Sem.run_pure, Result.andThen_ok, List.map_toArray, List.map_cons, List.map_nil, hs, hx, hr]
  exact hK _ _ h
def nuV (x : List Int) : List Value := x.map fun z => .int .i64 z
theorem nuV_snoc (x : List Int) (z : Int) : nuV (x ++ [z]) = nuV x ++ [.int .i64 z] := by simp [nuV]
theorem app_num (x : List Int) (z : Int) (v : Value) (base h : Nat) (W : World) (ho : W.ownsRow base 3 1 v x.length (nuV x)) (hu : W.heap[h]? = some (.cells #[.int .i64 z] 3 (0, 0))) (hk : x.length ≤ 1048576) (hb : base ≤ W.heap.size) :
    ∃ g cap W', (Builtin.append_ #[40, 40] 40 #[v, .slice (some ⟨h, 0, none⟩) 1 1]).run Try.prog W = .ok (.slice (some ⟨g, 0, none⟩) (x.length + 1) cap) W' ∧ W'.ownsRow base 3 1 (.slice (some ⟨g, 0, none⟩) (x.length + 1) cap) (x.length + 1) (nuV (x ++ [z])) ∧ W.grownBy W' v.ownBlock ∧ (v.ownBlock = some g ∨ g = W.heap.size) ∧ g < W'.heap.size := by
  obtain ⟨i, hi, hz, hsz, hby⟩ := info_int
  rw [nuV_snoc]
  exact run_append_lies (P := Try.prog) W 40 40 base 3 i _ 1 8 Try.underlying40 hi hz hsz hby rfl (by decide) v x.length (nuV x) ho ⟨h, 0, none⟩ 1 1 [.int .i64 z] rfl (fun j y hx => by
    have hj : j = 0 := by have := (List.getElem?_eq_some_iff.1 hx).1; simpa using this
    subst hj
    simp only [List.getElem?_cons_zero, Option.some.injEq] at hx
    subst hx
    rw [add_plain]
    exact row_cell hu 0) (fun y hy => by rw [List.mem_singleton.1 hy]; rfl) (by omega) (by unfold maxLen; omega) (by omega) hb W.heap.size rfl
/-- The keys below k that changed. -/
def keysK (l : Chs) (ts : Int) : Nat → List Int
  | 0 => []
  | k + 1 => if chgB (chAt l k) ts = true then keysK l ts k ++ [(k : Int)] else keysK l ts k
theorem keysK_len (l : Chs) (ts : Int) : ∀ k, (keysK l ts k).length ≤ k
  | 0 => Nat.le_refl _
  | k + 1 => by
    have := keysK_len l ts k
    unfold keysK
    split <;> simp <;> omega
/-- Numbers that a call owns. -/
def NuOwn (lo hi : Nat) (w : World) (a : Option Addr) (x : List Int) : Prop := x = [] ∨ ∃ g cs, a = some ⟨g, 0, none⟩ ∧ lo ≤ g ∧ g < hi ∧ w.heap[g]? = some (.cells cs 3 (0, 0)) ∧ x.length ≤ cs.size ∧ ∀ (i : Nat) (z : Int), x[i]? = some z → cs[i]? = some (.int .i64 z)
theorem NuOwn.of {base : Nat} {w : World} {v : Value} {x : List Int} (h : w.ownsRow base 3 1 v x.length (nuV x)) : ∃ a c, v = .slice a x.length c ∧ NuOwn base w.heap.size w a x := by
  rcases h.2 with ⟨rfl, h0⟩ | ⟨g, cap, cur, rfl, h1, h2, h3, h4, h5, h6⟩
  · have : x = [] := List.eq_nil_of_length_eq_zero h0
    subst this
    exact ⟨none, 0, rfl, .inl rfl⟩
  · refine ⟨_, cap, rfl, .inr ⟨g, cur, rfl, h1, (Array.getElem?_eq_some_iff.1 h2).1, h2, by omega, fun i z hz => ?_⟩⟩
    have hi := (List.getElem?_eq_some_iff.1 hz).1
    have : (nuV x)[i]? = some (.int .i64 z) := by simp [nuV, hz]
    rw [← h6, List.getElem?_take, if_pos (by omega)] at this
    simpa using this
theorem NuOwn.row {lo hi : Nat} {w : World} {a : Option Addr} {x : List Int} (h : NuOwn lo hi w a x) : NuRow lo hi w a x := by
  rcases h with h | ⟨g, cs, rfl, h1, h2, h3, h4, h5⟩
  · exact .inl h
  · exact nu_of h3 h1 h2 (fun i h => h5 i _ (List.getElem?_eq_getElem h))
theorem NuOwn.keep {lo hi : Nat} {w w' : World} {a : Option Addr} {x : List Int} (h : NuOwn lo hi w a x) (hk : Agree lo hi w w') : NuOwn lo hi w' a x := by
  rcases h with h | ⟨g, cs, rfl, h1, h2, h3, h4⟩
  · exact .inl h
  · exact .inr ⟨g, cs, rfl, h1, h2, (hk g h1 h2).trans h3, h4⟩
theorem NuOwn.wide {lo hi lo' hi' : Nat} {w : World} {a : Option Addr} {x : List Int} (h : NuOwn lo hi w a x) (e1 : lo' ≤ lo) (e2 : hi ≤ hi') : NuOwn lo' hi' w a x := by
  rcases h with h | ⟨g, cs, rfl, h1, h2, h3⟩
  · exact .inl h
  · exact .inr ⟨g, cs, rfl, by omega, by omega, h3⟩
/-- Numbers that bear the marks from K on. -/
def NuMk (lo hi : Nat) (w : World) (a : Option Addr) (n : Nat) (K : Int) : Prop := n = 0 ∨ ∃ g cs, a = some ⟨g, 0, none⟩ ∧ lo ≤ g ∧ g < hi ∧ w.heap[g]? = some (.cells cs 3 (0, 0)) ∧ n ≤ cs.size ∧ ∀ i : Nat, i < n → cs[i]? = some (.int .i64 (K + i))
theorem NuMk.keep {lo hi : Nat} {w w' : World} {a : Option Addr} {n : Nat} {K : Int} (h : NuMk lo hi w a n K) (hk : Agree lo hi w w') : NuMk lo hi w' a n K := by
  rcases h with h | ⟨g, cs, rfl, h1, h2, h3, h4⟩
  · exact .inl h
  · exact .inr ⟨g, cs, rfl, h1, h2, (hk g h1 h2).trans h3, h4⟩
set_option maxHeartbeats 1000000 in
theorem chg_closure (B : Nat) (ts : Int) (a : Option Addr) (c : Nat) (l : List Ve) (w : World) (hc : w.cell? ⟨B, 0, none⟩ = some (.int .i64 ts)) (hr : VeRow 0 w.heap.size w a l) (hl : l.length ≤ 1048576) (hrise : Rise l) :
    Calls Try.prog 34 #[.slice a l.length c, .pointer (some ⟨B, 0, none⟩)] w fun e w' => e = .returned (.bool (chgB l ts)) ∧ Below w.heap.size w w' := by
  have HR : Hid _ := hr
  have HS : Hid _ := hrise
  clear hr hrise
  go_enter Try.func34, Try.ntmps34
  go_wp2_with fail
  refine (changed_since a c l ts _ HR.out hl HS.out).mono ?_
  rintro e w1 ⟨rfl, hb1⟩
  go_wp2_with fail
  go_ret
  exact ⟨rfl, hb1⟩
set_option maxHeartbeats 2000000 in
theorem of_chains_chg (B : Nat) (ts : Int) (a : Option Addr) (c : Nat) (l : Chs) (now : Int) (w : World) (hc : w.cell? ⟨B, 0, none⟩ = some (.int .i64 ts)) (hB : B < w.heap.size) (hr : ChRow 0 w.heap.size w a l) (hbd : ChsBd 1048576 l) (hrise : ∀ i (h : i < l.length), Rise l[i]) :
    Calls Try.prog 33 #[.agg #[.slice a l.length c, .int .i64 now], .func (.func 34) #[] #[.pointer (some ⟨B, 0, none⟩)]] w fun e w' =>
      ∃ N cs, e = .returned (.slice (some ⟨N, 0, none⟩) l.length l.length) ∧ w.heap.size ≤ N ∧ w'.heap[N]? = some (.cells cs 4 (0, 0)) ∧ (∀ i (h : i < l.length), cs[i]? = some (.bool (chgB l[i] ts))) ∧ Below w.heap.size w w' := by
  obtain ⟨hl, ht⟩ := hbd
  obtain ⟨V, hV⟩ : ∃ V, V = w.alloc (.cells #[.slice a l.length c, .int .i64 now] 25) := ⟨_, rfl⟩
  have B0 : Below w.heap.size w V := by rw [hV]; exact (Below.refl _ _).alloc (Nat.le_refl _) _
  have zV : V.heap.size = w.heap.size + 1 := by rw [hV]; simp
  have HR : Hid (ChRow 0 V.heap.size V a l) := ChRow.up hr B0
  have HC : Hid (V.cell? ⟨B, 0, none⟩ = some (.int .i64 ts)) := (B0.cell (p := ⟨B, 0, none⟩) hB).trans hc
  have HT : Hid (∀ x ∈ l, x.length ≤ 1048576) := ht
  have HS : Hid _ := hrise
  have HB : Hid _ := B0
  clear hr ht hrise hc B0
  obtain ⟨i27, hi, hz, hsz, hby⟩ := info_bool
  have hmk := run_make (P := Try.prog) V 62 4 i27 _ Try.underlying62 hi hz .i64 .i64 (l.length : Int) (l.length : Int) (by omega) (by omega) (by rw [hby]; omega) (by omega)
  rw [hsz, Int.toNat_natCast, Nat.mul_one] at hmk
  clear hi hz hsz hby
  have hs0 := size_madeCells (Value.bool false).cells l.length
  generalize madeCells (Value.bool false).cells l.length = cs0 at *
  rw [hV] at hmk
  go_enter Try.func33, Try.ntmps33
  go_wp2_with fail
  rw [← hV]
  have hst : Below V.heap.size V (V.alloc (.cells cs0 4)) := (Below.refl _ _).alloc (Nat.le_refl _) _
  have hst2 : (V.alloc (.cells cs0 4)).heap[w.heap.size + 1]? = some (.cells cs0 4 (0, 0)) := by rw [← zV]; exact heap_alloc_new _ _
  have HST : Hid _ := hst2
  clear hst2 hmk
  go_loopw [15] (fun i w' => ∃ (k : Nat) (cs : Array Value), k ≤ l.length ∧ i = .int .i64 k ∧ Below V.heap.size V w' ∧ Hid (w'.heap[w.heap.size + 1]? = some (.cells cs 4 (0, 0))) ∧ cs.size = l.length ∧ Hid (∀ i (h : i < l.length), i < k → cs[i]? = some (.bool (chgB l[i] ts)))) (fun i _ => l.length - (intOf i).toNat)
  case atStart => exact ⟨0, cs0, by omega, rfl, hst, HST, hs0, fun i _ h => by omega⟩
  case round =>
    obtain ⟨k, cs, hk, rfl, hb, HH, hcs, HL⟩ := hrel
    obtain ⟨wo, rfl⟩ : ∃ x, x = wr := ⟨_, rfl⟩
    have hz := hb.size
    have hN2 : w.heap.size + 1 < wo.heap.size := (Array.getElem?_eq_some_iff.1 HH.out).1
    clear hs0 hst HST hV
    by_cases hlt : k < l.length
    · obtain ⟨b, o, a3, c3, ha, _, hbl, d0, hcap, r3⟩ := ChRow.cells (ChRow.keep HR.out (agree hb (Nat.le_refl _))) k hlt
      subst ha
      have R3 : Hid (VeRow 0 wo.heap.size wo a3 l[k]) := VeRow.wide r3 (Nat.le_refl _) hb.size
      have HX : Hid (l[k].length ≤ 1048576) := HT.out l[k] (List.getElem_mem hlt)
      have CW : Hid (wo.cell? ⟨B, 0, none⟩ = some (.int .i64 ts)) := (hb.cell (p := ⟨B, 0, none⟩) (show B < V.heap.size by omega)).trans HC.out
      clear r3
      go_wp2_with fail
      refine (chg_closure B ts a3 c3 l[k] _ CW.out R3.out HX.out (HS.out k hlt)).mono ?_
      rintro e w1 ⟨rfl, hb1⟩
      have HH1 : Hid (w1.heap[w.heap.size + 1]? = some (.cells cs 4 (0, 0))) := (hb1.block _ hN2).trans HH.out
      obtain ⟨v0, hv0⟩ : ∃ v, w1.cell? ⟨w.heap.size + 1, k, none⟩ = some v := ⟨_, (row_cell HH1.out _).trans (Array.getElem?_eq_getElem (by omega))⟩
      have hf0 := row_frozen HH1.out k
      have qb : Hid (Below V.heap.size V w1) := hb.trans (hb1.mono hb.size)
      obtain ⟨z, hz9⟩ : ∃ z, z = chgB l[k] ts := ⟨_, rfl⟩
      have HZ : Hid _ := hz9
      rw [← hz9]
      clear d0 hb1 hz9
      go_wp2_with fail
      refine ⟨⟨k + 1, _, by omega, by go_num, qb.out.setCell (by first | omega | (simp <;> omega)) _, row_set HH1.out _ _, by simp [hcs], ?_⟩, by simp [intOf]; omega⟩
      intro i hi1 hi2
      by_cases e : i = k
      · subst e; rw [HZ.out]; simp [Array.getElem?_setIfInBounds]; omega
      · rw [Array.getElem?_setIfInBounds_ne (by omega)]; exact HL.out i hi1 (by omega)
    · go_wp2_with fail
      go_ret
      obtain rfl : k = l.length := by omega
      exact ⟨w.heap.size + 1, cs, rfl, by omega, HH.out, fun i h => HL.out i h h, HB.out.trans (hb.mono (by omega))⟩
end Go.Proofs.Ytljnhecdelimfaa.G
