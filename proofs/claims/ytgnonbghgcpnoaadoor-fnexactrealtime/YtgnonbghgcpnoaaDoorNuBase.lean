/- Rows of numbers beside documents: owned, marked, held against each other. -/
import Derived.Test.YtgnonbghgcpnoaaDoorDocOwn
import Derived.Deep.AppendLies
import Derived.Deep.AppendSrc
namespace Go.Proofs.YtgnonbghgcpnoaaDoor
open Go.ChangeShapes Go.WideShapes Go.ChangeAt Go.RowKit
set_option linter.unusedVariables false

theorem nu_drewN {B : Nat} {a w : World} (h : Below B a w) (n : Nat) : Below B a (w.drewN n) := h.trans ⟨rfl, rfl, rfl, Nat.le_refl _, fun _ _ => rfl⟩
def NuAt (rd : Nat → Option Value) (o : Nat) (x : Int) : Prop := rd o = some (.int .i64 x)
abbrev NuRow (lo hi : Nat) (w : World) (a : Option Addr) (l : List Int) : Prop := Row NuAt 1 lo hi w a l
theorem NuRow.cells {lo hi : Nat} {w : World} {a : Option Addr} {l : List Int} (h : NuRow lo hi w a l) (k : Nat) (hk : k < l.length) :
    ∃ b o, a = some ⟨b, o, none⟩ ∧ lo ≤ b ∧ b < hi ∧ w.cell? ⟨b, o + k, none⟩ = some (.int .i64 l[k]) := by
  obtain ⟨b, o, e1, e2, e3, h0⟩ := Row.at_ h k hk
  rw [Nat.mul_one] at h0
  exact ⟨b, o, e1, e2, e3, h0⟩
theorem nu_of {w : World} {N lo hi : Nat} {cs : Array Value} {T : TypeId} {l : List Int} (h : w.heap[N]? = some (.cells cs T (0, 0))) (h1 : lo ≤ N) (h2 : N < hi) (hc : ∀ i (h : i < l.length), cs[i]? = some (.int .i64 l[i])) : NuRow lo hi w (some ⟨N, 0, none⟩) l := by
  refine .inr ⟨N, 0, rfl, h1, h2, fun i x hx => ?_⟩
  obtain ⟨hi, rfl⟩ := List.getElem?_eq_some_iff.1 hx
  rw [row_rd h]
  show cs[0 + i * 1]? = _
  rw [Nat.mul_one, Nat.zero_add]
  exact hc i hi
set_option maxRecDepth 100000 in
theorem info_int : ∃ i, Tryd.prog.info? 3 = some i ∧ i.zero = some (.int .i64 0) ∧ i.size = 1 ∧ i.bytes = 8 := by
  refine ⟨_, rfl, ?_, ?_, ?_⟩ <;> kernel_rfl
def nuV (x : List Int) : List Value := x.map fun z => .int .i64 z
theorem nuV_snoc (x : List Int) (z : Int) : nuV (x ++ [z]) = nuV x ++ [.int .i64 z] := by simp [nuV]
theorem app_num (x : List Int) (z : Int) (v : Value) (base h : Nat) (W : World) (ho : W.ownsRow base 3 1 v x.length (nuV x)) (hu : W.heap[h]? = some (.cells #[.int .i64 z] 3 (0, 0))) (hk : x.length ≤ 1048576) (hb : base ≤ W.heap.size) :
    ∃ g cap W', (Builtin.append_ #[24, 24] 24 #[v, .slice (some ⟨h, 0, none⟩) 1 1]).run Tryd.prog W = .ok (.slice (some ⟨g, 0, none⟩) (x.length + 1) cap) W' ∧ W'.ownsRow base 3 1 (.slice (some ⟨g, 0, none⟩) (x.length + 1) cap) (x.length + 1) (nuV (x ++ [z])) ∧ W.grownBy W' v.ownBlock ∧ (v.ownBlock = some g ∨ g = W.heap.size) ∧ g < W'.heap.size := by
  obtain ⟨i, hi, hz, hsz, hby⟩ := info_int
  rw [nuV_snoc]
  exact run_append_lies (P := Tryd.prog) W 24 24 base 3 i _ 1 8 Tryd.underlying24 hi hz hsz hby rfl (by decide) v x.length (nuV x) ho ⟨h, 0, none⟩ 1 1 [.int .i64 z] rfl (fun j y hx => by
    have hj : j = 0 := by have := (List.getElem?_eq_some_iff.1 hx).1; simpa using this
    subst hj
    simp only [List.getElem?_cons_zero, Option.some.injEq] at hx
    subst hx
    rw [add_plain]
    exact row_cell hu 0) (fun y hy => by rw [List.mem_singleton.1 hy]; rfl) (by omega) (by unfold maxLen; omega) (by omega) hb W.heap.size rfl
/-- Numbers that a call owns. -/
def NuOwn (lo hi : Nat) (w : World) (a : Option Addr) (x : List Int) : Prop := x = [] ∨ ∃ g cs, a = some ⟨g, 0, none⟩ ∧ lo ≤ g ∧ g < hi ∧ w.heap[g]? = some (.cells cs 3 (0, 0)) ∧ x.length ≤ cs.size ∧ ∀ (i : Nat) (z : Int), x[i]? = some z → cs[i]? = some (.int .i64 z)
theorem NuOwn.of {base : Nat} {w : World} {v : Value} {x : List Int} (h : w.ownsRow base 3 1 v x.length (nuV x)) : ∃ a c, v = .slice a x.length c ∧ NuOwn base w.heap.size w a x := by
  rcases h.2 with ⟨rfl, h0⟩ | ⟨g, cap, cur, rfl, h1, h2, h3, h4, h5, h6⟩
  · have : x = [] := List.eq_nil_of_length_eq_zero h0
    subst this
    exact ⟨none, 0, rfl, .inl rfl⟩
  · refine ⟨_, cap, rfl, .inr ⟨g, cur, rfl, h1, (Array.getElem?_eq_some_iff.1 h2).1, h2, by omega, fun i z hz => ?_⟩⟩
    have hi := (List.getElem?_eq_some_iff.1 hz).1
    have : (nuV x)[i]? = some (.int .i64 z) := by simp [nuV, hz]
    rw [← h6, List.getElem?_take, if_pos (by omega)] at this
    simpa using this
theorem NuOwn.row {lo hi : Nat} {w : World} {a : Option Addr} {x : List Int} (h : NuOwn lo hi w a x) : NuRow lo hi w a x := by
  rcases h with h | ⟨g, cs, rfl, h1, h2, h3, h4, h5⟩
  · exact .inl h
  · exact nu_of h3 h1 h2 (fun i h => h5 i _ (List.getElem?_eq_getElem h))
theorem NuOwn.keep {lo hi : Nat} {w w' : World} {a : Option Addr} {x : List Int} (h : NuOwn lo hi w a x) (hk : Agree lo hi w w') : NuOwn lo hi w' a x := by
  rcases h with h | ⟨g, cs, rfl, h1, h2, h3, h4⟩
  · exact .inl h
  · exact .inr ⟨g, cs, rfl, h1, h2, (hk g h1 h2).trans h3, h4⟩
theorem NuOwn.wide {lo hi lo' hi' : Nat} {w : World} {a : Option Addr} {x : List Int} (h : NuOwn lo hi w a x) (e1 : lo' ≤ lo) (e2 : hi ≤ hi') : NuOwn lo' hi' w a x := by
  rcases h with h | ⟨g, cs, rfl, h1, h2, h3⟩
  · exact .inl h
  · exact .inr ⟨g, cs, rfl, by omega, by omega, h3⟩
/-- Numbers that bear the marks from K on. -/
def NuMk (lo hi : Nat) (w : World) (a : Option Addr) (n : Nat) (K : Int) : Prop := n = 0 ∨ ∃ g cs, a = some ⟨g, 0, none⟩ ∧ lo ≤ g ∧ g < hi ∧ w.heap[g]? = some (.cells cs 3 (0, 0)) ∧ n ≤ cs.size ∧ ∀ i : Nat, i < n → cs[i]? = some (.int .i64 (K + i))
theorem NuMk.keep {lo hi : Nat} {w w' : World} {a : Option Addr} {n : Nat} {K : Int} (h : NuMk lo hi w a n K) (hk : Agree lo hi w w') : NuMk lo hi w' a n K := by
  rcases h with h | ⟨g, cs, rfl, h1, h2, h3, h4⟩
  · exact .inl h
  · exact .inr ⟨g, cs, rfl, h1, h2, (hk g h1 h2).trans h3, h4⟩
set_option maxHeartbeats 2000000 in
theorem mark_nums (a : Option Addr) (c : Nat) (x : List Int) (lo hi : Nat) (K : Int) (w : World) (ho : NuOwn lo hi w a x) (hl : x.length ≤ 1048576) (h0 : 0 ≤ K) (h1 : K ≤ 4398046511104) :
    Calls Tryd.prog 13 #[.slice a x.length c, .int .i64 K] w fun e w' => ∃ r : Int, e = .returned (.int .i64 r) ∧ r = K + x.length ∧ NuMk lo hi w' a x.length K ∧ KeptR lo hi w w' := by
  rcases ho with rfl | ⟨g, cs0, rfl, g1, g2, hh, hs, hm⟩
  · go_enter Tryd.func13, Tryd.ntmps13
    go_wp2_with fail
    go_loop [1, 5] (fun s i => s = .int .i64 K ∧ i = .int .i64 0) (fun _ _ => 0)
    case atStart => exact ⟨rfl, rfl⟩
    case round =>
      obtain ⟨rfl, rfl⟩ := hrel
      go_wp2_with fail
      go_ret
      exact ⟨_, rfl, by simp, .inl rfl, KeptR.refl _ _ _⟩
  · have HH : Hid _ := hh
    clear hh hm
    go_enter Tryd.func13, Tryd.ntmps13
    go_wp2_with fail
    go_loopw [1, 5] (fun s i w' => ∃ (k : Nat) (z : Int) (cs : Array Value), k ≤ x.length ∧ i = .int .i64 k ∧ s = .int .i64 z ∧ z = K + k ∧ Hid (w'.heap[g]? = some (.cells cs 3 (0, 0))) ∧ x.length ≤ cs.size ∧ Hid (∀ i : Nat, i < k → cs[i]? = some (.int .i64 (K + i))) ∧ Hid (KeptR lo hi w w')) (fun _ i _ => x.length - (intOf i).toNat)
    case atStart => exact ⟨0, K, cs0, by omega, rfl, rfl, by omega, HH, hs, fun i h => by omega, KeptR.refl _ _ _⟩
    case round =>
      obtain ⟨k, z, cs, hk, rfl, rfl, hz, HW, hcs, HM, HK⟩ := hrel
      by_cases hlt : k < x.length
      · obtain ⟨u0, hv0⟩ : ∃ v, wr.cell? ⟨g, k, none⟩ = some v := ⟨_, (row_cell HW.out _).trans (Array.getElem?_eq_getElem (by omega))⟩
        have hf0 := row_frozen HW.out k
        have HZ : Hid (z = K + k) := hz
        have hz1 : 0 ≤ z := by omega
        have hz2 : z ≤ 4398048608256 := by omega
        clear hz
        go_wp2_with fail
        refine ⟨⟨k + 1, z + 1, _, by omega, by go_num, by go_num, by have := HZ.out; omega, row_set HW.out _ _, by simpa using hcs, ?_, HK.out.set (p := ⟨g, k, none⟩) g1 g2 _⟩, by simp [intOf]; omega⟩
        intro i hi
        by_cases e : i = k
        · subst e; rw [← HZ.out]; simp [Array.getElem?_setIfInBounds]; omega
        · rw [Array.getElem?_setIfInBounds_ne (by omega)]; exact HM.out i (by omega)
      · obtain rfl : k = x.length := by omega
        have HZ : Hid _ := hz
        clear hz
        go_wp2_with fail
        go_ret
        exact ⟨_, rfl, HZ.out, .inr ⟨g, cs, rfl, g1, g2, HW.out, hcs, HM.out⟩, HK.out⟩
set_option maxHeartbeats 2000000 in
theorem held_nums (a : Option Addr) (c n : Nat) (lo hi : Nat) (K : Int) (w : World) (ho : NuMk lo hi w a n K) (hl : n ≤ 1048576) (h0 : 0 ≤ K) (h1 : K ≤ 4398046511104) :
    Calls Tryd.prog 14 #[.slice a n c, .int .i64 K] w fun e w' => ∃ r : Int, e = .returned (.int .i64 r) ∧ r = K + n ∧ w' = w := by
  rcases ho with rfl | ⟨g, cs, rfl, g1, g2, hh, hs, hm⟩
  · go_enter Tryd.func14, Tryd.ntmps14
    go_wp2_with fail
    go_loop [1, 5] (fun s i => s = .int .i64 K ∧ i = .int .i64 0) (fun _ _ => 0)
    case atStart => exact ⟨rfl, rfl⟩
    case round =>
      obtain ⟨rfl, rfl⟩ := hrel
      go_wp2_with fail
      go_ret
      exact ⟨_, rfl, by simp, rfl⟩
  · have HH : Hid _ := hh
    have HM : Hid _ := hm
    clear hh hm
    go_enter Tryd.func14, Tryd.ntmps14
    go_wp2_with fail
    go_loop [1, 5] (fun s i => ∃ (k : Nat) (z : Int), k ≤ n ∧ i = .int .i64 k ∧ s = .int .i64 z ∧ z = K + k) (fun _ i => n - (intOf i).toNat)
    case atStart => exact ⟨0, K, by omega, rfl, rfl, by omega⟩
    case round =>
      obtain ⟨k, z, hk, rfl, rfl, hz⟩ := hrel
      by_cases hlt : k < n
      · have m0 := HM.out k hlt
        rw [← hz] at m0
        have d0 := (row_cell HH.out k).trans m0
        have HZ : Hid (z = K + k) := hz
        have hz1 : 0 ≤ z := by omega
        have hz2 : z ≤ 4398048608256 := by omega
        clear hz m0
        go_wp2_with fail
        go_round
        case rel => exact ⟨k + 1, z + 1, by omega, by go_num, by go_num, by have := HZ.out; omega⟩
        case measure => simp [intOf]; omega
      · obtain rfl : k = n := by omega
        have HZ : Hid _ := hz
        clear hz
        go_wp2_with fail
        go_ret
        exact ⟨_, rfl, HZ.out, rfl⟩
set_option maxHeartbeats 2000000 in
theorem eq_nums (a a' : Option Addr) (c c' : Nat) (x : List Int) (w : World) (hr : NuRow 0 w.heap.size w a x) (hr' : NuRow 0 w.heap.size w a' x) (hl : x.length ≤ 1048576) :
    Calls Tryd.prog 10 #[.slice a x.length c, .slice a' x.length c'] w fun e w' => e = .returned (.bool true) ∧ Below w.heap.size w w' := by
  have HR : Hid _ := hr
  have HR' : Hid _ := hr'
  clear hr hr'
  go_enter Tryd.func10, Tryd.ntmps10
  go_wp2_with fail
  go_loopw [5] (fun i w' => ∃ (k q : Nat), k ≤ x.length ∧ i = .int .i64 k ∧ w' = w.drewN q) (fun i _ => x.length - (intOf i).toNat)
  case atStart => exact ⟨0, 0, by omega, rfl, rfl⟩
  case round =>
    obtain ⟨k, q, hk, rfl, rfl⟩ := hrel
    by_cases hlt : k < x.length
    · obtain ⟨b, o, ha, _, hbl, d0⟩ := NuRow.cells HR.out k hlt
      obtain ⟨b', o', ha', _, hbl', d1⟩ := NuRow.cells HR'.out k hlt
      subst ha ha'
      have hlt' : (k : Int) < x.length := by omega
      go_wp2_with fail
      go_quiet (fail)
      go_wp2_with fail
      exact ⟨⟨k + 1, q + nq, by omega, by go_num, by simp⟩, by simp [intOf]; omega⟩
    · go_wp2_with fail
      go_ret
      exact ⟨rfl, nu_drewN (Below.refl _ _) _⟩
end Go.Proofs.YtgnonbghgcpnoaaDoor
