/- The law's marks written into a store that the call owns, and held. -/
import Derived.Test.YtepdgcbbnoiajaaStTo
import Derived.Test.YtepdgcbbnoiajaaStRead
namespace Go.Proofs.Ytepdgcbbnoiajaa.G
open Go.ChangeShapes Go.WideShapes Go.ChangeAt Go.RowKit
set_option linter.unusedVariables false

/-- Nothing has turned but blocks from lo up and below hi, and new ones were made. -/
structure KeptS (lo hi : Nat) (w w' : World) : Prop where
  os : w'.os = w.os
  tape : w'.tape = w.tape
  output : w'.output = w.output
  size : w.heap.size ≤ w'.heap.size
  block : ∀ k, k < w.heap.size → ¬ (lo ≤ k ∧ k < hi) → w'.heap[k]? = w.heap[k]?
theorem KeptS.refl (lo hi : Nat) (w : World) : KeptS lo hi w w := ⟨rfl, rfl, rfl, Nat.le_refl _, fun _ _ _ => rfl⟩
theorem KeptS.trans {lo hi : Nat} {a b c : World} (h : KeptS lo hi a b) (k : KeptS lo hi b c) : KeptS lo hi a c :=
  ⟨k.os.trans h.os, k.tape.trans h.tape, k.output.trans h.output, Nat.le_trans h.size k.size, fun g hg hn => (k.block g (Nat.lt_of_lt_of_le hg h.size) hn).trans (h.block g hg hn)⟩
theorem KeptS.mono {lo hi lo' hi' : Nat} {a b : World} (h : KeptS lo hi a b) (e1 : lo' ≤ lo) (e2 : hi ≤ hi') : KeptS lo' hi' a b := ⟨h.os, h.tape, h.output, h.size, fun g hg hn => h.block g hg (fun hx => hn ⟨by omega, by omega⟩)⟩
theorem KeptS.of {lo hi : Nat} {a b : World} (h : Below a.heap.size a b) : KeptS lo hi a b := ⟨h.os, h.tape, h.output, h.size, fun g hg _ => h.block g hg⟩
theorem KeptS.set {lo hi : Nat} {a b : World} (h : KeptS lo hi a b) {p : Addr} (h1 : lo ≤ p.block) (h2 : p.block < hi) (v : Value) : KeptS lo hi a (b.setCell p v) := by
  have hb : Below (p.block) b (b.setCell p v) := (Below.refl _ _).setCell (Nat.le_refl _) v
  exact h.trans ⟨hb.os, hb.tape, hb.output, hb.size, fun g _ hn => Below.heap_setCell _ _ _ _ (fun e => hn (e ▸ ⟨h1, h2⟩))⟩
theorem KeptS.below {lo hi : Nat} {a b : World} (h : KeptS lo hi a b) {B : Nat} (hB : B ≤ a.heap.size) (hs : B ≤ lo) : Below B a b :=
  ⟨h.os, h.tape, h.output, h.size, fun g hg => h.block g (by omega) (fun hx => by omega)⟩
theorem KeptS.agree {lo hi lo' hi' : Nat} {a b : World} (h : KeptS lo hi a b) (hB : hi' ≤ a.heap.size) (hs : hi' ≤ lo ∨ hi ≤ lo') : Agree lo' hi' a b :=
  fun g h1 h2 => h.block g (by omega) (fun hx => by omega)
/-- A block whose first n versions bear the marks from K on. -/
def VeMk (w : World) (b : Nat) (K : Int) (n : Nat) : Prop := ∃ cs, w.heap[b]? = some (.cells cs 77 (0, 0)) ∧ n * 2 ≤ cs.size ∧ ∀ i : Nat, i < n → cs[i * 2]? = some (.int .i64 (K + 2 * i)) ∧ cs[i * 2 + 1]? = some (.int .i64 (K + 2 * i + 1))
theorem VeMk.move {w w' : World} {b : Nat} {K : Int} {n : Nat} (h : VeMk w b K n) (e : w'.heap[b]? = w.heap[b]?) : VeMk w' b K n := by
  obtain ⟨cs, h1, h2⟩ := h
  exact ⟨cs, e.trans h1, h2⟩
theorem mk_put {cs : Array Value} {K : Int} {k n : Nat} (hs : n * 2 ≤ cs.size) (hk : k < n) (h : ∀ i : Nat, i < k → cs[i * 2]? = some (.int .i64 (K + 2 * i)) ∧ cs[i * 2 + 1]? = some (.int .i64 (K + 2 * i + 1))) {v0 v1 : Int} (e0 : v0 = K + 2 * k) (e1 : v1 = K + 2 * k + 1) :
    ∀ i : Nat, i < k + 1 → ((cs.setIfInBounds (k * 2) (.int .i64 v0)).setIfInBounds (k * 2 + 1) (.int .i64 v1))[i * 2]? = some (.int .i64 (K + 2 * i)) ∧ ((cs.setIfInBounds (k * 2) (.int .i64 v0)).setIfInBounds (k * 2 + 1) (.int .i64 v1))[i * 2 + 1]? = some (.int .i64 (K + 2 * i + 1)) := by
  subst e0 e1
  intro i hi
  by_cases hik : i = k
  · subst hik
    refine ⟨?_, ?_⟩ <;> simp [Array.getElem?_setIfInBounds] <;> omega
  · obtain ⟨c0, c1⟩ := h i (by omega)
    refine ⟨?_, ?_⟩
    · rw [Array.getElem?_setIfInBounds_ne (by omega), Array.getElem?_setIfInBounds_ne (by omega)]; exact c0
    · rw [Array.getElem?_setIfInBounds_ne (by omega), Array.getElem?_setIfInBounds_ne (by omega)]; exact c1
set_option maxHeartbeats 2000000 in
theorem mark_Ves (b c : Nat) (l : List Ve) (K : Int) (w : World) (hv : VeBlk w b l) (hl : l.length ≤ 1048576) (h0 : 0 ≤ K) (h1 : K ≤ 4398046511104) :
    Calls Try.prog 35 #[.slice (some ⟨b, 0, none⟩) l.length c, .int .i64 K] w fun e w' => ∃ r : Int, e = .returned (.int .i64 r) ∧ r = K + 2 * l.length ∧ VeMk w' b K l.length ∧ KeptS b (b + 1) w w' := by
  obtain ⟨cs0, hh, hs, _⟩ := hv
  have HH : Hid _ := hh
  clear hh
  go_enter Try.func35, Try.ntmps35
  go_wp2_with fail
  go_loopw [1, 5] (fun s i w' => ∃ (k : Nat) (z : Int) (cs : Array Value), k ≤ l.length ∧ i = .int .i64 k ∧ s = .int .i64 z ∧ z = K + 2 * k ∧ Hid (w'.heap[b]? = some (.cells cs 77 (0, 0))) ∧ l.length * 2 ≤ cs.size ∧ Hid (∀ i : Nat, i < k → cs[i * 2]? = some (.int .i64 (K + 2 * i)) ∧ cs[i * 2 + 1]? = some (.int .i64 (K + 2 * i + 1))) ∧ Hid (KeptS b (b + 1) w w')) (fun _ i _ => l.length - (intOf i).toNat)
  case atStart => exact ⟨0, K, cs0, by omega, rfl, rfl, by omega, HH, hs, fun i h => by omega, KeptS.refl _ _ _⟩
  case round =>
    obtain ⟨k, z, cs, hk, rfl, rfl, hz, HW, hcs, HM, HK⟩ := hrel
    by_cases hlt : k < l.length
    · obtain ⟨u0, hv0⟩ : ∃ v, wr.cell? ⟨b, k * 2, none⟩ = some v := ⟨_, (row_cell HW.out _).trans (Array.getElem?_eq_getElem (by omega))⟩
      obtain ⟨u1, hv1⟩ : ∃ v, wr.cell? ⟨b, k * 2 + 1, none⟩ = some v := ⟨_, (row_cell HW.out _).trans (Array.getElem?_eq_getElem (by omega))⟩
      have hf0 := row_frozen HW.out (k * 2)
      have hf1 := row_frozen HW.out (k * 2 + 1)
      have HZ : Hid (z = K + 2 * k) := hz
      have hz1 : 0 ≤ z := by omega
      have hz2 : z ≤ 4398048608256 := by omega
      clear hz
      go_wp2_with fail
      exact ⟨⟨k + 1, z + 2, _, by omega, by go_num, by go_num, by have := HZ.out; omega, row_set (row_set HW.out _ _) _ _, by simpa using hcs, mk_put hcs hlt HM.out HZ.out (by rw [HZ.out]), (HK.out.set (p := ⟨b, k * 2, none⟩) (Nat.le_refl _) (Nat.lt_succ_self _) _).set (p := ⟨b, k * 2 + 1, none⟩) (Nat.le_refl _) (Nat.lt_succ_self _) _⟩, by simp [intOf]; omega⟩
    · obtain rfl : k = l.length := by omega
      go_wp2_with fail
      go_ret
      exact ⟨_, rfl, hz, ⟨cs, HW.out, hcs, HM.out⟩, HK.out⟩
set_option maxHeartbeats 2000000 in
theorem mark_Ves0 (a : Option Addr) (c : Nat) (K : Int) (w : World) :
    Calls Try.prog 35 #[.slice a 0 c, .int .i64 K] w fun e w' => e = .returned (.int .i64 K) ∧ w' = w := by
  go_enter Try.func35, Try.ntmps35
  go_wp2_with fail
  go_loop [1, 5] (fun s i => s = .int .i64 K ∧ i = .int .i64 0) (fun _ _ => 0)
  case atStart => exact ⟨rfl, rfl⟩
  case round =>
    obtain ⟨rfl, rfl⟩ := hrel
    go_wp2_with fail
    go_ret
    exact ⟨rfl, rfl⟩
set_option maxHeartbeats 2000000 in
theorem held_Ves (b c n : Nat) (K : Int) (w : World) (hv : VeMk w b K n) (hl : n ≤ 1048576) (h0 : 0 ≤ K) (h1 : K ≤ 4398046511104) :
    Calls Try.prog 37 #[.slice (some ⟨b, 0, none⟩) n c, .int .i64 K] w fun e w' => ∃ r : Int, e = .returned (.int .i64 r) ∧ r = K + 2 * n ∧ w' = w := by
  obtain ⟨cs, hh, hs, hm⟩ := hv
  have HH : Hid _ := hh
  have HM : Hid _ := hm
  clear hh hm
  go_enter Try.func37, Try.ntmps37
  go_wp2_with fail
  go_loop [1, 5] (fun s i => ∃ (k : Nat) (z : Int), k ≤ n ∧ i = .int .i64 k ∧ s = .int .i64 z ∧ z = K + 2 * k) (fun _ i => n - (intOf i).toNat)
  case atStart => exact ⟨0, K, by omega, rfl, rfl, by omega⟩
  case round =>
    obtain ⟨k, z, hk, rfl, rfl, hz⟩ := hrel
    by_cases hlt : k < n
    · obtain ⟨m0, m1⟩ := HM.out k hlt
      rw [← hz] at m0 m1
      have d0 := (row_cell HH.out (k * 2)).trans m0
      have d1 := (row_cell HH.out (k * 2 + 1)).trans m1
      have HZ : Hid (z = K + 2 * k) := hz
      have hz1 : 0 ≤ z := by omega
      have hz2 : z ≤ 4398048608256 := by omega
      clear hz m0 m1
      go_wp2_with fail
      go_round
      case rel => exact ⟨k + 1, z + 2, by omega, by go_num, by go_num, by have := HZ.out; omega⟩
      case measure => simp [intOf]; omega
    · obtain rfl : k = n := by omega
      have HZ : Hid _ := hz
      clear hz
      go_wp2_with fail
      go_ret
      exact ⟨_, rfl, HZ.out, rfl⟩
set_option maxHeartbeats 2000000 in
theorem held_Ves0 (a : Option Addr) (c : Nat) (K : Int) (w : World) :
    Calls Try.prog 37 #[.slice a 0 c, .int .i64 K] w fun e w' => e = .returned (.int .i64 K) ∧ w' = w := by
  go_enter Try.func37, Try.ntmps37
  go_wp2_with fail
  go_loop [1, 5] (fun s i => s = .int .i64 K ∧ i = .int .i64 0) (fun _ _ => 0)
  case atStart => exact ⟨rfl, rfl⟩
  case round =>
    obtain ⟨rfl, rfl⟩ := hrel
    go_wp2_with fail
    go_ret
    exact ⟨rfl, rfl⟩
/-- A store whose first k chains bear the marks. -/
def StMk (lo hi : Nat) (w : World) (a : Option Addr) (l : Chs) (bs : Nat → Nat) (K : Int) (k : Nat) : Prop :=
  ∃ b cs, a = some ⟨b, 0, none⟩ ∧ lo ≤ b ∧ b < hi ∧ w.heap[b]? = some (.cells cs 62 (0, 0)) ∧
    (∀ i x, l[i]? = some x → ∃ a3 c, cs[i]? = some (.slice a3 x.length c) ∧ (x ≠ [] → a3 = some ⟨bs i, 0, none⟩ ∧ lo ≤ bs i ∧ bs i < hi ∧ bs i ≠ b ∧ (i < k → VeMk w (bs i) (K + 2 * sizeN (l.take i)) x.length) ∧ (k ≤ i → VeBlk w (bs i) x))) ∧
    (∀ i j x y, l[i]? = some x → l[j]? = some y → i ≠ j → x ≠ [] → y ≠ [] → bs i ≠ bs j)
theorem StOwn.mk {lo hi : Nat} {w : World} {a : Option Addr} {l : Chs} {bs : Nat → Nat} (h : StOwn lo hi w a l bs) (K : Int) : StMk lo hi w a l bs K 0 := by
  obtain ⟨b, cs, e, h1, h2, h3, h4, h5, h6⟩ := h
  refine ⟨b, cs, e, h1, h2, h3, fun i x hx => ?_, h6⟩
  obtain ⟨a3, c, g1, g2, g3⟩ := h5 i x hx
  refine ⟨a3, c, g1, fun hne => ?_⟩
  obtain ⟨f1, f2, f3, f4, f5⟩ := g3 hne
  exact ⟨f1, f2, f3, f4, fun hi => by omega, fun _ => f5⟩
theorem StMk.keep {lo hi : Nat} {w w' : World} {a : Option Addr} {l : Chs} {bs : Nat → Nat} {K : Int} {k : Nat} (h : StMk lo hi w a l bs K k) (hk : Agree lo hi w w') : StMk lo hi w' a l bs K k := by
  obtain ⟨b, cs, e, h1, h2, h3, h5, h6⟩ := h
  refine ⟨b, cs, e, h1, h2, (hk b h1 h2).trans h3, fun i x hx => ?_, h6⟩
  obtain ⟨a3, c, g1, g3⟩ := h5 i x hx
  refine ⟨a3, c, g1, fun hne => ?_⟩
  obtain ⟨f1, f2, f3, f4, f5, f6⟩ := g3 hne
  exact ⟨f1, f2, f3, f4, fun hi => (f5 hi).move (hk _ f2 f3), fun hi => (f6 hi).move (hk _ f2 f3)⟩
theorem StMk.skip {lo hi : Nat} {w : World} {a : Option Addr} {l : Chs} {bs : Nat → Nat} {K : Int} {k : Nat} (h : StMk lo hi w a l bs K k) (hlt : k < l.length) (h0 : l[k] = []) : StMk lo hi w a l bs K (k + 1) := by
  obtain ⟨b, cs, e, h1, h2, h3, h5, h6⟩ := h
  refine ⟨b, cs, e, h1, h2, h3, fun i x hx => ?_, h6⟩
  obtain ⟨a3, c, g1, g3⟩ := h5 i x hx
  refine ⟨a3, c, g1, fun hne => ?_⟩
  obtain ⟨f1, f2, f3, f4, f5, f6⟩ := g3 hne
  have hik : i ≠ k := fun e => by subst e; rw [List.getElem?_eq_getElem hlt, h0] at hx; simp only [Option.some.injEq] at hx; exact hne hx.symm
  exact ⟨f1, f2, f3, f4, fun hi => f5 (by omega), fun hi => f6 (by omega)⟩
theorem StMk.step {lo hi : Nat} {w w' : World} {a : Option Addr} {l : Chs} {bs : Nat → Nat} {K : Int} {k : Nat} (h : StMk lo hi w a l bs K k) (hlt : k < l.length) (hne : l[k] ≠ []) (hm : VeMk w' (bs k) (K + 2 * sizeN (l.take k)) l[k].length) (hk : KeptS (bs k) (bs k + 1) w w') (hs : hi ≤ w.heap.size) : StMk lo hi w' a l bs K (k + 1) := by
  obtain ⟨b, cs, e, h1, h2, h3, h5, h6⟩ := h
  have hx0 : l[k]? = some l[k] := List.getElem?_eq_getElem hlt
  obtain ⟨_, _, _, g9⟩ := h5 k l[k] hx0
  have hbk := (g9 hne).2.2.2.1
  refine ⟨b, cs, e, h1, h2, (hk.block b (by omega) (by omega)).trans h3, fun i x hx => ?_, h6⟩
  obtain ⟨a3, c, g1, g3⟩ := h5 i x hx
  refine ⟨a3, c, g1, fun hne2 => ?_⟩
  obtain ⟨f1, f2, f3, f4, f5, f6⟩ := g3 hne2
  by_cases hik : i = k
  · subst hik
    rw [hx0] at hx
    simp only [Option.some.injEq] at hx
    subst hx
    exact ⟨f1, f2, f3, f4, fun _ => hm, fun hi => by omega⟩
  · have hd := h6 i k x l[k] hx hx0 hik hne2 hne
    have hb := hk.block (bs i) (by omega) (by omega)
    exact ⟨f1, f2, f3, f4, fun hi => (f5 (by omega)).move hb, fun hi => (f6 (by omega)).move hb⟩
theorem StMk.cells {lo hi : Nat} {w : World} {a : Option Addr} {l : Chs} {bs : Nat → Nat} {K : Int} {k : Nat} (h : StMk lo hi w a l bs K k) (i : Nat) (hlt : i < l.length) :
    ∃ b a3 c3, a = some ⟨b, 0, none⟩ ∧ w.cell? ⟨b, i, none⟩ = some (.slice a3 l[i].length c3) ∧ (l[i] ≠ [] → a3 = some ⟨bs i, 0, none⟩ ∧ lo ≤ bs i ∧ bs i < hi ∧ (i < k → VeMk w (bs i) (K + 2 * sizeN (l.take i)) l[i].length) ∧ (k ≤ i → VeBlk w (bs i) l[i])) := by
  obtain ⟨b, cs, e, h1, h2, h3, h5, h6⟩ := h
  obtain ⟨a3, c, g1, g3⟩ := h5 i l[i] (List.getElem?_eq_getElem hlt)
  refine ⟨b, a3, c, e, (row_cell h3 i).trans g1, fun hne => ?_⟩
  obtain ⟨f1, f2, f3, f4, f5, f6⟩ := g3 hne
  exact ⟨f1, f2, f3, f5, f6⟩
theorem sizeN_take_le (l : Chs) (k : Nat) : sizeN (l.take k) ≤ sizeN l := by
  have : sizeN l = sizeN (l.take k) + sizeN (l.drop k) := by
    unfold sizeN; rw [← List.sum_append, ← List.map_append, List.take_append_drop]
  omega
set_option maxHeartbeats 2000000 in
theorem mark_Chs (a : Option Addr) (c : Nat) (l : Chs) (lo hi : Nat) (bs : Nat → Nat) (K : Int) (w : World) (ho : StOwn lo hi w a l bs) (hbd : ChsBd 1048576 l) (hsz : sizeN l ≤ 1099511627776) (hhi : hi ≤ w.heap.size) (h0 : 0 ≤ K) (h1 : K ≤ 1073741824) :
    Calls Try.prog 23 #[.slice a l.length c, .int .i64 K] w fun e w' => ∃ r : Int, e = .returned (.int .i64 r) ∧ r = K + 2 * sizeN l ∧ StMk lo hi w' a l bs K l.length ∧ KeptS lo hi w w' := by
  obtain ⟨hl, ht⟩ := hbd
  have HT : Hid (∀ x ∈ l, x.length ≤ 1048576) := ht
  have HM0 : Hid _ := StOwn.mk ho K
  clear ho ht
  go_enter Try.func23, Try.ntmps23
  go_wp2_with fail
  go_loopw [1, 5] (fun s i w' => ∃ (k : Nat) (z : Int), k ≤ l.length ∧ i = .int .i64 k ∧ s = .int .i64 z ∧ z = K + 2 * sizeN (l.take k) ∧ Hid (StMk lo hi w' a l bs K k) ∧ Hid (KeptS lo hi w w')) (fun _ i _ => l.length - (intOf i).toNat)
  case atStart => exact ⟨0, K, by omega, rfl, rfl, by simp [sizeN], HM0, KeptS.refl _ _ _⟩
  case round =>
    obtain ⟨k, z, hk, rfl, rfl, hz, HM, HK⟩ := hrel
    obtain ⟨wo, rfl⟩ : ∃ x, x = wr := ⟨_, rfl⟩
    have hle := sizeN_take_le l k
    have HZ : Hid (z = K + 2 * sizeN (l.take k)) := hz
    have hz1 : 0 ≤ z := by omega
    have hz2 : z ≤ 2200096997376 := by omega
    clear hz hle
    by_cases hlt : k < l.length
    · obtain ⟨b, a3, c3, rfl, d0, hx⟩ := StMk.cells HM.out k hlt
      have HX : Hid _ := hx
      have hX : l[k].length ≤ 1048576 := HT.out l[k] (List.getElem_mem hlt)
      have hst := sizeN_take hlt
      have HZ2 : Hid (z + 2 * l[k].length = K + 2 * sizeN (l.take (k + 1))) := by have := HZ.out; unfold Hid; omega
      have hhi2 : hi ≤ wo.heap.size := by have := HK.out.size; omega
      clear hx hst
      by_cases hne : l[k] = []
      · have HS : Hid (StMk lo hi wo (some ⟨b, 0, none⟩) l bs K (k + 1)) := StMk.skip HM.out hlt hne
        have HZ3 : Hid (z = K + 2 * sizeN (l.take (k + 1))) := by have := HZ2.out; rw [hne] at this; unfold Hid; simpa using this
        rw [hne, List.length_nil] at d0
        clear HX HZ2 hne hX
        go_wp2_with fail
        refine (mark_Ves0 a3 c3 _ _).mono ?_
        rintro e w1 ⟨rfl, rfl⟩
        go_wp2_with fail
        exact ⟨⟨k + 1, z, by omega, by go_num, rfl, HZ3.out, HS, HK⟩, by simp [intOf]; omega⟩
      · obtain ⟨e3, g1, g2, _, g4⟩ := HX.out hne
        have HV : Hid (VeBlk wo (bs k) l[k]) := g4 (Nat.le_refl _)
        have HNE : Hid (l[k] ≠ []) := hne
        subst e3
        clear hne g4
        go_wp2_with fail
        refine (mark_Ves (bs k) c3 l[k] z _ HV.out hX hz1 (by omega)).mono ?_
        rintro e w1 ⟨r, rfl, hr, m1, k1⟩
        have HR : Hid _ := hr
        have HS : Hid (StMk lo hi w1 (some ⟨b, 0, none⟩) l bs K (k + 1)) := StMk.step HM.out hlt HNE.out (by rw [← HZ.out]; exact m1) k1 hhi2
        have HK1 : Hid (KeptS lo hi w w1) := HK.out.trans (k1.mono g1 (by omega))
        clear hr m1 k1
        go_wp2_with fail
        exact ⟨⟨k + 1, r, by omega, by go_num, rfl, by have := HR.out; have := HZ2.out; omega, HS, HK1⟩, by simp [intOf]; omega⟩
    · obtain rfl : k = l.length := by omega
      have HZ2 : Hid (z = K + 2 * sizeN l) := by have := HZ.out; rw [List.take_length] at this; exact this
      go_wp2_with fail
      go_ret
      exact ⟨_, rfl, HZ2.out, HM.out, HK.out⟩
set_option maxHeartbeats 2000000 in
theorem held_Chs (a : Option Addr) (c : Nat) (l : Chs) (lo hi : Nat) (bs : Nat → Nat) (K : Int) (w : World) (ho : StMk lo hi w a l bs K l.length) (hbd : ChsBd 1048576 l) (hsz : sizeN l ≤ 1099511627776) (h0 : 0 ≤ K) (h1 : K ≤ 1073741824) :
    Calls Try.prog 28 #[.slice a l.length c, .int .i64 K] w fun e w' => ∃ r : Int, e = .returned (.int .i64 r) ∧ r = K + 2 * sizeN l ∧ w' = w := by
  obtain ⟨hl, ht⟩ := hbd
  have HT : Hid (∀ x ∈ l, x.length ≤ 1048576) := ht
  have HM : Hid _ := ho
  clear ho ht
  go_enter Try.func28, Try.ntmps28
  go_wp2_with fail
  go_loop [1, 5] (fun s i => ∃ (k : Nat) (z : Int), k ≤ l.length ∧ i = .int .i64 k ∧ s = .int .i64 z ∧ z = K + 2 * sizeN (l.take k)) (fun _ i => l.length - (intOf i).toNat)
  case atStart => exact ⟨0, K, by omega, rfl, rfl, by simp [sizeN]⟩
  case round =>
    obtain ⟨k, z, hk, rfl, rfl, hz⟩ := hrel
    have hle := sizeN_take_le l k
    have HZ : Hid (z = K + 2 * sizeN (l.take k)) := hz
    have hz1 : 0 ≤ z := by omega
    have hz2 : z ≤ 2200096997376 := by omega
    have hz3 : ¬ z < 0 := by omega
    clear hz hle
    by_cases hlt : k < l.length
    · obtain ⟨b, a3, c3, rfl, d0, hx⟩ := StMk.cells HM.out k hlt
      have HX : Hid _ := hx
      have hX : l[k].length ≤ 1048576 := HT.out l[k] (List.getElem_mem hlt)
      have hst := sizeN_take hlt
      have HZ2 : Hid (z + 2 * l[k].length = K + 2 * sizeN (l.take (k + 1))) := by have := HZ.out; unfold Hid; omega
      clear hx hst
      by_cases hne : l[k] = []
      · have HZ3 : Hid (z = K + 2 * sizeN (l.take (k + 1))) := by have := HZ2.out; rw [hne] at this; unfold Hid; simpa using this
        rw [hne, List.length_nil] at d0
        clear HX HZ2 hne hX
        go_wp2_with fail
        refine (held_Ves0 a3 c3 _ _).mono ?_
        rintro e w1 ⟨rfl, rfl⟩
        go_wp2_with fail
        go_round
        case rel => exact ⟨k + 1, z, by omega, by go_num, rfl, HZ3.out⟩
        case measure => simp [intOf]; omega
      · obtain ⟨e3, g1, g2, g3, _⟩ := HX.out hne
        have HV : Hid (VeMk w (bs k) z l[k].length) := by have := g3 hlt; rw [← HZ.out] at this; exact this
        subst e3
        clear hne g3
        go_wp2_with fail
        refine (held_Ves (bs k) c3 l[k].length z _ HV.out hX hz1 (by omega)).mono ?_
        rintro e w1 ⟨r, rfl, hr, rfl⟩
        have hr0 : ¬ r < 0 := by omega
        have HR : Hid (r = K + 2 * sizeN (l.take (k + 1))) := by have := HZ2.out; unfold Hid; omega
        clear hr
        go_wp2_with fail
        go_round
        case rel => exact ⟨k + 1, r, by omega, by go_num, rfl, HR.out⟩
        case measure => simp [intOf]; omega
    · obtain rfl : k = l.length := by omega
      have HZ2 : Hid (z = K + 2 * sizeN l) := by have := HZ.out; rw [List.take_length] at this; exact this
      go_wp2_with fail
      go_ret
      exact ⟨_, rfl, HZ2.out, rfl⟩
set_option maxHeartbeats 2000000 in
theorem mark_store (a : Option Addr) (c : Nat) (l : Chs) (now : Int) (lo hi : Nat) (bs : Nat → Nat) (K : Int) (w : World) (ho : StOwn lo hi w a l bs) (hbd : ChsBd 1048576 l) (hsz : sizeN l ≤ 1099511627776) (hhi : hi ≤ w.heap.size) (h0 : 0 ≤ K) (h1 : K ≤ 1073741824) :
    Calls Try.prog 14 #[.agg #[.slice a l.length c, .int .i64 now], .int .i64 K] w fun e w' => ∃ r : Int, e = .returned (.int .i64 r) ∧ r = K + 2 * sizeN l ∧ StMk lo hi w' a l bs K l.length ∧ KeptS lo hi w w' := by
  have B0 : Hid (Below w.heap.size w (w.alloc (.cells #[.slice a l.length c, .int .i64 now] 24))) := (Below.refl _ _).alloc (Nat.le_refl _) _
  have HO : Hid (StOwn lo hi (w.alloc (.cells #[.slice a l.length c, .int .i64 now] 24)) a l bs) := StOwn.keep ho (agree B0.out hhi)
  have HE : Hid _ := hbd
  clear ho hbd
  go_enter Try.func14, Try.ntmps14
  go_wp2_with fail
  refine (mark_Chs a c l lo hi bs K _ HO.out HE.out hsz (by simp; omega) h0 h1).mono ?_
  rintro e w1 ⟨r, rfl, hr, m1, k1⟩
  have HR : Hid _ := hr
  have HM : Hid _ := m1
  have HK : Hid (KeptS lo hi w w1) := (KeptS.of B0.out).trans k1
  clear hr m1 k1
  go_wp2_with fail
  go_ret
  exact ⟨r, rfl, HR.out, HM.out, HK.out⟩
set_option maxHeartbeats 2000000 in
theorem held_store (a : Option Addr) (c : Nat) (l : Chs) (now : Int) (lo hi : Nat) (bs : Nat → Nat) (K : Int) (w : World) (ho : StMk lo hi w a l bs K l.length) (hbd : ChsBd 1048576 l) (hsz : sizeN l ≤ 1099511627776) (hhi : hi ≤ w.heap.size) (h0 : 0 ≤ K) (h1 : K ≤ 1073741824) :
    Calls Try.prog 17 #[.agg #[.slice a l.length c, .int .i64 now], .int .i64 K] w fun e w' => ∃ r : Int, e = .returned (.int .i64 r) ∧ r = K + 2 * sizeN l ∧ Below w.heap.size w w' := by
  have B0 : Hid (Below w.heap.size w (w.alloc (.cells #[.slice a l.length c, .int .i64 now] 24))) := (Below.refl _ _).alloc (Nat.le_refl _) _
  have HO : Hid (StMk lo hi (w.alloc (.cells #[.slice a l.length c, .int .i64 now] 24)) a l bs K l.length) := StMk.keep ho (agree B0.out hhi)
  have HE : Hid _ := hbd
  clear ho hbd
  go_enter Try.func17, Try.ntmps17
  go_wp2_with fail
  refine (held_Chs a c l lo hi bs K _ HO.out HE.out hsz h0 h1).mono ?_
  rintro e w1 ⟨r, rfl, hr, rfl⟩
  have hr0 : ¬ r < 0 := by omega
  have HR : Hid _ := hr
  clear hr
  go_wp2_with fail
  go_ret
  exact ⟨r, rfl, HR.out, B0.out⟩
end Go.Proofs.Ytepdgcbbnoiajaa.G
