/- Rows of numbers; what all keys of a store tell now; rows of numbers held against each other. -/
import Derived.Test.YtoojbgngjnepeaaStReadSpec
namespace Go.Proofs.Ytoojbgngjnepeaa.G
open Go.ChangeShapes Go.WideShapes Go.ChangeAt Go.RowKit
set_option linter.unusedVariables false

def NuAt (rd : Nat → Option Value) (o : Nat) (x : Int) : Prop := rd o = some (.int .i64 x)
abbrev NuRow (lo hi : Nat) (w : World) (a : Option Addr) (l : List Int) : Prop := Row NuAt 1 lo hi w a l
theorem NuRow.keep {lo hi : Nat} {w w' : World} {a : Option Addr} {l : List Int} (h : NuRow lo hi w a l) (hk : Agree lo hi w w') : NuRow lo hi w' a l := Row.of h hk fun _ _ _ hx => hx
theorem NuRow.wide {lo hi lo' hi' : Nat} {w : World} {a : Option Addr} {l : List Int} (h : NuRow lo hi w a l) (e1 : lo' ≤ lo) (e2 : hi ≤ hi') : NuRow lo' hi' w a l := Row.out h e1 e2 fun _ _ _ hx => hx
theorem NuRow.up {w w' : World} {a : Option Addr} {l : List Int} (h : NuRow 0 w.heap.size w a l) (hb : Below w.heap.size w w') : NuRow 0 w'.heap.size w' a l := NuRow.wide (NuRow.keep h (agree hb (Nat.le_refl _))) (Nat.le_refl _) hb.size
theorem NuRow.cells {lo hi : Nat} {w : World} {a : Option Addr} {l : List Int} (h : NuRow lo hi w a l) (k : Nat) (hk : k < l.length) :
    ∃ b o, a = some ⟨b, o, none⟩ ∧ lo ≤ b ∧ b < hi ∧ w.cell? ⟨b, o + k, none⟩ = some (.int .i64 l[k]) := by
  obtain ⟨b, o, e1, e2, e3, h0⟩ := Row.at_ h k hk
  rw [Nat.mul_one] at h0
  exact ⟨b, o, e1, e2, e3, h0⟩
theorem nu_of {w : World} {N lo hi : Nat} {cs : Array Value} {T : TypeId} {l : List Int} (h : w.heap[N]? = some (.cells cs T (0, 0))) (h1 : lo ≤ N) (h2 : N < hi) (hc : ∀ i (h : i < l.length), cs[i]? = some (.int .i64 l[i])) : NuRow lo hi w (some ⟨N, 0, none⟩) l := by
  refine .inr ⟨N, 0, rfl, h1, h2, fun i x hx => ?_⟩
  obtain ⟨hi, rfl⟩ := List.getElem?_eq_some_iff.1 hx
  rw [row_rd h]
  show cs[0 + i * 1]? = _
  rw [Nat.mul_one, Nat.zero_add]
  exact hc i hi
set_option maxRecDepth 100000 in
theorem info_int : ∃ i, Try.prog.info? 3 = some i ∧ i.zero = some (.int .i64 0) ∧ i.size = 1 ∧ i.bytes = 8 := by
  refine ⟨_, rfl, ?_, ?_, ?_⟩ <;> kernel_rfl
set_option maxHeartbeats 2000000 in
theorem ints_equal (a a' : Option Addr) (c c' : Nat) (x y : List Int) (w : World) (hr : NuRow 0 w.heap.size w a x) (hr' : NuRow 0 w.heap.size w a' y) (hl : x.length ≤ 1048576) (he : x.length = y.length) :
    Calls Try.prog 26 #[.slice a x.length c, .slice a' y.length c'] w fun e w' => e = .returned (.bool (decide (x = y))) ∧ Below w.heap.size w w' := by
  have HR : Hid _ := hr
  have HR' : Hid _ := hr'
  have HEQ : Hid _ := he
  have hne : ((x.length : Int) != y.length) = false := by simp; omega
  rw [← he] at hne ⊢
  clear hr hr' he
  go_enter Try.func26, Try.ntmps26
  go_wp2_with fail
  go_loopw [13] (fun i w' => ∃ (k q : Nat), k ≤ x.length ∧ i = .int .i64 k ∧ w' = w.drewN q ∧ Hid (∀ i, i < k → x[i]? = y[i]?)) (fun i _ => x.length - (intOf i).toNat)
  case atStart => exact ⟨0, 0, by omega, rfl, rfl, fun i h => by omega⟩
  case round =>
    obtain ⟨k, q, hk, rfl, rfl, HK⟩ := hrel
    by_cases hlt : k < x.length
    · have hlt2 : k < y.length := by have := HEQ.out; omega
      obtain ⟨b, o, ha, _, hbl, d0⟩ := NuRow.cells HR.out k hlt
      obtain ⟨b', o', ha', _, hbl', d1⟩ := NuRow.cells HR'.out k hlt2
      subst ha ha'
      have hlt' : (k : Int) < x.length := by omega
      by_cases hxy : x[k] = y[k]
      · have HK2 : Hid (∀ i, i < k + 1 → x[i]? = y[i]?) := fun i hi => by
          by_cases e : i = k
          · subst e; rw [List.getElem?_eq_getElem hlt, List.getElem?_eq_getElem hlt2, hxy]
          · exact HK.out i (by omega)
        rw [← hxy] at d1
        clear hxy
        go_wp2_with fail
        go_quiet (fail)
        go_wp2_with fail
        exact ⟨⟨k + 1, q + nq, by omega, by go_num, by simp, HK2⟩, by simp [intOf]; omega⟩
      · have HN : Hid (false = decide (x = y)) := by
          unfold Hid
          symm
          rw [decide_eq_false_iff_not]
          intro e; subst e; exact hxy rfl
        have hxy' : (x[k] != y[k]) = true := by simpa using hxy
        clear hxy
        go_wp2_with fail
        go_quiet (fail)
        go_wp2_with fail
        go_ret
        exact ⟨ret_b HN.out, below_drewN (below_drewN (Below.refl _ _) _) _⟩
    · have HN : Hid (true = decide (x = y)) := by
        unfold Hid
        symm
        rw [decide_eq_true_iff]
        apply List.ext_getElem?
        intro i
        by_cases hi : i < k
        · exact HK.out i hi
        · have := HEQ.out
          rw [List.getElem?_eq_none (by omega), List.getElem?_eq_none (by omega)]
      go_wp2_with fail
      go_ret
      exact ⟨ret_b HN.out, below_drewN (Below.refl _ _) _⟩
/-- What all keys tell at an hour. -/
def vals (l : Chs) (ts : Int) : List Int := l.map fun x => readV x ts
theorem vals_len (l : Chs) (ts : Int) : (vals l ts).length = l.length := by simp [vals]
theorem vals_at {l : Chs} {ts : Int} {i : Nat} (h : i < (vals l ts).length) : (vals l ts)[i] = readV (l[i]'(by rw [vals_len] at h; exact h)) ts := by simp [vals]
set_option maxHeartbeats 1000000 in
theorem val_closure (B : Nat) (now : Int) (a : Option Addr) (c : Nat) (l : List Ve) (w : World) (hc : w.cell? ⟨B, 1, none⟩ = some (.int .i64 now)) (hr : VeRow 0 w.heap.size w a l) (hl : l.length ≤ 1048576) (hrise : Rise l) :
    Calls Try.prog 43 #[.slice a l.length c, .pointer (some ⟨B, 0, none⟩)] w fun e w' => e = .returned (.int .i64 (readV l now)) ∧ Below w.heap.size w w' := by
  have HR : Hid _ := hr
  have HS : Hid _ := hrise
  clear hr hrise
  go_enter Try.func43, Try.ntmps43
  go_wp2_with fail
  refine (value_at a c l now _ HR.out hl HS.out).mono ?_
  rintro e w1 ⟨rfl, hb1⟩
  go_wp2_with fail
  go_ret
  exact ⟨rfl, hb1⟩
set_option maxHeartbeats 2000000 in
theorem of_chains_val (B : Nat) (ts : Int) (a : Option Addr) (c : Nat) (l : Chs) (now : Int) (w : World) (hc : w.cell? ⟨B, 1, none⟩ = some (.int .i64 ts)) (hB : B < w.heap.size) (hr : ChRow 0 w.heap.size w a l) (hbd : ChsBd 1048576 l) (hrise : ∀ i (h : i < l.length), Rise l[i]) :
    Calls Try.prog 42 #[.agg #[.slice a l.length c, .int .i64 now], .func (.func 43) #[] #[.pointer (some ⟨B, 0, none⟩)]] w fun e w' =>
      ∃ a', e = .returned (.slice a' l.length l.length) ∧ NuRow w.heap.size w'.heap.size w' a' (vals l ts) ∧ Below w.heap.size w w' := by
  obtain ⟨hl, ht⟩ := hbd
  obtain ⟨V, hV⟩ : ∃ V, V = w.alloc (.cells #[.slice a l.length c, .int .i64 now] 25) := ⟨_, rfl⟩
  have B0 : Below w.heap.size w V := by rw [hV]; exact (Below.refl _ _).alloc (Nat.le_refl _) _
  have zV : V.heap.size = w.heap.size + 1 := by rw [hV]; simp
  have HR : Hid (ChRow 0 V.heap.size V a l) := ChRow.up hr B0
  have HC : Hid (V.cell? ⟨B, 1, none⟩ = some (.int .i64 ts)) := (B0.cell (p := ⟨B, 1, none⟩) hB).trans hc
  have HT : Hid (∀ x ∈ l, x.length ≤ 1048576) := ht
  have HS : Hid _ := hrise
  have HB : Hid _ := B0
  clear hr ht hrise hc B0
  obtain ⟨i27, hi, hz, hsz, hby⟩ := info_int
  have hmk := run_make (P := Try.prog) V 55 3 i27 _ Try.underlying55 hi hz .i64 .i64 (l.length : Int) (l.length : Int) (by omega) (by omega) (by rw [hby]; omega) (by omega)
  rw [hsz, Int.toNat_natCast, Nat.mul_one] at hmk
  clear hi hz hsz hby
  have hs0 := size_madeCells (Value.int .i64 0).cells l.length
  generalize madeCells (Value.int .i64 0).cells l.length = cs0 at *
  rw [hV] at hmk
  go_enter Try.func42, Try.ntmps42
  go_wp2_with fail
  rw [← hV]
  have hst : Below V.heap.size V (V.alloc (.cells cs0 3)) := (Below.refl _ _).alloc (Nat.le_refl _) _
  have hst2 : (V.alloc (.cells cs0 3)).heap[w.heap.size + 1]? = some (.cells cs0 3 (0, 0)) := by rw [← zV]; exact heap_alloc_new _ _
  have HST : Hid _ := hst2
  clear hst2 hmk
  go_loopw [15] (fun i w' => ∃ (k : Nat) (cs : Array Value), k ≤ l.length ∧ i = .int .i64 k ∧ Below V.heap.size V w' ∧ Hid (w'.heap[w.heap.size + 1]? = some (.cells cs 3 (0, 0))) ∧ cs.size = l.length ∧ Hid (∀ i (h : i < l.length), i < k → cs[i]? = some (.int .i64 (readV l[i] ts)))) (fun i _ => l.length - (intOf i).toNat)
  case atStart => exact ⟨0, cs0, by omega, rfl, hst, HST, hs0, fun i _ h => by omega⟩
  case round =>
    obtain ⟨k, cs, hk, rfl, hb, HH, hcs, HL⟩ := hrel
    obtain ⟨wo, rfl⟩ : ∃ x, x = wr := ⟨_, rfl⟩
    have hz := hb.size
    have hN2 : w.heap.size + 1 < wo.heap.size := (Array.getElem?_eq_some_iff.1 HH.out).1
    clear hs0 hst HST hV
    by_cases hlt : k < l.length
    · obtain ⟨b, o, a3, c3, ha, _, hbl, d0, hcap, r3⟩ := ChRow.cells (ChRow.keep HR.out (agree hb (Nat.le_refl _))) k hlt
      subst ha
      have R3 : Hid (VeRow 0 wo.heap.size wo a3 l[k]) := VeRow.wide r3 (Nat.le_refl _) hb.size
      have HX : Hid (l[k].length ≤ 1048576) := HT.out l[k] (List.getElem_mem hlt)
      have CW : Hid (wo.cell? ⟨B, 1, none⟩ = some (.int .i64 ts)) := (hb.cell (p := ⟨B, 1, none⟩) (show B < V.heap.size by omega)).trans HC.out
      clear r3
      go_wp2_with fail
      refine (val_closure B ts a3 c3 l[k] _ CW.out R3.out HX.out (HS.out k hlt)).mono ?_
      rintro e w1 ⟨rfl, hb1⟩
      have HH1 : Hid (w1.heap[w.heap.size + 1]? = some (.cells cs 3 (0, 0))) := (hb1.block _ hN2).trans HH.out
      obtain ⟨v0, hv0⟩ : ∃ v, w1.cell? ⟨w.heap.size + 1, k, none⟩ = some v := ⟨_, (row_cell HH1.out _).trans (Array.getElem?_eq_getElem (by omega))⟩
      have hf0 := row_frozen HH1.out k
      have qb : Hid (Below V.heap.size V w1) := hb.trans (hb1.mono hb.size)
      obtain ⟨z, hz9⟩ : ∃ z, z = readV l[k] ts := ⟨_, rfl⟩
      have HZ : Hid _ := hz9
      rw [← hz9]
      clear d0 hb1 hz9
      go_wp2_with fail
      refine ⟨⟨k + 1, _, by omega, by go_num, qb.out.setCell (by first | omega | (simp <;> omega)) _, row_set HH1.out _ _, by simp [hcs], ?_⟩, by simp [intOf]; omega⟩
      intro i hi1 hi2
      by_cases e : i = k
      · subst e; rw [HZ.out]; simp [Array.getElem?_setIfInBounds]; omega
      · rw [Array.getElem?_setIfInBounds_ne (by omega)]; exact HL.out i hi1 (by omega)
    · go_wp2_with fail
      go_ret
      obtain rfl : k = l.length := by omega
      refine ⟨_, rfl, nu_of HH.out (by omega) hN2 (fun i h => ?_), HB.out.trans (hb.mono (by omega))⟩
      rw [vals_at h]
      rw [vals_len] at h
      exact HL.out i h h
set_option maxHeartbeats 1000000 in
theorem values_now (a : Option Addr) (c : Nat) (l : Chs) (now : Int) (w : World) (hr : ChRow 0 w.heap.size w a l) (hbd : ChsBd 1048576 l) (hrise : ∀ i (h : i < l.length), Rise l[i]) :
    Calls Try.prog 27 #[.agg #[.slice a l.length c, .int .i64 now]] w fun e w' => ∃ a', e = .returned (.slice a' l.length l.length) ∧ NuRow w.heap.size w'.heap.size w' a' (vals l now) ∧ Below w.heap.size w w' := by
  have B0 : Hid (Below w.heap.size w (w.alloc (.cells #[.slice a l.length c, .int .i64 now] 25))) := (Below.refl _ _).alloc (Nat.le_refl _) _
  have HR : Hid (ChRow 0 _ _ a l) := ChRow.up hr B0.out
  have HE : Hid _ := hbd
  have HS : Hid _ := hrise
  clear hr hbd hrise
  go_enter Try.func27, Try.ntmps27
  go_wp2_with fail
  refine (of_chains_val w.heap.size now a c l now _ (row_cell (heap_alloc_new _ _) 1) (by simp) HR.out HE.out HS.out).mono ?_
  rintro e w1 ⟨a', rfl, r1, hb1⟩
  have R1 : Hid (NuRow w.heap.size w1.heap.size w1 a' (vals l now)) := NuRow.wide r1 (by simp) (Nat.le_refl _)
  have Q : Hid (Below w.heap.size w w1) := below_one hb1
  clear r1 hb1
  go_wp2_with fail
  go_ret
  exact ⟨a', rfl, R1.out, Q.out⟩
end Go.Proofs.Ytoojbgngjnepeaa.G
