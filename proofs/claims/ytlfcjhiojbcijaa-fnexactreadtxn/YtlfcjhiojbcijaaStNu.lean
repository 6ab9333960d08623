/- Rows of numbers: what the law counts and copies of them. -/
import Derived.Test.YtlfcjhiojbcijaaStKeys
namespace Go.Proofs.Ytlfcjhiojbcijaa.G
open Go.ChangeShapes Go.WideShapes Go.ChangeAt Go.RowKit
set_option linter.unusedVariables false

section
variable {H : Type} {enc : TypeId × Value → H} {W : World}
theorem Nus_open {fuel : Nat} {cs : List Value} {x : DataW H × List MemPlace} (h : DataW.trod enc Try.prog W 0 (fun _ => true) true fuel 25 cs = some x) :
    ∃ a c, ∃ l : List Int, cs = [.slice a l.length c] ∧ l.length ≤ maxLen ∧ NuRow 0 W.heap.size W a l := by
  have ci : Try.prog.cellsOf 3 = 1 := by kernel_rfl
  obtain ⟨a, len, cap, rfl, hm, hr⟩ := sl_open Try.underlying25 (z := 1) (by kernel_rfl) (by omega) h
  rcases hr with rfl | ⟨n, b, o, rfl, rfl, hb, hx⟩
  · exact ⟨a, cap, [], rfl, Nat.zero_le _, .inl rfl⟩
  · obtain ⟨l, hl, hp⟩ := list_of (p := fun i x => NuAt (rdOf W b) (o + i * 1) x) (fun i hi => by
      obtain ⟨cs', y, hcl, hc, hd⟩ := hx i hi
      obtain ⟨g0, e0, _, _⟩ := DataW.trod_int Try.underlying3 hd
      subst e0
      exact ⟨g0, hc 0 (by omega)⟩)
    subst hl
    exact ⟨_, cap, l, rfl, hm, .inr ⟨b, o, rfl, Nat.zero_le _, hb, fun i x hx => hp i x hx⟩⟩
end
set_option maxHeartbeats 1000000 in
theorem sz_nums (a : Option Addr) (c len : Nat) (n : Int) (w : World) (hl : len ≤ maxLen) (h0 : 0 ≤ n) (h1 : n ≤ 1048576) :
    Calls Try.prog 19 #[.slice a len c, .int .i64 n] w fun e w' => ∃ m, e = .returned (.int .i64 m) ∧ Sz n m (len ≤ 1048576) ∧ w' = w := by
  unfold maxLen at hl
  by_cases hz : n - len < 0
  · go_enter Try.func19, Try.ntmps19
    go_wp2_with fail
    go_ret
    exact ⟨-1, rfl, Sz.neg h0, rfl⟩
  · go_enter Try.func19, Try.ntmps19
    go_wp2_with fail
    go_ret
    exact ⟨_, rfl, ⟨by omega, by omega, fun _ => by omega⟩, rfl⟩
set_option maxHeartbeats 1000000 in
theorem to_nums (a : Option Addr) (c : Nat) (l : List Int) (w : World) (hr : NuRow 0 w.heap.size w a l) (hl : l.length ≤ 1048576) :
    Calls Try.prog 26 #[.slice a l.length c] w fun e w' => e = .returned (.slice (some ⟨w.heap.size, 0, none⟩) l.length l.length) ∧ NuOwn w.heap.size w'.heap.size w' (some ⟨w.heap.size, 0, none⟩) l ∧ Below w.heap.size w w' := by
  have HR : Hid (NuRow 0 w.heap.size w a l) := hr
  clear hr
  obtain ⟨i27, hi, hz, hsz, hby⟩ := info_int
  have hmk := run_make (P := Try.prog) w 25 3 i27 _ Try.underlying25 hi hz .i64 .i64 (l.length : Int) (l.length : Int) (by omega) (by omega) (by rw [hby]; omega) (by omega)
  rw [hsz, Int.toNat_natCast, Nat.mul_one] at hmk
  clear hi hz hsz hby
  have hs0 := size_madeCells (Value.int .i64 0).cells l.length
  generalize madeCells (Value.int .i64 0).cells l.length = cs0 at *
  go_enter Try.func26, Try.ntmps26
  go_wp2_with fail
  go_loopw [4] (fun i w' => ∃ (k : Nat) (cs : Array Value), k ≤ l.length ∧ i = .int .i64 k ∧ Below w.heap.size w w' ∧ Hid (w'.heap[w.heap.size]? = some (.cells cs 3 (0, 0))) ∧ cs.size = l.length ∧ Hid (∀ i x, i < k → l[i]? = some x → cs[i]? = some (.int .i64 x))) (fun i _ => l.length - (intOf i).toNat)
  case atStart => exact ⟨0, cs0, by omega, rfl, (Below.refl _ _).alloc (Nat.le_refl _) _, heap_alloc_new _ _, hs0, fun i x h => by omega⟩
  case round =>
    obtain ⟨wo, rfl⟩ : ∃ x, x = wr := ⟨_, rfl⟩
    obtain ⟨k, cs, hk, rfl, hb, HH, hcs, HL⟩ := hrel
    clear hmk hs0
    by_cases hlt : k < l.length
    · obtain ⟨b, o, ha, _, hbl, d0⟩ := NuRow.cells (NuRow.keep HR.out (agree hb (Nat.le_refl _))) k hlt
      subst ha
      obtain ⟨v0, hv0⟩ : ∃ v, wo.cell? ⟨w.heap.size, k, none⟩ = some v := ⟨_, (row_cell HH.out _).trans (Array.getElem?_eq_getElem (by omega))⟩
      have hf0 := row_frozen HH.out k
      go_wp2_with fail
      refine ⟨⟨k + 1, _, by omega, by go_num, hb.setCell (Nat.le_refl _) _, row_set HH.out _ _, by simp [hcs], ?_⟩, by simp [intOf]; omega⟩
      intro i x hi hx
      by_cases e : i = k
      · subst e
        rw [List.getElem?_eq_getElem hlt] at hx
        simp only [Option.some.injEq] at hx
        subst hx
        simp [Array.getElem?_setIfInBounds]; omega
      · rw [Array.getElem?_setIfInBounds_ne (by omega)]; exact HL.out i x (by omega) hx
    · go_wp2_with fail
      go_ret
      obtain rfl : k = l.length := by omega
      have hN : w.heap.size < wo.heap.size := (Array.getElem?_eq_some_iff.1 HH.out).1
      exact ⟨rfl, .inr ⟨w.heap.size, cs, rfl, Nat.le_refl _, hN, HH.out, by omega, fun i x hx => HL.out i x (List.getElem?_eq_some_iff.1 hx).1 hx⟩, hb⟩
end Go.Proofs.Ytlfcjhiojbcijaa.G
