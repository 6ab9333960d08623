/- The specification's holding of answers' values against each other: by their texts. -/
import Derived.Test.YtjmkcbjfjejaaaaOuTextSpec
import Derived.Deep.RegionWith
namespace Go.Proofs.Ytjmkcbjfjejaaaa.G
open Go.ChangeShapes Go.WideShapes Go.ChangeAt Go.RowKit
set_option linter.unusedVariables false

theorem out_is (h : Oh) (sub : Ous) (a1 a2 : Option Addr) (c1 c2 : Nat) (w : World) (b : Bool) (r1 : KeRow 0 w.heap.size w a1 h.keys) (hc : h.keys.length ≤ c1) (r2 : OuRow 0 w.heap.size w a2 sub) (hb : OhBd 1048576 h) (hl : sub.len ≤ 1048576) (hs : OusBd 1048576 sub) (hq : outB 20 h sub = b) :
    Calls Try.prog 7 #[.agg #[.int .i64 h.k, .int .i64 h.n, .string h.t, .slice a1 h.keys.length c1, .slice a2 sub.len c2]] w fun e w' => e = .returned (.bool b) ∧ Below w.heap.size w w' := by
  subst hq
  exact spec_outOK h sub a1 a2 c1 c2 w r1 hc r2 hb hl hs
/-- Both are right, and of one text. -/
def sameO (h : Oh) (sub : Ous) (h' : Oh) (sub' : Ous) : Bool := outB 20 h sub && outB 20 h' sub' && ((outT h sub).toList == (outT h' sub').toList)
set_option maxHeartbeats 8000000 in
set_option maxRecDepth 40000 in
theorem spec_sameOut (h h' : Oh) (sub sub' : Ous) (a1 a2 a1' a2' : Option Addr) (c1 c2 c1' c2' : Nat) (w : World) (r1 : KeRow 0 w.heap.size w a1 h.keys) (r2 : OuRow 0 w.heap.size w a2 sub) (r3 : KeRow 0 w.heap.size w a1' h'.keys) (r4 : OuRow 0 w.heap.size w a2' sub')
    (hx : h.keys.length ≤ c1 ∧ OhBd 1048576 h ∧ sub.len ≤ 1048576 ∧ OusBd 1048576 sub) (hy : h'.keys.length ≤ c1' ∧ OhBd 1048576 h' ∧ sub'.len ≤ 1048576 ∧ OusBd 1048576 sub') :
    Calls Try.prog 11 #[.agg #[.int .i64 h.k, .int .i64 h.n, .string h.t, .slice a1 h.keys.length c1, .slice a2 sub.len c2], .agg #[.int .i64 h'.k, .int .i64 h'.n, .string h'.t, .slice a1' h'.keys.length c1', .slice a2' sub'.len c2']] w fun e w' => e = .returned (.bool (sameO h sub h' sub')) ∧ Below w.heap.size w w' := by
  have K3 : Hid (∀ W0, Below w.heap.size w W0 → (KeRow 0 W0.heap.size W0 a1 h.keys ∧ OuRow 0 W0.heap.size W0 a2 sub) ∧ (KeRow 0 W0.heap.size W0 a1' h'.keys ∧ OuRow 0 W0.heap.size W0 a2' sub')) := fun W0 hB => ⟨⟨KeRow.up r1 hB, OuRow.up r2 hB⟩, ⟨KeRow.up r3 hB, OuRow.up r4 hB⟩⟩
  have HX : Hid _ := hx
  have HY : Hid _ := hy
  clear r1 r2 r3 r4 hx hy
  have E0 : Hid (((w.alloc (.cells #[.int .i64 h.k, .int .i64 h.n, .string h.t, .slice a1 h.keys.length c1, .slice a2 sub.len c2] 30)).alloc (.cells #[.int .i64 h'.k, .int .i64 h'.n, .string h'.t, .slice a1' h'.keys.length c1', .slice a2' sub'.len c2'] 30)).heap[w.heap.size + 1]? = some (.cells #[.int .i64 h'.k, .int .i64 h'.n, .string h'.t, .slice a1' h'.keys.length c1', .slice a2' sub'.len c2'] 30 (0, 0))) := by have := heap_alloc_new (w.alloc (.cells #[.int .i64 h.k, .int .i64 h.n, .string h.t, .slice a1 h.keys.length c1, .slice a2 sub.len c2] 30)) (.cells #[.int .i64 h'.k, .int .i64 h'.n, .string h'.t, .slice a1' h'.keys.length c1', .slice a2' sub'.len c2'] 30); simpa [Hid] using this
  have C0 : Hid (((w.alloc (.cells #[.int .i64 h.k, .int .i64 h.n, .string h.t, .slice a1 h.keys.length c1, .slice a2 sub.len c2] 30)).alloc (.cells #[.int .i64 h'.k, .int .i64 h'.n, .string h'.t, .slice a1' h'.keys.length c1', .slice a2' sub'.len c2'] 30)).heap[w.heap.size]? = some (.cells #[.int .i64 h.k, .int .i64 h.n, .string h.t, .slice a1 h.keys.length c1, .slice a2 sub.len c2] 30 (0, 0))) := (((Below.refl (w.heap.size + 1) (w.alloc (.cells #[.int .i64 h.k, .int .i64 h.n, .string h.t, .slice a1 h.keys.length c1, .slice a2 sub.len c2] 30))).alloc (by simp) (.cells #[.int .i64 h'.k, .int .i64 h'.n, .string h'.t, .slice a1' h'.keys.length c1', .slice a2' sub'.len c2'] 30)).block _ (by omega)).trans (heap_alloc_new _ _)
  have P0 : Hid (Below w.heap.size w ((w.alloc (.cells #[.int .i64 h.k, .int .i64 h.n, .string h.t, .slice a1 h.keys.length c1, .slice a2 sub.len c2] 30)).alloc (.cells #[.int .i64 h'.k, .int .i64 h'.n, .string h'.t, .slice a1' h'.keys.length c1', .slice a2' sub'.len c2'] 30))) := ((Below.refl _ _).alloc (Nat.le_refl _) _).alloc (by simp) _
  have z0 : w.heap.size + 2 ≤ ((w.alloc (.cells #[.int .i64 h.k, .int .i64 h.n, .string h.t, .slice a1 h.keys.length c1, .slice a2 sub.len c2] 30)).alloc (.cells #[.int .i64 h'.k, .int .i64 h'.n, .string h'.t, .slice a1' h'.keys.length c1', .slice a2' sub'.len c2'] 30)).heap.size := by simp
  have c0 := fun o => row_cell C0.out o
  have e0 := fun o => row_cell E0.out o
  by_cases h1 : outB 20 h sub = true
  case neg =>
    rw [Bool.not_eq_true] at h1
    have HN : Hid (sameO h sub h' sub' = false) := by unfold Hid sameO; rw [h1]; rfl
    go_enter Try.func11, Try.ntmps11
    go_wp2_with fail
    generalize ((w.alloc (.cells #[.int .i64 h.k, .int .i64 h.n, .string h.t, .slice a1 h.keys.length c1, .slice a2 sub.len c2] 30)).alloc (.cells #[.int .i64 h'.k, .int .i64 h'.n, .string h'.t, .slice a1' h'.keys.length c1', .slice a2' sub'.len c2'] 30)) = W at *
    go_region_with (first
      | (go_at_call_of 7 sub
         refine Calls.mono (out_is h sub a1 a2 c1 c2 _ false (K3.out _ ?hb).1.1 HX.out.1 (K3.out _ ?hb).1.2 HX.out.2.1 HX.out.2.2.1 HX.out.2.2.2 h1) ?_
         case hb => exact P0.out.drew
         rintro e w1 ⟨rfl, hb1⟩
         have P1 : Hid (Below w.heap.size w w1) := P0.out.drew.trans (hb1.mono (by have : W.drew.heap.size = W.heap.size := rfl; omega))
         have z1 : w.heap.size + 2 ≤ w1.heap.size := by have := hb1.size; have : W.drew.heap.size = W.heap.size := rfl; omega
         have D1 : Hid (w1.heap[w.heap.size]? = some (.cells #[.int .i64 h.k, .int .i64 h.n, .string h.t, .slice a1 h.keys.length c1, .slice a2 sub.len c2] 30 (0, 0))) := (hb1.block _ (show w.heap.size < W.heap.size by omega)).trans C0.out
         have E1 : Hid (w1.heap[w.heap.size + 1]? = some (.cells #[.int .i64 h'.k, .int .i64 h'.n, .string h'.t, .slice a1' h'.keys.length c1', .slice a2' sub'.len c2'] 30 (0, 0))) := (hb1.block _ (show w.heap.size + 1 < W.heap.size by omega)).trans E0.out
         have d1 := fun o => row_cell D1.out o
         have e1 := fun o => row_cell E1.out o
         clear hb1))
    all_goals
      go_wp2_with fail
      go_ret
      exact ⟨by rw [HN.out]; rfl, P1.out⟩
  by_cases h2 : outB 20 h' sub' = true
  case neg =>
    rw [Bool.not_eq_true] at h2
    have HN : Hid (sameO h sub h' sub' = false) := by unfold Hid sameO; rw [h2, Bool.and_false]; rfl
    go_enter Try.func11, Try.ntmps11
    go_wp2_with fail
    generalize ((w.alloc (.cells #[.int .i64 h.k, .int .i64 h.n, .string h.t, .slice a1 h.keys.length c1, .slice a2 sub.len c2] 30)).alloc (.cells #[.int .i64 h'.k, .int .i64 h'.n, .string h'.t, .slice a1' h'.keys.length c1', .slice a2' sub'.len c2'] 30)) = W at *
    go_region_with (first
      | (go_at_call_of 7 sub
         refine Calls.mono (out_is h sub a1 a2 c1 c2 _ true (K3.out _ ?hb).1.1 HX.out.1 (K3.out _ ?hb).1.2 HX.out.2.1 HX.out.2.2.1 HX.out.2.2.2 h1) ?_
         case hb => exact P0.out.drew
         rintro e w1 ⟨rfl, hb1⟩
         have P1 : Hid (Below w.heap.size w w1) := P0.out.drew.trans (hb1.mono (by have : W.drew.heap.size = W.heap.size := rfl; omega))
         have z1 : w.heap.size + 2 ≤ w1.heap.size := by have := hb1.size; have : W.drew.heap.size = W.heap.size := rfl; omega
         have D1 : Hid (w1.heap[w.heap.size]? = some (.cells #[.int .i64 h.k, .int .i64 h.n, .string h.t, .slice a1 h.keys.length c1, .slice a2 sub.len c2] 30 (0, 0))) := (hb1.block _ (show w.heap.size < W.heap.size by omega)).trans C0.out
         have E1 : Hid (w1.heap[w.heap.size + 1]? = some (.cells #[.int .i64 h'.k, .int .i64 h'.n, .string h'.t, .slice a1' h'.keys.length c1', .slice a2' sub'.len c2'] 30 (0, 0))) := (hb1.block _ (show w.heap.size + 1 < W.heap.size by omega)).trans E0.out
         have d1 := fun o => row_cell D1.out o
         have e1 := fun o => row_cell E1.out o
         clear hb1)
      | (go_at_call_of 7 sub'
         refine Calls.mono (out_is h' sub' a1' a2' c1' c2' _ false (K3.out _ ?hb).2.1 HY.out.1 (K3.out _ ?hb).2.2 HY.out.2.1 HY.out.2.2.1 HY.out.2.2.2 h2) ?_
         case hb => exact P1.out
         rintro e w2 ⟨rfl, hb2⟩
         have P2 : Hid (Below w.heap.size w w2) := P1.out.trans (hb2.mono P1.out.size)
         have z2 : w.heap.size + 2 ≤ w2.heap.size := by have := hb2.size; omega
         have D2 : Hid (w2.heap[w.heap.size]? = some (.cells #[.int .i64 h.k, .int .i64 h.n, .string h.t, .slice a1 h.keys.length c1, .slice a2 sub.len c2] 30 (0, 0))) := (hb2.block _ (by omega)).trans D1.out
         have E2 : Hid (w2.heap[w.heap.size + 1]? = some (.cells #[.int .i64 h'.k, .int .i64 h'.n, .string h'.t, .slice a1' h'.keys.length c1', .slice a2' sub'.len c2'] 30 (0, 0))) := (hb2.block _ (by omega)).trans E1.out
         have d2 := fun o => row_cell D2.out o
         have e2 := fun o => row_cell E2.out o
         clear hb2))
    all_goals
      go_wp2_with fail
      go_ret
      exact ⟨by rw [HN.out]; rfl, P2.out⟩
  · have HN : Hid (sameO h sub h' sub' = ((outT h sub).toList == (outT h' sub').toList)) := by unfold Hid sameO; rw [h1, h2]; rfl
    go_enter Try.func11, Try.ntmps11
    go_wp2_with fail
    generalize ((w.alloc (.cells #[.int .i64 h.k, .int .i64 h.n, .string h.t, .slice a1 h.keys.length c1, .slice a2 sub.len c2] 30)).alloc (.cells #[.int .i64 h'.k, .int .i64 h'.n, .string h'.t, .slice a1' h'.keys.length c1', .slice a2' sub'.len c2'] 30)) = W at *
    go_region_with (first
      | (go_at_call_of 7 sub
         refine Calls.mono (out_is h sub a1 a2 c1 c2 _ true (K3.out _ ?hb).1.1 HX.out.1 (K3.out _ ?hb).1.2 HX.out.2.1 HX.out.2.2.1 HX.out.2.2.2 h1) ?_
         case hb => exact P0.out.drew
         rintro e w1 ⟨rfl, hb1⟩
         have P1 : Hid (Below w.heap.size w w1) := P0.out.drew.trans (hb1.mono (by have : W.drew.heap.size = W.heap.size := rfl; omega))
         have z1 : w.heap.size + 2 ≤ w1.heap.size := by have := hb1.size; have : W.drew.heap.size = W.heap.size := rfl; omega
         have D1 : Hid (w1.heap[w.heap.size]? = some (.cells #[.int .i64 h.k, .int .i64 h.n, .string h.t, .slice a1 h.keys.length c1, .slice a2 sub.len c2] 30 (0, 0))) := (hb1.block _ (show w.heap.size < W.heap.size by omega)).trans C0.out
         have E1 : Hid (w1.heap[w.heap.size + 1]? = some (.cells #[.int .i64 h'.k, .int .i64 h'.n, .string h'.t, .slice a1' h'.keys.length c1', .slice a2' sub'.len c2'] 30 (0, 0))) := (hb1.block _ (show w.heap.size + 1 < W.heap.size by omega)).trans E0.out
         have d1 := fun o => row_cell D1.out o
         have e1 := fun o => row_cell E1.out o
         clear hb1)
      | (go_at_call_of 7 sub'
         refine Calls.mono (out_is h' sub' a1' a2' c1' c2' _ true (K3.out _ ?hb).2.1 HY.out.1 (K3.out _ ?hb).2.2 HY.out.2.1 HY.out.2.2.1 HY.out.2.2.2 h2) ?_
         case hb => exact P1.out
         rintro e w2 ⟨rfl, hb2⟩
         have P2 : Hid (Below w.heap.size w w2) := P1.out.trans (hb2.mono P1.out.size)
         have z2 : w.heap.size + 2 ≤ w2.heap.size := by have := hb2.size; omega
         have D2 : Hid (w2.heap[w.heap.size]? = some (.cells #[.int .i64 h.k, .int .i64 h.n, .string h.t, .slice a1 h.keys.length c1, .slice a2 sub.len c2] 30 (0, 0))) := (hb2.block _ (by omega)).trans D1.out
         have E2 : Hid (w2.heap[w.heap.size + 1]? = some (.cells #[.int .i64 h'.k, .int .i64 h'.n, .string h'.t, .slice a1' h'.keys.length c1', .slice a2' sub'.len c2'] 30 (0, 0))) := (hb2.block _ (by omega)).trans E1.out
         have d2 := fun o => row_cell D2.out o
         have e2 := fun o => row_cell E2.out o
         clear hb2)
      | (go_at_call_of 25 sub
         refine Calls.mono (spec_text 20 (by omega) h sub a1 a2 c1 c2 _ (K3.out _ ?hb).1.1 (K3.out _ ?hb).1.2 h1) ?_
         case hb => exact P2.out
         rintro e w3 ⟨rfl, hb3⟩
         have P3 : Hid (Below w.heap.size w w3) := P2.out.trans (hb3.mono P2.out.size)
         have z3 : w.heap.size + 2 ≤ w3.heap.size := by have := hb3.size; omega
         have E3 : Hid (w3.heap[w.heap.size + 1]? = some (.cells #[.int .i64 h'.k, .int .i64 h'.n, .string h'.t, .slice a1' h'.keys.length c1', .slice a2' sub'.len c2'] 30 (0, 0))) := (hb3.block _ (by omega)).trans E2.out
         have e3 := fun o => row_cell E3.out o
         clear hb3)
      | (go_at_call_of 25 sub'
         refine Calls.mono (spec_text 20 (by omega) h' sub' a1' a2' c1' c2' _ (K3.out _ ?hb).2.1 (K3.out _ ?hb).2.2 h2) ?_
         case hb => exact P3.out
         rintro e w4 ⟨rfl, hb4⟩
         have P4 : Hid (Below w.heap.size w w4) := P3.out.trans (hb4.mono P3.out.size)
         clear hb4))
    all_goals
      go_wp2_with fail
      go_ret
      exact ⟨by rw [HN.out]; rfl, P4.out⟩
end Go.Proofs.Ytjmkcbjfjejaaaa.G
