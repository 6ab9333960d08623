/- Marks in a run. -/
import Derived.Test.YtnkaoeijcdchiaaGreatDoorRunRows
import Derived.Test.YtnkaoeijcdchiaaGreatDoorOuRows
import Derived.Deep.CutBlock
import Derived.Deep.CutRange
import Derived.Test.YtnkaoeijcdchiaaGreatDoorDocMath
namespace Go.Proofs.YtnkaoeijcdchiaaGreatDoor.G
open Go.ChangeShapes Go.WideShapes Go.ChangeAt Go.RowKit
set_option linter.unusedVariables false

set_option maxHeartbeats 4000000 in
set_option maxRecDepth 40000 in
theorem to_run (r : Rn) (p : RnA) (w : World) (hr : RunRow 0 w.heap.size w p r) (hb : RnBd 1048576 r) :
    Calls Tryz.prog 9 #[.agg #[.int .i64 r.need, .slice p.ra r.rs.length p.rc, .slice p.wa r.ws.length p.wc, .int .i64 r.h.k, .int .i64 r.h.n, .string r.h.t, .slice p.a1 r.h.keys.length p.c1, .slice p.a2 r.sub.len p.c2, .slice p.ea r.es.length p.ec]] w fun e w' => ∃ q : RnA, e = .returned (.agg #[.int .i64 r.need, .slice q.ra r.rs.length r.rs.length, .slice q.wa r.ws.length r.ws.length, .int .i64 r.h.k, .int .i64 r.h.n, .string r.h.t, .slice q.a1 r.h.keys.length r.h.keys.length, .slice q.a2 r.sub.len r.sub.len, .slice q.ea r.es.length r.es.length]) ∧ RunOwn w.heap.size w'.heap.size w' q r ∧ Below w.heap.size w w' := by
  obtain ⟨V, hV⟩ : ∃ V, V = ((w.alloc (.cells #[.int .i64 r.need, .slice p.ra r.rs.length p.rc, .slice p.wa r.ws.length p.wc, .int .i64 r.h.k, .int .i64 r.h.n, .string r.h.t, .slice p.a1 r.h.keys.length p.c1, .slice p.a2 r.sub.len p.c2, .slice p.ea r.es.length p.ec] 32)).alloc (.cells #[.int .i64 0, .slice none 0 0, .slice none 0 0, .int .i64 0, .int .i64 0, .string ⟨#[]⟩, .slice none 0 0, .slice none 0 0, .slice none 0 0] 46)).alloc (.cells #[.int .i64 0, .slice none 0 0, .slice none 0 0, .int .i64 0, .int .i64 0, .string ⟨#[]⟩, .slice none 0 0, .slice none 0 0, .slice none 0 0] 46) := ⟨_, rfl⟩
  have B0 : Below w.heap.size w V := by
    rw [hV]
    repeat (first | exact Below.refl _ _ | refine Below.alloc ?_ (by first | omega | (simp <;> omega)) _)
  have zV : V.heap.size = w.heap.size + 1 + 1 + 1 := by rw [hV]; simp
  have k0 : V.heap[w.heap.size]? = some (.cells #[.int .i64 r.need, .slice p.ra r.rs.length p.rc, .slice p.wa r.ws.length p.wc, .int .i64 r.h.k, .int .i64 r.h.n, .string r.h.t, .slice p.a1 r.h.keys.length p.c1, .slice p.a2 r.sub.len p.c2, .slice p.ea r.es.length p.ec] 32 (0, 0)) := by
    rw [hV, Below.heap_alloc _ _ _ (by simp <;> omega), Below.heap_alloc _ _ _ (by simp)]; exact heap_alloc_new _ _
  have k1 : V.heap[w.heap.size + 1]? = some (.cells #[.int .i64 0, .slice none 0 0, .slice none 0 0, .int .i64 0, .int .i64 0, .string ⟨#[]⟩, .slice none 0 0, .slice none 0 0, .slice none 0 0] 46 (0, 0)) := by
    rw [hV, Below.heap_alloc _ _ _ (by simp)]
    have := heap_alloc_new (w.alloc (.cells #[.int .i64 r.need, .slice p.ra r.rs.length p.rc, .slice p.wa r.ws.length p.wc, .int .i64 r.h.k, .int .i64 r.h.n, .string r.h.t, .slice p.a1 r.h.keys.length p.c1, .slice p.a2 r.sub.len p.c2, .slice p.ea r.es.length p.ec] 32)) (.cells #[.int .i64 0, .slice none 0 0, .slice none 0 0, .int .i64 0, .int .i64 0, .string ⟨#[]⟩, .slice none 0 0, .slice none 0 0, .slice none 0 0] 46)
    simpa using this
  have k2 : V.heap[w.heap.size + 1 + 1]? = some (.cells #[.int .i64 0, .slice none 0 0, .slice none 0 0, .int .i64 0, .int .i64 0, .string ⟨#[]⟩, .slice none 0 0, .slice none 0 0, .slice none 0 0] 46 (0, 0)) := by
    rw [hV]
    have := heap_alloc_new ((w.alloc (.cells #[.int .i64 r.need, .slice p.ra r.rs.length p.rc, .slice p.wa r.ws.length p.wc, .int .i64 r.h.k, .int .i64 r.h.n, .string r.h.t, .slice p.a1 r.h.keys.length p.c1, .slice p.a2 r.sub.len p.c2, .slice p.ea r.es.length p.ec] 32)).alloc (.cells #[.int .i64 0, .slice none 0 0, .slice none 0 0, .int .i64 0, .int .i64 0, .string ⟨#[]⟩, .slice none 0 0, .slice none 0 0, .slice none 0 0] 46)) (.cells #[.int .i64 0, .slice none 0 0, .slice none 0 0, .int .i64 0, .int .i64 0, .string ⟨#[]⟩, .slice none 0 0, .slice none 0 0, .slice none 0 0] 46)
    simpa using this
  obtain ⟨A, hA⟩ : ∃ A, A = w.heap.size := ⟨_, rfl⟩
  obtain ⟨R, hR⟩ : ∃ R, R = w.heap.size + 1 := ⟨_, rfl⟩
  obtain ⟨Y, hY⟩ : ∃ Y, Y = w.heap.size + 1 + 1 := ⟨_, rfl⟩
  rw [← hA] at k0
  rw [← hR] at k1
  rw [← hY] at k2
  have HR : Hid _ := hr
  have HD : Hid _ := hb
  have KA : Hid (∀ W, Below w.heap.size w W → RunRow 0 W.heap.size W p r) := fun W hW => hr.up hW
  have x0 := fun o => row_cell k0 o
  have x2 := fun o => row_cell k2 o
  have f2 := fun o => row_frozen k2 o
  have HK : Hid (V.heap[A]? = some (.cells #[.int .i64 r.need, .slice p.ra r.rs.length p.rc, .slice p.wa r.ws.length p.wc, .int .i64 r.h.k, .int .i64 r.h.n, .string r.h.t, .slice p.a1 r.h.keys.length p.c1, .slice p.a2 r.sub.len p.c2, .slice p.ea r.es.length p.ec] 32 (0, 0)) ∧ V.heap[R]? = some (.cells #[.int .i64 0, .slice none 0 0, .slice none 0 0, .int .i64 0, .int .i64 0, .string ⟨#[]⟩, .slice none 0 0, .slice none 0 0, .slice none 0 0] 46 (0, 0)) ∧ V.heap[Y]? = some (.cells #[.int .i64 0, .slice none 0 0, .slice none 0 0, .int .i64 0, .int .i64 0, .string ⟨#[]⟩, .slice none 0 0, .slice none 0 0, .slice none 0 0] 46 (0, 0)) ∧ Below w.heap.size w V) := ⟨k0, k1, k2, B0⟩
  clear hr hb k0 k1 k2 B0
  go_enter Tryz.func9, Tryz.ntmps9
  go_upto_region 2 with fail
  rw [← hV, ← hY, ← hR, ← hA]
  clear hV
  have pl : w.heap.size = A ∧ R = A + 1 ∧ Y = A + 2 ∧ V.heap.size = A + 3 := by omega
  obtain ⟨pA, pR, pY, pV⟩ := pl
  have HPL : Hid (w.heap.size = A ∧ R = A + 1 ∧ Y = A + 2 ∧ V.heap.size = A + 3) := ⟨pA, pR, pY, pV⟩
  clear pA pR pY pV hA hR hY zV
  obtain ⟨V1, hV1⟩ : ∃ x : World, x = V.setCell ⟨Y, 0, none⟩ (.int .i64 r.need) := ⟨_, rfl⟩
  have HK1 : Hid (V1.heap[A]? = some (.cells #[.int .i64 r.need, .slice p.ra r.rs.length p.rc, .slice p.wa r.ws.length p.wc, .int .i64 r.h.k, .int .i64 r.h.n, .string r.h.t, .slice p.a1 r.h.keys.length p.c1, .slice p.a2 r.sub.len p.c2, .slice p.ea r.es.length p.ec] 32 (0, 0)) ∧ V1.heap[R]? = some (.cells #[.int .i64 0, .slice none 0 0, .slice none 0 0, .int .i64 0, .int .i64 0, .string ⟨#[]⟩, .slice none 0 0, .slice none 0 0, .slice none 0 0] 46 (0, 0)) ∧ V1.heap[Y]? = some (.cells #[.int .i64 r.need, .slice none 0 0, .slice none 0 0, .int .i64 0, .int .i64 0, .string ⟨#[]⟩, .slice none 0 0, .slice none 0 0, .slice none 0 0] 46 (0, 0)) ∧ Below w.heap.size w V1 ∧ V1.heap.size = A + 3) := by
    obtain ⟨g1, g2, g3, g4⟩ := HK.out
    obtain ⟨pA, pR, pY, pV⟩ := HPL.out
    rw [Hid, hV1]
    refine ⟨(heap_set _ _ _ _ _ (by omega)).trans g1, (heap_set _ _ _ _ _ (by omega)).trans g2, ?_, g4.setCell (by show w.heap.size ≤ Y; omega) _, by simpa using pV⟩
    have := row_set g3 0 (.int .i64 r.need)
    simpa using this
  go_upto_region 3 with fail
  rw [← hV1]
  clear hV1 x0 x2 f2 HK
  have x0 := fun o => row_cell HK1.out.1 o
  go_wp2_with fail
  refine (to_nums p.ra p.rc r.rs _ (KA.out _ HK1.out.2.2.2.1).1 HD.out.1).mono ?_
  rintro e W2 ⟨rfl, oq, bq⟩
  obtain ⟨b1, hb1⟩ : ∃ x, x = V1.heap.size := ⟨_, rfl⟩
  rw [← hb1] at oq
  have zq := bq.size
  have O2 : Hid (NuOwn V1.heap.size W2.heap.size W2 (some ⟨b1, 0, none⟩) r.rs) := by rw [← hb1]; exact oq
  obtain ⟨V2, hV2⟩ : ∃ x : World, x = (W2.setCell ⟨Y, 1, none⟩ (.slice (some ⟨b1, 0, none⟩) r.rs.length r.rs.length)) := ⟨_, rfl⟩
  have HK2 : Hid (V2.heap[A]? = some (.cells #[.int .i64 r.need, .slice p.ra r.rs.length p.rc, .slice p.wa r.ws.length p.wc, .int .i64 r.h.k, .int .i64 r.h.n, .string r.h.t, .slice p.a1 r.h.keys.length p.c1, .slice p.a2 r.sub.len p.c2, .slice p.ea r.es.length p.ec] 32 (0, 0)) ∧ V2.heap[R]? = some (.cells #[.int .i64 0, .slice none 0 0, .slice none 0 0, .int .i64 0, .int .i64 0, .string ⟨#[]⟩, .slice none 0 0, .slice none 0 0, .slice none 0 0] 46 (0, 0)) ∧ V2.heap[Y]? = some (.cells #[.int .i64 r.need, .slice (some ⟨b1, 0, none⟩) r.rs.length r.rs.length, .slice none 0 0, .int .i64 0, .int .i64 0, .string ⟨#[]⟩, .slice none 0 0, .slice none 0 0, .slice none 0 0] 46 (0, 0)) ∧ Below w.heap.size w V2 ∧ V2.heap.size = W2.heap.size ∧ (∀ g, A + 3 ≤ g → V2.heap[g]? = W2.heap[g]?)) := by
    have hs := HK1.out
    obtain ⟨pA, pR, pY, pV⟩ := HPL.out
    have hz : A + 3 ≤ V1.heap.size := by omega
    have c3 := (bq.block Y (by omega)).trans hs.2.2.1
    rw [Hid, hV2]
    refine ⟨?_, ?_, ?_, ?_, by simp, fun g hg => ?_⟩
    · repeat rw [heap_set _ _ _ _ _ (by omega)]
      exact (bq.block A (by omega)).trans hs.1
    · repeat rw [heap_set _ _ _ _ _ (by omega)]
      exact (bq.block R (by omega)).trans hs.2.1
    · have := row_set c3 1 (.slice (some ⟨b1, 0, none⟩) r.rs.length r.rs.length)
      simpa using this
    · repeat (refine Below.setCell ?_ (by first | omega | (simp <;> omega)) _)
      exact hs.2.2.2.1.trans (bq.mono (by have := hs.2.2.2.1.size; omega))
    · repeat rw [heap_set _ _ _ _ _ (by omega)]
  have ZZ2 : Hid (A + 3 ≤ V2.heap.size) := by have h1 := HK2.out.2.2.2.2.1; have hz : A + 3 ≤ V1.heap.size := (Nat.le_of_eq HK1.out.2.2.2.2.symm); unfold Hid; omega
  have x2 := fun o => row_cell ((bq.block Y (by have hz : A + 3 ≤ V1.heap.size := (Nat.le_of_eq HK1.out.2.2.2.2.symm); have h3 := HPL.out.2.2.1; omega)).trans HK1.out.2.2.1) o
  have f2 := fun o => row_frozen ((bq.block Y (by have hz : A + 3 ≤ V1.heap.size := (Nat.le_of_eq HK1.out.2.2.2.2.symm); have h3 := HPL.out.2.2.1; omega)).trans HK1.out.2.2.1) o
  have BQ2 : Hid (Below V1.heap.size V1 W2) := bq
  clear x0 oq zq bq
  go_upto_region 4 with fail
  rw [← hb1, ← hV2]
  clear hV2 x2 f2 hb1
  have x0 := fun o => row_cell HK2.out.1 o
  go_wp2_with fail
  refine (to_Pus p.wa p.wc r.ws _ (KA.out _ HK2.out.2.2.2.1).2.1 HD.out.2.1).mono ?_
  rintro e W3 ⟨rfl, oq, bq⟩
  obtain ⟨b2, hb2⟩ : ∃ x, x = V2.heap.size := ⟨_, rfl⟩
  rw [← hb2] at oq
  have zq := bq.size
  have O3 : Hid (RwOwn V2.heap.size W3.heap.size W3 (some ⟨b2, 0, none⟩) r.ws) := by rw [← hb2]; exact .inr ⟨b2, rfl, Nat.le_refl _, PuBlk.lt oq, oq⟩
  obtain ⟨V3, hV3⟩ : ∃ x : World, x = (W3.setCell ⟨Y, 2, none⟩ (.slice (some ⟨b2, 0, none⟩) r.ws.length r.ws.length)) := ⟨_, rfl⟩
  have HK3 : Hid (V3.heap[A]? = some (.cells #[.int .i64 r.need, .slice p.ra r.rs.length p.rc, .slice p.wa r.ws.length p.wc, .int .i64 r.h.k, .int .i64 r.h.n, .string r.h.t, .slice p.a1 r.h.keys.length p.c1, .slice p.a2 r.sub.len p.c2, .slice p.ea r.es.length p.ec] 32 (0, 0)) ∧ V3.heap[R]? = some (.cells #[.int .i64 0, .slice none 0 0, .slice none 0 0, .int .i64 0, .int .i64 0, .string ⟨#[]⟩, .slice none 0 0, .slice none 0 0, .slice none 0 0] 46 (0, 0)) ∧ V3.heap[Y]? = some (.cells #[.int .i64 r.need, .slice (some ⟨b1, 0, none⟩) r.rs.length r.rs.length, .slice (some ⟨b2, 0, none⟩) r.ws.length r.ws.length, .int .i64 0, .int .i64 0, .string ⟨#[]⟩, .slice none 0 0, .slice none 0 0, .slice none 0 0] 46 (0, 0)) ∧ Below w.heap.size w V3 ∧ V3.heap.size = W3.heap.size ∧ (∀ g, A + 3 ≤ g → V3.heap[g]? = W3.heap[g]?)) := by
    have hs := HK2.out
    obtain ⟨pA, pR, pY, pV⟩ := HPL.out
    have hz : A + 3 ≤ V2.heap.size := ZZ2.out
    have c3 := (bq.block Y (by omega)).trans hs.2.2.1
    rw [Hid, hV3]
    refine ⟨?_, ?_, ?_, ?_, by simp, fun g hg => ?_⟩
    · repeat rw [heap_set _ _ _ _ _ (by omega)]
      exact (bq.block A (by omega)).trans hs.1
    · repeat rw [heap_set _ _ _ _ _ (by omega)]
      exact (bq.block R (by omega)).trans hs.2.1
    · have := row_set c3 2 (.slice (some ⟨b2, 0, none⟩) r.ws.length r.ws.length)
      simpa using this
    · repeat (refine Below.setCell ?_ (by first | omega | (simp <;> omega)) _)
      exact hs.2.2.2.1.trans (bq.mono (by have := hs.2.2.2.1.size; omega))
    · repeat rw [heap_set _ _ _ _ _ (by omega)]
  have ZZ3 : Hid (A + 3 ≤ V3.heap.size) := by have h1 := HK3.out.2.2.2.2.1; have hz : A + 3 ≤ V2.heap.size := ZZ2.out; unfold Hid; omega
  have x2 := fun o => row_cell ((bq.block Y (by have hz : A + 3 ≤ V2.heap.size := ZZ2.out; have h3 := HPL.out.2.2.1; omega)).trans HK2.out.2.2.1) o
  have f2 := fun o => row_frozen ((bq.block Y (by have hz : A + 3 ≤ V2.heap.size := ZZ2.out; have h3 := HPL.out.2.2.1; omega)).trans HK2.out.2.2.1) o
  have BQ3 : Hid (Below V2.heap.size V2 W3) := bq
  clear x0 oq zq bq
  go_upto_region 5 with fail
  rw [← hb2, ← hV3]
  clear hV3 x2 f2 hb2
  have x0 := fun o => row_cell HK3.out.1 o
  go_wp2_with fail
  refine (to_out_o r.h r.sub (to_ous_o r.sub) p.a1 p.a2 p.c1 p.c2 _ (KA.out _ HK3.out.2.2.2.1).2.2.1 (KA.out _ HK3.out.2.2.2.1).2.2.2.1 HD.out.2.2.1.1 HD.out.2.2.1.2.1 HD.out.2.2.1.2.2).mono ?_
  rintro e W4 ⟨b3, b4, rfl, oq, bq⟩
  have zq := bq.size
  have O4 : Hid (PartsO V3.heap.size W4.heap.size W4 b3 b4 r.h r.sub) := by exact oq
  obtain ⟨V4, hV4⟩ : ∃ x : World, x = (((((W4.setCell ⟨Y, 3, none⟩ (.int .i64 r.h.k)).setCell ⟨Y, 4, none⟩ (.int .i64 r.h.n)).setCell ⟨Y, 5, none⟩ (.string r.h.t)).setCell ⟨Y, 6, none⟩ (.slice b3 r.h.keys.length r.h.keys.length)).setCell ⟨Y, 7, none⟩ (.slice b4 r.sub.len r.sub.len)) := ⟨_, rfl⟩
  have HK4 : Hid (V4.heap[A]? = some (.cells #[.int .i64 r.need, .slice p.ra r.rs.length p.rc, .slice p.wa r.ws.length p.wc, .int .i64 r.h.k, .int .i64 r.h.n, .string r.h.t, .slice p.a1 r.h.keys.length p.c1, .slice p.a2 r.sub.len p.c2, .slice p.ea r.es.length p.ec] 32 (0, 0)) ∧ V4.heap[R]? = some (.cells #[.int .i64 0, .slice none 0 0, .slice none 0 0, .int .i64 0, .int .i64 0, .string ⟨#[]⟩, .slice none 0 0, .slice none 0 0, .slice none 0 0] 46 (0, 0)) ∧ V4.heap[Y]? = some (.cells #[.int .i64 r.need, .slice (some ⟨b1, 0, none⟩) r.rs.length r.rs.length, .slice (some ⟨b2, 0, none⟩) r.ws.length r.ws.length, .int .i64 r.h.k, .int .i64 r.h.n, .string r.h.t, .slice b3 r.h.keys.length r.h.keys.length, .slice b4 r.sub.len r.sub.len, .slice none 0 0] 46 (0, 0)) ∧ Below w.heap.size w V4 ∧ V4.heap.size = W4.heap.size ∧ (∀ g, A + 3 ≤ g → V4.heap[g]? = W4.heap[g]?)) := by
    have hs := HK3.out
    obtain ⟨pA, pR, pY, pV⟩ := HPL.out
    have hz : A + 3 ≤ V3.heap.size := ZZ3.out
    have c3 := (bq.block Y (by omega)).trans hs.2.2.1
    rw [Hid, hV4]
    refine ⟨?_, ?_, ?_, ?_, by simp, fun g hg => ?_⟩
    · repeat rw [heap_set _ _ _ _ _ (by omega)]
      exact (bq.block A (by omega)).trans hs.1
    · repeat rw [heap_set _ _ _ _ _ (by omega)]
      exact (bq.block R (by omega)).trans hs.2.1
    · have := row_set (row_set (row_set (row_set (row_set c3 3 (.int .i64 r.h.k)) 4 (.int .i64 r.h.n)) 5 (.string r.h.t)) 6 (.slice b3 r.h.keys.length r.h.keys.length)) 7 (.slice b4 r.sub.len r.sub.len)
      simpa using this
    · repeat (refine Below.setCell ?_ (by first | omega | (simp <;> omega)) _)
      exact hs.2.2.2.1.trans (bq.mono (by have := hs.2.2.2.1.size; omega))
    · repeat rw [heap_set _ _ _ _ _ (by omega)]
  have ZZ4 : Hid (A + 3 ≤ V4.heap.size) := by have h1 := HK4.out.2.2.2.2.1; have hz : A + 3 ≤ V3.heap.size := ZZ3.out; unfold Hid; omega
  have x2 := fun o => row_cell ((bq.block Y (by have hz : A + 3 ≤ V3.heap.size := ZZ3.out; have h3 := HPL.out.2.2.1; omega)).trans HK3.out.2.2.1) o
  have f2 := fun o => row_frozen ((bq.block Y (by have hz : A + 3 ≤ V3.heap.size := ZZ3.out; have h3 := HPL.out.2.2.1; omega)).trans HK3.out.2.2.1) o
  have BQ4 : Hid (Below V3.heap.size V3 W4) := bq
  clear x0 oq zq bq
  go_upto_region 6 with fail
  rw [← hV4]
  clear hV4 x2 f2
  have x0 := fun o => row_cell HK4.out.1 o
  go_wp2_with fail
  refine (to_keys_o p.ea p.ec r.es _ (KA.out _ HK4.out.2.2.2.1).2.2.2.2 HD.out.2.2.2.1).mono ?_
  rintro e W5 ⟨b5, rfl, oq, bq⟩
  have zq := bq.size
  have O5 : Hid (KeOwn V4.heap.size W5.heap.size W5 b5 r.es) := by exact oq
  obtain ⟨V5, hV5⟩ : ∃ x : World, x = (W5.setCell ⟨Y, 8, none⟩ (.slice b5 r.es.length r.es.length)) := ⟨_, rfl⟩
  have HK5 : Hid (V5.heap[A]? = some (.cells #[.int .i64 r.need, .slice p.ra r.rs.length p.rc, .slice p.wa r.ws.length p.wc, .int .i64 r.h.k, .int .i64 r.h.n, .string r.h.t, .slice p.a1 r.h.keys.length p.c1, .slice p.a2 r.sub.len p.c2, .slice p.ea r.es.length p.ec] 32 (0, 0)) ∧ V5.heap[R]? = some (.cells #[.int .i64 0, .slice none 0 0, .slice none 0 0, .int .i64 0, .int .i64 0, .string ⟨#[]⟩, .slice none 0 0, .slice none 0 0, .slice none 0 0] 46 (0, 0)) ∧ V5.heap[Y]? = some (.cells #[.int .i64 r.need, .slice (some ⟨b1, 0, none⟩) r.rs.length r.rs.length, .slice (some ⟨b2, 0, none⟩) r.ws.length r.ws.length, .int .i64 r.h.k, .int .i64 r.h.n, .string r.h.t, .slice b3 r.h.keys.length r.h.keys.length, .slice b4 r.sub.len r.sub.len, .slice b5 r.es.length r.es.length] 46 (0, 0)) ∧ Below w.heap.size w V5 ∧ V5.heap.size = W5.heap.size ∧ (∀ g, A + 3 ≤ g → V5.heap[g]? = W5.heap[g]?)) := by
    have hs := HK4.out
    obtain ⟨pA, pR, pY, pV⟩ := HPL.out
    have hz : A + 3 ≤ V4.heap.size := ZZ4.out
    have c3 := (bq.block Y (by omega)).trans hs.2.2.1
    rw [Hid, hV5]
    refine ⟨?_, ?_, ?_, ?_, by simp, fun g hg => ?_⟩
    · repeat rw [heap_set _ _ _ _ _ (by omega)]
      exact (bq.block A (by omega)).trans hs.1
    · repeat rw [heap_set _ _ _ _ _ (by omega)]
      exact (bq.block R (by omega)).trans hs.2.1
    · have := row_set c3 8 (.slice b5 r.es.length r.es.length)
      simpa using this
    · repeat (refine Below.setCell ?_ (by first | omega | (simp <;> omega)) _)
      exact hs.2.2.2.1.trans (bq.mono (by have := hs.2.2.2.1.size; omega))
    · repeat rw [heap_set _ _ _ _ _ (by omega)]
  have ZZ5 : Hid (A + 3 ≤ V5.heap.size) := by have h1 := HK5.out.2.2.2.2.1; have hz : A + 3 ≤ V4.heap.size := ZZ4.out; unfold Hid; omega
  have x2 := fun o => row_cell ((bq.block Y (by have hz : A + 3 ≤ V4.heap.size := ZZ4.out; have h3 := HPL.out.2.2.1; omega)).trans HK4.out.2.2.1) o
  have f2 := fun o => row_frozen ((bq.block Y (by have hz : A + 3 ≤ V4.heap.size := ZZ4.out; have h3 := HPL.out.2.2.1; omega)).trans HK4.out.2.2.1) o
  have BQ5 : Hid (Below V4.heap.size V4 W5) := bq
  clear x0 oq zq bq
  go_upto_region 7 with fail
  rw [← hV5]
  clear hV5 x2 f2
  have x2 := fun o => row_cell HK5.out.2.2.1 o
  have x1 := fun o => row_cell HK5.out.2.1 o
  have f1 := fun o => row_frozen HK5.out.2.1 o
  go_wp2_with fail
  refine bodyPost_ret (v := .agg #[.int .i64 r.need, .slice (some ⟨b1, 0, none⟩) r.rs.length r.rs.length, .slice (some ⟨b2, 0, none⟩) r.ws.length r.ws.length, .int .i64 r.h.k, .int .i64 r.h.n, .string r.h.t, .slice b3 r.h.keys.length r.h.keys.length, .slice b4 r.sub.len r.sub.len, .slice b5 r.es.length r.es.length]) (by simp [results, Tryz.results9, go_sem, x1]) rfl ⟨⟨some ⟨b1, 0, none⟩, r.rs.length, some ⟨b2, 0, none⟩, r.ws.length, b3, r.h.keys.length, b4, r.sub.len, b5, r.es.length⟩, rfl, ?_, ?_⟩
  · obtain ⟨pA, pR, pY, pV⟩ := HPL.out
    have s1 : V1.heap.size = A + 3 := HK1.out.2.2.2.2
    have s2 := HK2.out.2.2.2.2.1
    have s3 := HK3.out.2.2.2.2.1
    have s4 := HK4.out.2.2.2.2.1
    have s5 := HK5.out.2.2.2.2.1
    have t2 := BQ2.out.size
    have t3 := BQ3.out.size
    have t4 := BQ4.out.size
    have t5 := BQ5.out.size
    have A2 : ∀ g, A + 3 ≤ g → g < V2.heap.size → V5.heap[g]? = W2.heap[g]? := fun g h1 h2 => by
      rw [HK5.out.2.2.2.2.2 g h1, BQ5.out.block g (by omega), HK4.out.2.2.2.2.2 g h1, BQ4.out.block g (by omega), HK3.out.2.2.2.2.2 g h1, BQ3.out.block g (by omega), HK2.out.2.2.2.2.2 g h1]
    have A3 : ∀ g, A + 3 ≤ g → g < V3.heap.size → V5.heap[g]? = W3.heap[g]? := fun g h1 h2 => by
      rw [HK5.out.2.2.2.2.2 g h1, BQ5.out.block g (by omega), HK4.out.2.2.2.2.2 g h1, BQ4.out.block g (by omega), HK3.out.2.2.2.2.2 g h1]
    have A4 : ∀ g, A + 3 ≤ g → g < V4.heap.size → V5.heap[g]? = W4.heap[g]? := fun g h1 h2 => by
      rw [HK5.out.2.2.2.2.2 g h1, BQ5.out.block g (by omega), HK4.out.2.2.2.2.2 g h1]
    have FIN : ∀ W : World, W.heap.size = V5.heap.size → (∀ g, A + 3 ≤ g → W.heap[g]? = V5.heap[g]?) → RunOwn w.heap.size W.heap.size W ⟨some ⟨b1, 0, none⟩, r.rs.length, some ⟨b2, 0, none⟩, r.ws.length, b3, r.h.keys.length, b4, r.sub.len, b5, r.es.length⟩ r := fun W hz hg => by
      refine ⟨V2.heap.size, V3.heap.size, V4.heap.size, by omega, by omega, by omega, by omega, ?_, ?_, ?_, ?_⟩
      · refine NuOwn.wide (NuOwn.keep (w := W2) (lo := V1.heap.size) (hi := W2.heap.size) O2.out (fun g h1 h2 => (hg g (by omega)).trans (A2 g (by omega) (by omega)))) (by omega) (by omega)
      · have q := RwOwn.keep (w := W3) (lo := V2.heap.size) (hi := W3.heap.size) O3.out (fun g h1 h2 => (hg g (by omega)).trans (A3 g (by omega) (by omega)))
        rw [s3]; exact q
      · have q := PartsO.keep (w := W4) (lo := V3.heap.size) (hi := W4.heap.size) O4.out (fun g h1 h2 => (hg g (by omega)).trans (A4 g (by omega) (by omega)))
        rw [s4]; exact q
      · have q := OwnR.keep (w := W5) (lo := V4.heap.size) (hi := W5.heap.size) O5.out (fun g h1 h2 => (hg g (by omega)).trans (HK5.out.2.2.2.2.2 g (by omega)))
        rw [hz, s5]; exact q
    refine FIN _ (by simp) (fun g hg => ?_)
    repeat rw [heap_set _ _ _ _ _ (by omega)]
  · obtain ⟨pA, pR, pY, pV⟩ := HPL.out
    repeat (refine Below.setCell ?_ (by first | omega | (simp <;> omega)) _)
    exact HK5.out.2.2.2.1
end Go.Proofs.YtnkaoeijcdchiaaGreatDoor.G
namespace Go.Proofs.YtnkaoeijcdchiaaGreatDoor.G
open Go.ChangeShapes Go.WideShapes Go.ChangeAt Go.RowKit
set_option linter.unusedVariables false

set_option maxHeartbeats 1000000 in
theorem eq_keys (a a' : Option Addr) (c c' : Nat) (l : List ByteArray) (w : World) (hr : KeRow 0 w.heap.size w a l) (hr' : KeRow 0 w.heap.size w a' l) (hl : l.length ≤ 1048576) :
    Calls Tryz.prog 38 #[.slice a l.length c, .slice a' l.length c'] w fun e w' => e = .returned (.bool true) ∧ Below w.heap.size w w' := by
  have HR : Hid _ := hr
  have HR' : Hid _ := hr'
  clear hr hr'
  go_enter Tryz.func38, Tryz.ntmps38
  go_wp2_with fail
  go_loopw [5] (fun i w' => ∃ (k q : Nat), k ≤ l.length ∧ i = .int .i64 k ∧ w' = w.drewN q) (fun i _ => l.length - (intOf i).toNat)
  case atStart => exact ⟨0, 0, by omega, rfl, rfl⟩
  case round =>
    obtain ⟨k, q, hk, rfl, rfl⟩ := hrel
    by_cases hlt : k < l.length
    · obtain ⟨b, o, ha, _, hbl, d0⟩ := KeRow.cells HR.out k hlt
      obtain ⟨b', o', ha', _, hbl', d1⟩ := KeRow.cells HR'.out k hlt
      subst ha ha'
      have hlt' : (k : Int) < l.length := by omega
      go_wp2_with fail
      go_quiet (fail)
      go_wp2_with fail
      exact ⟨⟨k + 1, q + nq, by omega, by go_num, by simp⟩, by simp [intOf]; omega⟩
    · go_wp2_with fail
      go_ret
      refine ⟨rfl, ?_⟩
      exact ⟨rfl, rfl, rfl, Nat.le_refl _, fun _ _ => rfl⟩
def EqOus (l : Ous) : Prop := ∀ (a a' : Option Addr) (c c' : Nat) (w : World), OuRow 0 w.heap.size w a l → OuRow 0 w.heap.size w a' l → l.len ≤ 1048576 → OusBd 1048576 l →
    Calls Tryz.prog 70 #[.slice a l.len c, .slice a' l.len c'] w fun e w' => e = .returned (.bool true) ∧ Below w.heap.size w w'
set_option maxHeartbeats 1000000 in
theorem eq_out (h : Oh) (sub : Ous) (ih : EqOus sub) (a1 a2 b1 b2 : Option Addr) (c1 c2 d1 d2 : Nat) (w : World) (r1 : KeRow 0 w.heap.size w a1 h.keys) (r2 : OuRow 0 w.heap.size w a2 sub) (s1 : KeRow 0 w.heap.size w b1 h.keys) (s2 : OuRow 0 w.heap.size w b2 sub)
    (hb : OhBd 1048576 h) (hl : sub.len ≤ 1048576) (hs : OusBd 1048576 sub) :
    Calls Tryz.prog 37 #[.agg #[.int .i64 h.k, .int .i64 h.n, .string h.t, .slice a1 h.keys.length c1, .slice a2 sub.len c2], .agg #[.int .i64 h.k, .int .i64 h.n, .string h.t, .slice b1 h.keys.length d1, .slice b2 sub.len d2]] w fun e w' => e = .returned (.bool true) ∧ Below w.heap.size w w' := by
  obtain ⟨x1, x2, x3⟩ := hb
  obtain ⟨V, hV⟩ : ∃ V, V = (w.alloc (.cells #[.int .i64 h.k, .int .i64 h.n, .string h.t, .slice a1 h.keys.length c1, .slice a2 sub.len c2] 44)).alloc (.cells #[.int .i64 h.k, .int .i64 h.n, .string h.t, .slice b1 h.keys.length d1, .slice b2 sub.len d2] 44) := ⟨_, rfl⟩
  have bV : Below w.heap.size w V := by
    rw [hV]
    repeat (first | exact Below.refl _ _ | refine Below.alloc ?_ (by first | omega | (simp <;> omega)) _)
  have zV : w.heap.size + 2 ≤ V.heap.size := by rw [hV]; simp
  have c0 : V.heap[w.heap.size]? = some (.cells #[.int .i64 h.k, .int .i64 h.n, .string h.t, .slice a1 h.keys.length c1, .slice a2 sub.len c2] 44 (0, 0)) := by
    rw [hV, Below.heap_alloc _ _ _ (by simp)]; exact heap_alloc_new _ _
  have c9 : V.heap[w.heap.size + 1]? = some (.cells #[.int .i64 h.k, .int .i64 h.n, .string h.t, .slice b1 h.keys.length d1, .slice b2 sub.len d2] 44 (0, 0)) := by
    rw [hV]
    have := heap_alloc_new (w.alloc (.cells #[.int .i64 h.k, .int .i64 h.n, .string h.t, .slice a1 h.keys.length c1, .slice a2 sub.len c2] 44)) (.cells #[.int .i64 h.k, .int .i64 h.n, .string h.t, .slice b1 h.keys.length d1, .slice b2 sub.len d2] 44)
    simpa using this
  have KV : Hid (∀ W, Below V.heap.size V W → W.heap[w.heap.size]? = some (.cells #[.int .i64 h.k, .int .i64 h.n, .string h.t, .slice a1 h.keys.length c1, .slice a2 sub.len c2] 44 (0, 0)) ∧ W.heap[w.heap.size + 1]? = some (.cells #[.int .i64 h.k, .int .i64 h.n, .string h.t, .slice b1 h.keys.length d1, .slice b2 sub.len d2] 44 (0, 0)) ∧ KeRow 0 W.heap.size W a1 h.keys ∧ OuRow 0 W.heap.size W a2 sub ∧ KeRow 0 W.heap.size W b1 h.keys ∧ OuRow 0 W.heap.size W b2 sub ∧ Below w.heap.size w W) := fun W hW =>
    have hw := bV.trans (hW.mono (by omega))
    ⟨(hW.block _ (by omega)).trans c0, (hW.block _ (by omega)).trans c9, KeRow.up r1 hw, OuRow.up r2 hw, KeRow.up s1 hw, OuRow.up s2 hw, hw⟩
  have HI : Hid _ := ih
  have HS : Hid _ := hs
  have y0 := fun o => row_cell c0 o
  have y1 := fun o => row_cell c9 o
  clear r1 r2 s1 s2 ih hs c0 c9 bV x3
  go_enter Tryz.func37, Tryz.ntmps37
  go_upto_region 1 with fail
  rw [← hV]
  clear hV
  have T0 := KV.out _ (Below.refl _ _)
  go_wp2_with fail
  refine (eq_keys a1 b1 c1 d1 h.keys _ T0.2.2.1 T0.2.2.2.2.1 x2).mono ?_
  clear T0
  rintro e w1 ⟨rfl, hb1⟩
  have Q1 : Hid _ := hb1
  have T1 := KV.out _ hb1
  clear hb1 y0 y1
  have y0 := fun o => row_cell T1.1 o
  have y1 := fun o => row_cell T1.2.1 o
  have TT : Hid _ := T1.2.2.2.1
  have TU : Hid _ := T1.2.2.2.2.2.1
  clear T1
  go_wp2_with fail
  refine (HI.out a2 b2 c2 d2 _ TT.out TU.out hl HS.out).mono ?_
  rintro e w2 ⟨rfl, hb2⟩
  have Q2 : Hid (Below w.heap.size w w2) := (KV.out _ (Q1.out.trans (hb2.mono Q1.out.size))).2.2.2.2.2.2
  clear hb2 y0 y1
  go_wp2_with fail
  go_ret
  exact ⟨rfl, Q2.out⟩
set_option maxHeartbeats 2000000 in
theorem eq_ous (l : Ous) : EqOus l := by
  induction hN : l.size using Nat.strongRecOn generalizing l with
  | _ N ih =>
  subst hN
  intro a a' c c' w hr hr' hl hbd
  have IH : Hid (∀ sub : Ous, sub.size < l.size → EqOus sub) := fun sub hsub => ih sub.size hsub sub rfl
  have HR : Hid (OuFrom 0 w.heap.size w a 0 l) := hr.from_
  have HR' : Hid (OuFrom 0 w.heap.size w a' 0 l) := hr'.from_
  have HB : Hid (OusBd 1048576 l) := hbd
  clear hr hr' ih hbd
  go_enter Tryz.func70, Tryz.ntmps70
  go_wp2_with fail
  go_loopw [5] (fun i w' => ∃ (k : Nat) (rest : Ous), Hid (l.len = k + rest.len) ∧ i = .int .i64 k ∧ Below w.heap.size w w' ∧ Hid (rest.size ≤ l.size) ∧ Hid (OusBd 1048576 rest) ∧ Hid (OuFrom 0 w.heap.size w a k rest) ∧ Hid (OuFrom 0 w.heap.size w a' k rest)) (fun i _ => l.len - (intOf i).toNat)
  case atStart => exact ⟨0, l, by simp [Hid], rfl, Below.refl _ _, Nat.le_refl _, HB, HR, HR'⟩
  case round =>
    obtain ⟨wo, rfl⟩ : ∃ x, x = wr := ⟨_, rfl⟩
    obtain ⟨k, rest, HK, rfl, hb, HZ, HD, HF, HF'⟩ := hrel
    cases rest with
    | nil =>
      have hk' : ¬ k < l.len := by rw [HK.out]; simp only [Ous.len]; omega
      go_wp2_with fail
      go_ret
      exact ⟨rfl, hb⟩
    | cons h sub rest =>
      have hlt : k < l.len := by rw [HK.out]; simp only [Ous.len]; omega
      have hlt' : (k : Int) < l.len := by omega
      have HK2 : Hid (l.len = k + 1 + rest.len) := by rw [Hid, HK.out]; simp only [Ous.len]; omega
      obtain ⟨b, o, a1, c1, a2, c2, ha, _, hbl, d0, d1, d2, d3, d4, _, r1, r2, _⟩ := OuFrom.step (OuFrom.keep HF.out (agree hb (Nat.le_refl _)))
      obtain ⟨b', o', b1, e1, b2, e2, ha', _, hbl', f0, f1, f2, f3, f4, _, s1, s2, _⟩ := OuFrom.step (OuFrom.keep HF'.out (agree hb (Nat.le_refl _)))
      have HF2 : Hid (OuFrom 0 w.heap.size w a (k + 1) rest) := by
        obtain ⟨_, _, _, _, _, _, _, _, _, _, _, _, _, _, _, _, _, rf9⟩ := OuFrom.step HF.out
        exact rf9
      have HF2' : Hid (OuFrom 0 w.heap.size w a' (k + 1) rest) := by
        obtain ⟨_, _, _, _, _, _, _, _, _, _, _, _, _, _, _, _, _, rf9⟩ := OuFrom.step HF'.out
        exact rf9
      subst ha
      subst ha'
      have R1 : Hid (KeRow 0 wo.drew.heap.size wo.drew a1 h.keys) := KeRow.wide r1 (Nat.le_refl _) hb.size
      have R2 : Hid (OuRow 0 wo.drew.heap.size wo.drew a2 sub) := OuRow.wide (OuRow.keep r2 (fun g _ _ => rfl)) (Nat.le_refl _) hb.size
      have S1 : Hid (KeRow 0 wo.drew.heap.size wo.drew b1 h.keys) := KeRow.wide s1 (Nat.le_refl _) hb.size
      have S2 : Hid (OuRow 0 wo.drew.heap.size wo.drew b2 sub) := OuRow.wide (OuRow.keep s2 (fun g _ _ => rfl)) (Nat.le_refl _) hb.size
      obtain ⟨g1, g2, g3, g4⟩ := HD.out
      have E1 : Hid (OhBd 1048576 h) := g1
      have E2 : Hid (sub.len ≤ 1048576) := g2
      have E3 : Hid (OusBd 1048576 sub) := g3
      have E4 : Hid (OusBd 1048576 rest) := g4
      have HZ2 : Hid (rest.size ≤ l.size) := by have := HZ.out; simp only [Ous.size] at this; unfold Hid; omega
      have IS : Hid (EqOus sub) := IH.out sub (by have := HZ.out; simp only [Ous.size] at this; omega)
      clear r1 r2 s1 s2 g1 g2 g3 g4
      go_wp2_with fail
      go_region_with (go_at_call 37; refine (eq_out h sub IS.out a1 a2 b1 b2 c1 c2 e1 e2 _ R1.out R2.out S1.out S2.out E1.out E2.out E3.out).mono ?_; rintro e w1 ⟨rfl, hb1⟩)
      all_goals
        go_wp2_with fail
        exact ⟨⟨k + 1, rest, HK2, by go_num, hb.drew.trans (hb1.mono hb.size), HZ2, E4, HF2, HF2'⟩, by simp [intOf]; omega⟩
end Go.Proofs.YtnkaoeijcdchiaaGreatDoor.G
namespace Go.Proofs.YtnkaoeijcdchiaaGreatDoor.G
open Go.ChangeShapes Go.WideShapes Go.ChangeAt Go.RowKit
set_option linter.unusedVariables false

set_option maxHeartbeats 2000000 in
theorem eq_run (r : Rn) (p q : RnA) (w : World) (hr : RunRow 0 w.heap.size w p r) (hr' : RunRow 0 w.heap.size w q r) (hb : RnBd 1048576 r) :
    Calls Tryz.prog 12 #[.agg #[.int .i64 r.need, .slice p.ra r.rs.length p.rc, .slice p.wa r.ws.length p.wc, .int .i64 r.h.k, .int .i64 r.h.n, .string r.h.t, .slice p.a1 r.h.keys.length p.c1, .slice p.a2 r.sub.len p.c2, .slice p.ea r.es.length p.ec], .agg #[.int .i64 r.need, .slice q.ra r.rs.length q.rc, .slice q.wa r.ws.length q.wc, .int .i64 r.h.k, .int .i64 r.h.n, .string r.h.t, .slice q.a1 r.h.keys.length q.c1, .slice q.a2 r.sub.len q.c2, .slice q.ea r.es.length q.ec]] w fun e w' => e = .returned (.bool true) ∧ Below w.heap.size w w' := by
  obtain ⟨V, hV⟩ : ∃ V, V = (w.alloc (.cells #[.int .i64 r.need, .slice p.ra r.rs.length p.rc, .slice p.wa r.ws.length p.wc, .int .i64 r.h.k, .int .i64 r.h.n, .string r.h.t, .slice p.a1 r.h.keys.length p.c1, .slice p.a2 r.sub.len p.c2, .slice p.ea r.es.length p.ec] 46)).alloc (.cells #[.int .i64 r.need, .slice q.ra r.rs.length q.rc, .slice q.wa r.ws.length q.wc, .int .i64 r.h.k, .int .i64 r.h.n, .string r.h.t, .slice q.a1 r.h.keys.length q.c1, .slice q.a2 r.sub.len q.c2, .slice q.ea r.es.length q.ec] 46) := ⟨_, rfl⟩
  have bV : Below w.heap.size w V := by
    rw [hV]
    repeat (first | exact Below.refl _ _ | refine Below.alloc ?_ (by first | omega | (simp <;> omega)) _)
  have c0 : V.heap[w.heap.size]? = some (.cells #[.int .i64 r.need, .slice p.ra r.rs.length p.rc, .slice p.wa r.ws.length p.wc, .int .i64 r.h.k, .int .i64 r.h.n, .string r.h.t, .slice p.a1 r.h.keys.length p.c1, .slice p.a2 r.sub.len p.c2, .slice p.ea r.es.length p.ec] 46 (0, 0)) := by
    rw [hV, Below.heap_alloc _ _ _ (by simp)]; exact heap_alloc_new _ _
  have c9 : V.heap[w.heap.size + 1]? = some (.cells #[.int .i64 r.need, .slice q.ra r.rs.length q.rc, .slice q.wa r.ws.length q.wc, .int .i64 r.h.k, .int .i64 r.h.n, .string r.h.t, .slice q.a1 r.h.keys.length q.c1, .slice q.a2 r.sub.len q.c2, .slice q.ea r.es.length q.ec] 46 (0, 0)) := by
    rw [hV]
    have := heap_alloc_new (w.alloc (.cells #[.int .i64 r.need, .slice p.ra r.rs.length p.rc, .slice p.wa r.ws.length p.wc, .int .i64 r.h.k, .int .i64 r.h.n, .string r.h.t, .slice p.a1 r.h.keys.length p.c1, .slice p.a2 r.sub.len p.c2, .slice p.ea r.es.length p.ec] 46)) (.cells #[.int .i64 r.need, .slice q.ra r.rs.length q.rc, .slice q.wa r.ws.length q.wc, .int .i64 r.h.k, .int .i64 r.h.n, .string r.h.t, .slice q.a1 r.h.keys.length q.c1, .slice q.a2 r.sub.len q.c2, .slice q.ea r.es.length q.ec] 46)
    simpa using this
  have z0 := (Array.getElem?_eq_some_iff.1 c0).1
  have z9 := (Array.getElem?_eq_some_iff.1 c9).1
  have KV : Hid (∀ W, Below V.heap.size V W → W.heap[w.heap.size]? = some (.cells #[.int .i64 r.need, .slice p.ra r.rs.length p.rc, .slice p.wa r.ws.length p.wc, .int .i64 r.h.k, .int .i64 r.h.n, .string r.h.t, .slice p.a1 r.h.keys.length p.c1, .slice p.a2 r.sub.len p.c2, .slice p.ea r.es.length p.ec] 46 (0, 0)) ∧ W.heap[w.heap.size + 1]? = some (.cells #[.int .i64 r.need, .slice q.ra r.rs.length q.rc, .slice q.wa r.ws.length q.wc, .int .i64 r.h.k, .int .i64 r.h.n, .string r.h.t, .slice q.a1 r.h.keys.length q.c1, .slice q.a2 r.sub.len q.c2, .slice q.ea r.es.length q.ec] 46 (0, 0)) ∧ RunRow 0 W.heap.size W p r ∧ RunRow 0 W.heap.size W q r ∧ Below w.heap.size w W) := fun W hW =>
    have hw := bV.trans (hW.mono bV.size)
    ⟨(hW.block _ z0).trans c0, (hW.block _ z9).trans c9, hr.up hw, hr'.up hw, hw⟩
  have HD : Hid _ := hb
  have y0 := fun o => row_cell c0 o
  have y1 := fun o => row_cell c9 o
  clear hr hr' hb c0 c9 bV z0 z9
  go_enter Tryz.func12, Tryz.ntmps12
  go_upto_region 1 with fail
  rw [← hV]
  clear hV
  have T0 : Hid _ := KV.out _ (Below.refl _ _)
  go_wp2_with fail
  refine (eq_nums p.ra q.ra p.rc q.rc r.rs _ T0.out.2.2.1.1 T0.out.2.2.2.1.1 HD.out.1).mono ?_
  rintro e w1 ⟨rfl, hb1⟩
  have Q1 : Hid _ := hb1
  have T1 : Hid _ := KV.out _ hb1
  clear hb1 y0 y1 T0
  have y0 := fun o => row_cell T1.out.1 o
  have y1 := fun o => row_cell T1.out.2.1 o
  go_wp2_with fail
  refine (eq_Pus p.wa q.wa p.wc q.wc r.ws _ T1.out.2.2.1.2.1 T1.out.2.2.2.1.2.1 HD.out.2.1).mono ?_
  rintro e w2 ⟨rfl, hb2⟩
  have Q2 : Hid (Below V.heap.size V w2) := Q1.out.trans (hb2.mono Q1.out.size)
  have T2 : Hid _ := KV.out _ Q2.out
  clear hb2 y0 y1 T1 Q1
  have y0 := fun o => row_cell T2.out.1 o
  have y1 := fun o => row_cell T2.out.2.1 o
  go_wp2_with fail
  refine (eq_out r.h r.sub (eq_ous r.sub) p.a1 p.a2 q.a1 q.a2 p.c1 p.c2 q.c1 q.c2 _ T2.out.2.2.1.2.2.1 T2.out.2.2.1.2.2.2.1 T2.out.2.2.2.1.2.2.1 T2.out.2.2.2.1.2.2.2.1 HD.out.2.2.1.1 HD.out.2.2.1.2.1 HD.out.2.2.1.2.2).mono ?_
  rintro e w3 ⟨rfl, hb3⟩
  have Q3 : Hid (Below V.heap.size V w3) := Q2.out.trans (hb3.mono Q2.out.size)
  have T3 : Hid _ := KV.out _ Q3.out
  clear hb3 y0 y1 T2 Q2
  have y0 := fun o => row_cell T3.out.1 o
  have y1 := fun o => row_cell T3.out.2.1 o
  go_wp2_with fail
  refine (eq_keys p.ea q.ea p.ec q.ec r.es _ T3.out.2.2.1.2.2.2.2 T3.out.2.2.2.1.2.2.2.2 HD.out.2.2.2.1).mono ?_
  rintro e w4 ⟨rfl, hb4⟩
  have Q4 : Hid (Below w.heap.size w w4) := (KV.out _ (Q3.out.trans (hb4.mono Q3.out.size))).2.2.2.2
  clear hb4 y0 y1 T3 Q3
  go_wp2_with fail
  go_ret
  exact ⟨rfl, Q4.out⟩
end Go.Proofs.YtnkaoeijcdchiaaGreatDoor.G
namespace Go.Proofs.YtnkaoeijcdchiaaGreatDoor.G
open Go.ChangeShapes Go.WideShapes Go.ChangeAt Go.RowKit
set_option linter.unusedVariables false

theorem mark_ints0 (a : Option Addr) (c : Nat) (K : Int) (w : World) : Calls Tryz.prog 43 #[.slice a 0 c, .int .i64 K] w fun e w' => e = .returned (.int .i64 K) ∧ w' = w := by
  go_enter Tryz.func43, Tryz.ntmps43
  go_wp2_with fail
  go_loop [1, 5] (fun s i => s = .int .i64 K ∧ i = .int .i64 0) (fun _ _ => 0)
  case atStart => exact ⟨rfl, rfl⟩
  case round =>
    obtain ⟨rfl, rfl⟩ := hrel
    go_wp2_with fail
    go_ret
    exact ⟨rfl, rfl⟩
theorem keptS_R {lo hi : Nat} {w w' : World} (h : KeptS lo hi w w') : KeptR lo hi w w' := ⟨h.os, h.tape, h.output, h.size, fun k h1 h2 => h.block k h1 (by omega)⟩
theorem KeptR.more {lo hi lo' hi' : Nat} {w w' : World} (h : KeptR lo hi w w') (h1 : lo' ≤ lo) (h2 : hi ≤ hi') : KeptR lo' hi' w w' := ⟨h.os, h.tape, h.output, h.size, fun k a b => h.block k a (by omega)⟩
theorem KeptR.then {lo hi : Nat} {w w1 w2 : World} (h : KeptR lo hi w w1) (g : KeptR lo hi w1 w2) : KeptR lo hi w w2 := ⟨g.os.trans h.os, g.tape.trans h.tape, g.output.trans h.output, Nat.le_trans h.size g.size, fun k a b => (g.block k (Nat.lt_of_lt_of_le a h.size) b).trans (h.block k a b)⟩
theorem mark_readsR (a : Option Addr) (c : Nat) (x : List Int) (lo hi : Nat) (K : Int) (w : World) (ho : NuOwn lo hi w a x) (hl : x.length ≤ 1048576) (h0 : 0 ≤ K) (h1 : K ≤ 4398046511104) :
    Calls Tryz.prog 43 #[.slice a x.length c, .int .i64 K] w fun e w' => ∃ r : Int, e = .returned (.int .i64 r) ∧ r = K + x.length ∧ KeptR lo hi w w' := by
  rcases ho with rfl | ⟨g, cs, rfl, h2, h3, h4, h5, h6⟩
  · refine (mark_ints0 a c K w).mono ?_
    rintro e w' ⟨rfl, rfl⟩
    exact ⟨K, rfl, by simp, KeptR.refl _ _ _⟩
  · refine (mark_nums (some ⟨g, 0, none⟩) c x g (g + 1) K w (.inr ⟨g, cs, rfl, Nat.le_refl _, Nat.lt_succ_self _, h4, h5, h6⟩) hl h0 h1).mono ?_
    rintro e w' ⟨r, rfl, hr, hm, hk⟩
    exact ⟨r, rfl, hr, (keptS_R hk).more h2 (by omega)⟩
theorem mark_writesR (a : Option Addr) (c : Nat) (x : List Ve) (lo hi : Nat) (K : Int) (w : World) (ho : RwOwn lo hi w a x) (hl : x.length ≤ 1048576) (h0 : 0 ≤ K) (h1 : K ≤ 4398046511104) :
    Calls Tryz.prog 18 #[.slice a x.length c, .int .i64 K] w fun e w' => ∃ r : Int, e = .returned (.int .i64 r) ∧ r = K + 2 * x.length ∧ KeptR lo hi w w' := by
  rcases ho with rfl | ⟨g, rfl, h2, h3, h4⟩
  · refine (mark_Pus0 a c K w).mono ?_
    rintro e w' ⟨rfl, rfl⟩
    exact ⟨K, rfl, by simp, KeptR.refl _ _ _⟩
  · refine (mark_Pus g c x K w h4 hl h0 h1).mono ?_
    rintro e w' ⟨r, rfl, hr, hm, hk⟩
    exact ⟨r, rfl, hr, (keptS_R hk).more h2 (by omega)⟩
set_option maxHeartbeats 2000000 in
theorem mark_run (r : Rn) (p : RnA) (lo hi : Nat) (K : Int) (w : World) (ho : RunOwn lo hi w p r) (hhi : hi ≤ w.heap.size) (hb : RnSm r) (h0 : 0 < K) (h1 : K ≤ 4294967296) :
    Calls Tryz.prog 17 #[.agg #[.int .i64 r.need, .slice p.ra r.rs.length p.rc, .slice p.wa r.ws.length p.wc, .int .i64 r.h.k, .int .i64 r.h.n, .string r.h.t, .slice p.a1 r.h.keys.length p.c1, .slice p.a2 r.sub.len p.c2, .slice p.ea r.es.length p.ec], .int .i64 K] w fun e w' => ∃ m : Int, e = .returned (.int .i64 m) ∧ 0 < m ∧ KeptR lo hi w w' := by
  obtain ⟨V, hV⟩ : ∃ V, V = w.alloc (.cells #[.int .i64 r.need, .slice p.ra r.rs.length p.rc, .slice p.wa r.ws.length p.wc, .int .i64 r.h.k, .int .i64 r.h.n, .string r.h.t, .slice p.a1 r.h.keys.length p.c1, .slice p.a2 r.sub.len p.c2, .slice p.ea r.es.length p.ec] 46) := ⟨_, rfl⟩
  have bV : Below w.heap.size w V := by rw [hV]; exact (Below.refl _ _).alloc (Nat.le_refl _) _
  have c0 : V.heap[w.heap.size]? = some (.cells #[.int .i64 r.need, .slice p.ra r.rs.length p.rc, .slice p.wa r.ws.length p.wc, .int .i64 r.h.k, .int .i64 r.h.n, .string r.h.t, .slice p.a1 r.h.keys.length p.c1, .slice p.a2 r.sub.len p.c2, .slice p.ea r.es.length p.ec] 46 (0, 0)) := by rw [hV]; exact heap_alloc_new _ _
  have z0 := (Array.getElem?_eq_some_iff.1 c0).1
  obtain ⟨m1, m2, m3, e1, e2, e3, e4, o1, o2, o3, o4⟩ := ho
  have ag : ∀ {x y : Nat}, y ≤ hi → Agree x y w V := fun hy g _ h2 => bV.block g (by omega)
  have O1 : Hid (NuOwn lo m1 V p.ra r.rs) := o1.keep (ag (by omega))
  have O2 : Hid (RwOwn m1 m2 V p.wa r.ws) := o2.keep (ag (by omega))
  have O3 : Hid (PartsO m2 m3 V p.a1 p.a2 r.h r.sub) := o3.keep (ag (by omega))
  have O4 : Hid (KeOwn m3 hi V p.ea r.es) := o4.keep (ag (by omega))
  have K0 : Hid (KeptR lo hi w V) := ⟨bV.os, bV.tape, bV.output, bV.size, fun k a _ => bV.block k a⟩
  have HB : Hid _ := hb
  have hzV := bV.size
  have hw2 := cO_w r.sub
  obtain ⟨hb1, hb2, hb3⟩ := hb
  have hes := len_sumW r.es
  have y0 := fun o => row_cell c0 o
  have C0 : Hid _ := c0
  have HW : Hid (cO r.sub ≤ 3 * wO r.sub ∧ r.h.keys.length + wO r.sub ≤ 1048576 ∧ r.es.length ≤ 1048576 ∧ r.rs.length ≤ 1048576 ∧ r.ws.length ≤ 1048576) := ⟨hw2, hb2, by omega, hb1.1, hb1.2.1⟩
  clear o1 o2 o3 o4 c0 bV hb1 hb2 hb3 hes hw2 ag
  go_enter Tryz.func17, Tryz.ntmps17
  go_upto_region 1 with fail
  rw [← hV]
  clear hV
  go_wp2_with fail
  refine (mark_readsR p.ra p.rc r.rs lo m1 K _ O1.out HB.out.1.1 (by omega) (by omega)).mono ?_
  rintro e w1 ⟨k1, rfl, hk1, q1⟩
  have K1 : Hid (KeptR lo hi w w1) := K0.out.then (q1.more (Nat.le_refl _) (by omega))
  have O2' : Hid (RwOwn m1 m2 w1 p.wa r.ws) := O2.out.keep fun g a b => q1.block g (by omega) (by omega)
  have O3' : Hid (PartsO m2 m3 w1 p.a1 p.a2 r.h r.sub) := O3.out.keep fun g a b => q1.block g (by omega) (by omega)
  have O4' : Hid (KeOwn m3 hi w1 p.ea r.es) := O4.out.keep fun g a b => q1.block g (by omega) (by omega)
  have C1 : Hid (w1.heap[w.heap.size]? = some (.cells #[.int .i64 r.need, .slice p.ra r.rs.length p.rc, .slice p.wa r.ws.length p.wc, .int .i64 r.h.k, .int .i64 r.h.n, .string r.h.t, .slice p.a1 r.h.keys.length p.c1, .slice p.a2 r.sub.len p.c2, .slice p.ea r.es.length p.ec] 46 (0, 0))) := (q1.block _ z0 (by omega)).trans C0.out
  have hz1 := q1.size
  have HK1 : Hid (k1 = K + r.rs.length) := hk1
  have hk1b : 0 < k1 ∧ k1 ≤ 4296015872 := by have := HW.out; omega
  clear q1 y0 C0 O1 O2 O3 O4 K0 hk1
  have y0 := fun o => row_cell C1.out o
  go_wp2_with fail
  refine (mark_writesR p.wa p.wc r.ws m1 m2 k1 _ O2'.out HB.out.1.2.1 (by omega) (by omega)).mono ?_
  rintro e w2 ⟨k2, rfl, hk2, q2⟩
  have K2 : Hid (KeptR lo hi w w2) := K1.out.then (q2.more (by omega) (by omega))
  have O3 : Hid (PartsO m2 m3 w2 p.a1 p.a2 r.h r.sub) := O3'.out.keep fun g a b => q2.block g (by omega) (by omega)
  have O4 : Hid (KeOwn m3 hi w2 p.ea r.es) := O4'.out.keep fun g a b => q2.block g (by omega) (by omega)
  have C2 : Hid (w2.heap[w.heap.size]? = some (.cells #[.int .i64 r.need, .slice p.ra r.rs.length p.rc, .slice p.wa r.ws.length p.wc, .int .i64 r.h.k, .int .i64 r.h.n, .string r.h.t, .slice p.a1 r.h.keys.length p.c1, .slice p.a2 r.sub.len p.c2, .slice p.ea r.es.length p.ec] 46 (0, 0))) := (q2.block _ (by omega) (by omega)).trans C1.out
  have hz2 := q2.size
  have hk2b : 0 < k2 ∧ k2 ≤ 4298113024 := by have := HW.out; omega
  clear q2 y0 C1 O2' O3' O4' K1 hk2
  have y0 := fun o => row_cell C2.out o
  obtain ⟨k2n, hk2n⟩ : ∃ x : Nat, k2 = (x : Int) := ⟨k2.toNat, by omega⟩
  subst hk2n
  go_wp2_with fail
  refine (mark_out r.h r.sub p.a1 p.a2 p.c1 p.c2 m2 m3 k2n _ O3.out (by omega) (by omega) (by have := HW.out; omega)).mono ?_
  rintro e w3 ⟨k3, rfl, hk3, _, q3⟩
  have K3 : Hid (KeptR lo hi w w3) := K2.out.then (q3.more (by omega) (by omega))
  have O4' : Hid (KeOwn m3 hi w3 p.ea r.es) := O4.out.keep fun g a b => q3.block g (by omega) (by omega)
  have C3 : Hid (w3.heap[w.heap.size]? = some (.cells #[.int .i64 r.need, .slice p.ra r.rs.length p.rc, .slice p.wa r.ws.length p.wc, .int .i64 r.h.k, .int .i64 r.h.n, .string r.h.t, .slice p.a1 r.h.keys.length p.c1, .slice p.a2 r.sub.len p.c2, .slice p.ea r.es.length p.ec] 46 (0, 0))) := (q3.block _ (by omega) (by omega)).trans C2.out
  have hz3 := q3.size
  have hk3b : 0 < k3 ∧ k3 ≤ 4306501632 := by have := HW.out; omega
  clear q3 y0 C2 O3 O4 K2 hk3
  have y0 := fun o => row_cell C3.out o
  obtain ⟨k3n, hk3n⟩ : ∃ x : Nat, k3 = (x : Int) := ⟨k3.toNat, by omega⟩
  subst hk3n
  go_wp2_with fail
  refine (mark_keys p.ea p.ec r.es m3 hi k3n k3n _ rfl O4'.out (by omega) (by omega) (by have := HW.out; omega)).mono ?_
  rintro e w4 ⟨k4, rfl, hk4, _, q4⟩
  have K4 : Hid (KeptR lo hi w w4) := K3.out.then (q4.more (by omega) (by omega))
  have hk4b : 0 < k4 := by omega
  clear q4 y0 C3 O4' K3 hk4
  go_wp2_with fail
  go_ret
  exact ⟨k4, rfl, hk4b, K4.out⟩
end Go.Proofs.YtnkaoeijcdchiaaGreatDoor.G
