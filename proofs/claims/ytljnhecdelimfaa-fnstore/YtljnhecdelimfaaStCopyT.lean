/- The program's copyStore. -/
import Derived.Test.YtljnhecdelimfaaStCopyS
import Derived.BigQuiet
namespace Go.Proofs.Ytljnhecdelimfaa.G
open Go.ChangeShapes Go.WideShapes Go.ChangeAt Go.RowKit
set_option linter.unusedVariables false

set_option maxHeartbeats 4000000 in
theorem impl_copyStore (a : Option Addr) (c : Nat) (l : Chs) (now : Int) (w : World) (hr : ChRow 0 w.heap.size w a l) (hbd : ChsBd 1048576 l) :
    Calls Try.prog 20 #[.agg #[.slice a l.length c, .int .i64 now]] w fun e w' =>
      ∃ g bs, e = .returned (.agg #[.slice (some ⟨g, 0, none⟩) l.length l.length, .int .i64 now]) ∧ StP w.heap.size w' g l bs ∧ Below w.heap.size w w' := by
  have HR : Hid (∀ W0, Below w.heap.size w W0 → ChRow 0 W0.heap.size W0 a l) := fun W0 hB => ChRow.up hr hB
  have HE : Hid _ := hbd
  clear hr hbd
  obtain ⟨V, hV⟩ : ∃ V, V = (w.alloc (.cells #[.slice a l.length c, .int .i64 now] 25)).alloc (.cells #[.slice none 0 0, .int .i64 0] 25) := ⟨_, rfl⟩
  have bV : Below w.heap.size w V := by
    rw [hV]
    repeat (first | exact Below.refl _ _ | refine Below.alloc ?_ (by first | omega | (simp <;> omega)) _)
  have zV : V.heap.size = w.heap.size + 2 := by rw [hV]; simp
  have c0 : V.heap[w.heap.size]? = some (.cells #[.slice a l.length c, .int .i64 now] 25 (0, 0)) := by
    rw [hV, Below.heap_alloc _ _ _ (by simp)]; exact heap_alloc_new _ _
  have c1 : V.heap[w.heap.size + 1]? = some (.cells #[.slice none 0 0, .int .i64 0] 25 (0, 0)) := by
    rw [hV]
    have := heap_alloc_new (w.alloc (.cells #[.slice a l.length c, .int .i64 now] 25)) (.cells #[.slice none 0 0, .int .i64 0] 25)
    simpa using this
  have KV : Hid (∀ W, Below V.heap.size V W → W.heap[w.heap.size]? = some (.cells #[.slice a l.length c, .int .i64 now] 25 (0, 0)) ∧ W.heap[w.heap.size + 1]? = some (.cells #[.slice none 0 0, .int .i64 0] 25 (0, 0)) ∧ Below w.heap.size w W) := fun W h =>
    ⟨(h.block _ (by omega)).trans c0, (h.block _ (by omega)).trans c1, bV.trans (h.mono (by omega))⟩
  have BV : Hid _ := bV
  have x0 := fun o => row_cell c0 o
  have x1 := fun o => row_cell c1 o
  have y1 := fun o => row_frozen c1 o
  clear c0 c1 bV
  go_enter Try.func20, Try.ntmps20
  go_wp2_with fail
  rw [← hV]
  clear hV
  go_region_with (go_at_call 45
                  refine Calls.mono (of_chains_copy a c l now _ (HR.out _ BV.out.drew) HE.out) ?_
                  rintro e w2 ⟨bs, rfl, p2, hb2⟩
                  have q2 : Hid (Below V.heap.size V w2) := (Below.refl _ _).drew.trans (hb2.mono (Nat.le_refl _))
                  have P2 : Hid (StP V.heap.size w2 (V.heap.size + 1) l bs) := p2
                  have z2 := hb2.size
                  have e0 := fun o => row_cell (KV.out _ q2.out).1 o
                  have e1 := fun o => row_cell (KV.out _ q2.out).2.1 o
                  have f1 := fun o => row_frozen (KV.out _ q2.out).2.1 o
                  clear p2 hb2)
  all_goals (try go_wp2_with fail)
  all_goals
    refine bodyPost_ret (v := .agg #[.slice (some ⟨V.heap.size + 1, 0, none⟩) l.length l.length, .int .i64 now]) (by simp [results, Try.results20, go_sem, e1]) rfl ⟨_, bs, rfl, ?_, ?_⟩
    · refine StP.low (StP.move P2.out (by simp) (fun k h1 h2 => ?_)) (by omega)
      repeat rw [heap_set _ _ _ _ _ (by omega)]
    · repeat (refine Below.setCell ?_ (by first | omega | (simp <;> omega)) _)
      exact (KV.out _ q2.out).2.2
end Go.Proofs.Ytljnhecdelimfaa.G
