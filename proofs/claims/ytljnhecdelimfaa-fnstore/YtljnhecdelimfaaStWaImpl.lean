/- The program's WriteAll: faults, and nothing of nothing. -/
import Derived.Test.YtljnhecdelimfaaStCopyT
import Derived.Test.YtljnhecdelimfaaStPutsOK
import Derived.Deep.CutBlock
import Derived.Deep.CutRange
namespace Go.Proofs.Ytljnhecdelimfaa.G
open Go.ChangeShapes Go.WideShapes Go.ChangeAt Go.RowKit
set_option linter.unusedVariables false

set_option maxHeartbeats 4000000 in
theorem impl_wa_long (a pa : Option Addr) (c pc : Nat) (l : Chs) (ps : List Ve) (now : Int) (w : World) (hr : ChRow 0 w.heap.size w a l) (hp : VeRow 0 w.heap.size w pa ps) (hbd : ChsBd 1048576 l) (hpl : ps.length ≤ 1048576) (h1 : 4096 < ps.length) :
    Calls Try.prog 6 #[.agg #[.slice a l.length c, .int .i64 now], .slice pa ps.length pc] w fun e w' => e = .returned (.tuple #[.agg #[.slice none 0 0, .int .i64 0], .int .i64 0, .int .i64 2]) ∧ Below w.heap.size w w' := by
  have HR : Hid (∀ W0, Below w.heap.size w W0 → ChRow 0 W0.heap.size W0 a l) := fun W0 hB => ChRow.up hr hB
  have HP : Hid (∀ W0, Below w.heap.size w W0 → VeRow 0 W0.heap.size W0 pa ps) := fun W0 hB => VeRow.up hp hB
  have HE : Hid _ := hbd
  clear hr hp hbd
  obtain ⟨V, hV⟩ : ∃ V, V = (w.alloc (.cells #[.slice a l.length c, .int .i64 now] 25)).alloc (.cells #[.slice none 0 0, .int .i64 0] 25) := ⟨_, rfl⟩
  have bV : Below w.heap.size w V := by
    rw [hV]
    repeat (first | exact Below.refl _ _ | refine Below.alloc ?_ (by first | omega | (simp <;> omega)) _)
  have zV : V.heap.size = w.heap.size + 2 := by rw [hV]; simp
  have c0 : V.heap[w.heap.size]? = some (.cells #[.slice a l.length c, .int .i64 now] 25 (0, 0)) := by
    rw [hV, Below.heap_alloc _ _ _ (by simp)]; exact heap_alloc_new _ _
  have c1 : V.heap[w.heap.size + 1]? = some (.cells #[.slice none 0 0, .int .i64 0] 25 (0, 0)) := by
    rw [hV]
    have := heap_alloc_new (w.alloc (.cells #[.slice a l.length c, .int .i64 now] 25)) (.cells #[.slice none 0 0, .int .i64 0] 25)
    simpa using this
  have KV : Hid (∀ W, Below V.heap.size V W → W.heap[w.heap.size]? = some (.cells #[.slice a l.length c, .int .i64 now] 25 (0, 0)) ∧ W.heap[w.heap.size + 1]? = some (.cells #[.slice none 0 0, .int .i64 0] 25 (0, 0)) ∧ Below w.heap.size w W) := fun W h =>
    ⟨(h.block _ (by omega)).trans c0, (h.block _ (by omega)).trans c1, bV.trans (h.mono (by omega))⟩
  have BV : Hid _ := bV
  have x0 := fun o => row_cell c0 o
  have x1 := fun o => row_cell c1 o
  have y1 := fun o => row_frozen c1 o
  clear c0 c1 bV
  go_enter Try.func6, Try.ntmps6
  go_upto_block 1 with fail
  rw [← hV]
  clear hV
  have h1' : (4096 : Int) < ps.length := by omega
  clear h1
  go_wp2_with fail
  refine bodyPost_ret (v := .tuple #[.agg #[.slice none 0 0, .int .i64 0], .int .i64 0, .int .i64 2]) (by simp [results, Try.results6, go_sem, x1]) rfl ⟨rfl, ?_⟩
  repeat (refine Below.setCell ?_ (by first | omega | (simp <;> omega)) _)
  exact (KV.out _ (Below.refl _ _)).2.2
set_option maxHeartbeats 4000000 in
theorem impl_wa_bad (a pa : Option Addr) (c pc : Nat) (l : Chs) (ps : List Ve) (now : Int) (w : World) (hr : ChRow 0 w.heap.size w a l) (hp : VeRow 0 w.heap.size w pa ps) (hbd : ChsBd 1048576 l) (hpl : ps.length ≤ 1048576) (h1 : ps.length ≤ 4096) (h2 : storeB l now = false) :
    Calls Try.prog 6 #[.agg #[.slice a l.length c, .int .i64 now], .slice pa ps.length pc] w fun e w' => e = .returned (.tuple #[.agg #[.slice none 0 0, .int .i64 0], .int .i64 0, .int .i64 1]) ∧ Below w.heap.size w w' := by
  have HR : Hid (∀ W0, Below w.heap.size w W0 → ChRow 0 W0.heap.size W0 a l) := fun W0 hB => ChRow.up hr hB
  have HP : Hid (∀ W0, Below w.heap.size w W0 → VeRow 0 W0.heap.size W0 pa ps) := fun W0 hB => VeRow.up hp hB
  have HE : Hid _ := hbd
  clear hr hp hbd
  obtain ⟨V, hV⟩ : ∃ V, V = (w.alloc (.cells #[.slice a l.length c, .int .i64 now] 25)).alloc (.cells #[.slice none 0 0, .int .i64 0] 25) := ⟨_, rfl⟩
  have bV : Below w.heap.size w V := by
    rw [hV]
    repeat (first | exact Below.refl _ _ | refine Below.alloc ?_ (by first | omega | (simp <;> omega)) _)
  have zV : V.heap.size = w.heap.size + 2 := by rw [hV]; simp
  have c0 : V.heap[w.heap.size]? = some (.cells #[.slice a l.length c, .int .i64 now] 25 (0, 0)) := by
    rw [hV, Below.heap_alloc _ _ _ (by simp)]; exact heap_alloc_new _ _
  have c1 : V.heap[w.heap.size + 1]? = some (.cells #[.slice none 0 0, .int .i64 0] 25 (0, 0)) := by
    rw [hV]
    have := heap_alloc_new (w.alloc (.cells #[.slice a l.length c, .int .i64 now] 25)) (.cells #[.slice none 0 0, .int .i64 0] 25)
    simpa using this
  have KV : Hid (∀ W, Below V.heap.size V W → W.heap[w.heap.size]? = some (.cells #[.slice a l.length c, .int .i64 now] 25 (0, 0)) ∧ W.heap[w.heap.size + 1]? = some (.cells #[.slice none 0 0, .int .i64 0] 25 (0, 0)) ∧ Below w.heap.size w W) := fun W h =>
    ⟨(h.block _ (by omega)).trans c0, (h.block _ (by omega)).trans c1, bV.trans (h.mono (by omega))⟩
  have BV : Hid _ := bV
  have x0 := fun o => row_cell c0 o
  have x1 := fun o => row_cell c1 o
  have y1 := fun o => row_frozen c1 o
  clear c0 c1 bV
  go_enter Try.func6, Try.ntmps6
  go_upto_block 1 with fail
  rw [← hV]
  clear hV
  have h1' : ¬ (4096 : Int) < ps.length := by omega
  clear h1
  have H2 : Hid _ := h2
  clear h2
  go_wp2_with fail
  refine (impl_storeOK a c l now _ (HR.out _ BV.out) HE.out).mono ?_
  rintro e w1 ⟨rfl, hb1⟩
  rw [H2.out]
  have q1 : Hid (Below V.heap.size V w1) := hb1
  have x1 := fun o => row_cell (KV.out _ q1.out).1 o
  have r1 := fun o => row_cell (KV.out _ q1.out).2.1 o
  have y1 := fun o => row_frozen (KV.out _ q1.out).2.1 o
  have z1 := hb1.size
  clear hb1
  clear x0
  go_wp2_with fail
  refine bodyPost_ret (v := .tuple #[.agg #[.slice none 0 0, .int .i64 0], .int .i64 0, .int .i64 1]) (by simp [results, Try.results6, go_sem, r1]) rfl ⟨rfl, ?_⟩
  repeat (refine Below.setCell ?_ (by first | omega | (simp <;> omega)) _)
  exact (KV.out _ q1.out).2.2
set_option maxHeartbeats 4000000 in
theorem impl_wa_range (a pa : Option Addr) (c pc : Nat) (l : Chs) (ps : List Ve) (now : Int) (w : World) (hr : ChRow 0 w.heap.size w a l) (hp : VeRow 0 w.heap.size w pa ps) (hbd : ChsBd 1048576 l) (hpl : ps.length ≤ 1048576) (h1 : ps.length ≤ 4096) (h2 : storeB l now = true) (h3 : putsB ps = false) :
    Calls Try.prog 6 #[.agg #[.slice a l.length c, .int .i64 now], .slice pa ps.length pc] w fun e w' => e = .returned (.tuple #[.agg #[.slice none 0 0, .int .i64 0], .int .i64 0, .int .i64 4]) ∧ Below w.heap.size w w' := by
  have HR : Hid (∀ W0, Below w.heap.size w W0 → ChRow 0 W0.heap.size W0 a l) := fun W0 hB => ChRow.up hr hB
  have HP : Hid (∀ W0, Below w.heap.size w W0 → VeRow 0 W0.heap.size W0 pa ps) := fun W0 hB => VeRow.up hp hB
  have HE : Hid _ := hbd
  clear hr hp hbd
  obtain ⟨V, hV⟩ : ∃ V, V = (w.alloc (.cells #[.slice a l.length c, .int .i64 now] 25)).alloc (.cells #[.slice none 0 0, .int .i64 0] 25) := ⟨_, rfl⟩
  have bV : Below w.heap.size w V := by
    rw [hV]
    repeat (first | exact Below.refl _ _ | refine Below.alloc ?_ (by first | omega | (simp <;> omega)) _)
  have zV : V.heap.size = w.heap.size + 2 := by rw [hV]; simp
  have c0 : V.heap[w.heap.size]? = some (.cells #[.slice a l.length c, .int .i64 now] 25 (0, 0)) := by
    rw [hV, Below.heap_alloc _ _ _ (by simp)]; exact heap_alloc_new _ _
  have c1 : V.heap[w.heap.size + 1]? = some (.cells #[.slice none 0 0, .int .i64 0] 25 (0, 0)) := by
    rw [hV]
    have := heap_alloc_new (w.alloc (.cells #[.slice a l.length c, .int .i64 now] 25)) (.cells #[.slice none 0 0, .int .i64 0] 25)
    simpa using this
  have KV : Hid (∀ W, Below V.heap.size V W → W.heap[w.heap.size]? = some (.cells #[.slice a l.length c, .int .i64 now] 25 (0, 0)) ∧ W.heap[w.heap.size + 1]? = some (.cells #[.slice none 0 0, .int .i64 0] 25 (0, 0)) ∧ Below w.heap.size w W) := fun W h =>
    ⟨(h.block _ (by omega)).trans c0, (h.block _ (by omega)).trans c1, bV.trans (h.mono (by omega))⟩
  have BV : Hid _ := bV
  have x0 := fun o => row_cell c0 o
  have x1 := fun o => row_cell c1 o
  have y1 := fun o => row_frozen c1 o
  clear c0 c1 bV
  go_enter Try.func6, Try.ntmps6
  go_upto_block 1 with fail
  rw [← hV]
  clear hV
  have h1' : ¬ (4096 : Int) < ps.length := by omega
  clear h1
  have H2 : Hid _ := h2
  have H3 : Hid _ := h3
  clear h2 h3
  go_wp2_with fail
  refine (impl_storeOK a c l now _ (HR.out _ BV.out) HE.out).mono ?_
  rintro e w1 ⟨rfl, hb1⟩
  rw [H2.out]
  have q1 : Hid (Below V.heap.size V w1) := hb1
  have x1 := fun o => row_cell (KV.out _ q1.out).1 o
  have r1 := fun o => row_cell (KV.out _ q1.out).2.1 o
  have y1 := fun o => row_frozen (KV.out _ q1.out).2.1 o
  have z1 := hb1.size
  clear hb1
  go_wp2_with fail
  refine (impl_putsOK pa pc ps _ (HP.out _ (KV.out _ q1.out).2.2) hpl).mono ?_
  rintro e w2 ⟨rfl, hb2⟩
  rw [H3.out]
  have q2 : Hid (Below V.heap.size V w2) := q1.out.trans (hb2.mono (by omega))
  have x2 := fun o => row_cell (KV.out _ q2.out).1 o
  have r2 := fun o => row_cell (KV.out _ q2.out).2.1 o
  have y2 := fun o => row_frozen (KV.out _ q2.out).2.1 o
  have z2 := hb2.size
  clear hb2
  clear x0
  go_wp2_with fail
  refine bodyPost_ret (v := .tuple #[.agg #[.slice none 0 0, .int .i64 0], .int .i64 0, .int .i64 4]) (by simp [results, Try.results6, go_sem, r2]) rfl ⟨rfl, ?_⟩
  repeat (refine Below.setCell ?_ (by first | omega | (simp <;> omega)) _)
  exact (KV.out _ q2.out).2.2
set_option maxHeartbeats 4000000 in
theorem impl_wa_full (a pa : Option Addr) (c pc : Nat) (l : Chs) (ps : List Ve) (now : Int) (w : World) (hr : ChRow 0 w.heap.size w a l) (hp : VeRow 0 w.heap.size w pa ps) (hbd : ChsBd 1048576 l) (hpl : ps.length ≤ 1048576) (h1 : ps.length ≤ 4096) (h2 : storeB l now = true) (h3 : putsB ps = true) (h4 : now = 100000) :
    Calls Try.prog 6 #[.agg #[.slice a l.length c, .int .i64 now], .slice pa ps.length pc] w fun e w' => ∃ g bs, e = .returned (.tuple #[.agg #[.slice (some ⟨g, 0, none⟩) l.length l.length, .int .i64 now], .int .i64 0, .int .i64 7]) ∧ StP w.heap.size w' g l bs ∧ Below w.heap.size w w' := by
  have h4' : (now == 100000) = true := by simpa using h4
  clear h4
  have HR : Hid (∀ W0, Below w.heap.size w W0 → ChRow 0 W0.heap.size W0 a l) := fun W0 hB => ChRow.up hr hB
  have HP : Hid (∀ W0, Below w.heap.size w W0 → VeRow 0 W0.heap.size W0 pa ps) := fun W0 hB => VeRow.up hp hB
  have HE : Hid _ := hbd
  clear hr hp hbd
  obtain ⟨V, hV⟩ : ∃ V, V = (w.alloc (.cells #[.slice a l.length c, .int .i64 now] 25)).alloc (.cells #[.slice none 0 0, .int .i64 0] 25) := ⟨_, rfl⟩
  have bV : Below w.heap.size w V := by
    rw [hV]
    repeat (first | exact Below.refl _ _ | refine Below.alloc ?_ (by first | omega | (simp <;> omega)) _)
  have zV : V.heap.size = w.heap.size + 2 := by rw [hV]; simp
  have c0 : V.heap[w.heap.size]? = some (.cells #[.slice a l.length c, .int .i64 now] 25 (0, 0)) := by
    rw [hV, Below.heap_alloc _ _ _ (by simp)]; exact heap_alloc_new _ _
  have c1 : V.heap[w.heap.size + 1]? = some (.cells #[.slice none 0 0, .int .i64 0] 25 (0, 0)) := by
    rw [hV]
    have := heap_alloc_new (w.alloc (.cells #[.slice a l.length c, .int .i64 now] 25)) (.cells #[.slice none 0 0, .int .i64 0] 25)
    simpa using this
  have KV : Hid (∀ W, Below V.heap.size V W → W.heap[w.heap.size]? = some (.cells #[.slice a l.length c, .int .i64 now] 25 (0, 0)) ∧ W.heap[w.heap.size + 1]? = some (.cells #[.slice none 0 0, .int .i64 0] 25 (0, 0)) ∧ Below w.heap.size w W) := fun W h =>
    ⟨(h.block _ (by omega)).trans c0, (h.block _ (by omega)).trans c1, bV.trans (h.mono (by omega))⟩
  have BV : Hid _ := bV
  have x0 := fun o => row_cell c0 o
  have x1 := fun o => row_cell c1 o
  have y1 := fun o => row_frozen c1 o
  clear c0 c1 bV
  go_enter Try.func6, Try.ntmps6
  go_upto_block 1 with fail
  rw [← hV]
  clear hV
  have h1' : ¬ (4096 : Int) < ps.length := by omega
  clear h1
  have H2 : Hid _ := h2
  have H3 : Hid _ := h3
  clear h2 h3
  go_wp2_with fail
  refine (impl_storeOK a c l now _ (HR.out _ BV.out) HE.out).mono ?_
  rintro e w1 ⟨rfl, hb1⟩
  rw [H2.out]
  have q1 : Hid (Below V.heap.size V w1) := hb1
  have x1 := fun o => row_cell (KV.out _ q1.out).1 o
  have r1 := fun o => row_cell (KV.out _ q1.out).2.1 o
  have y1 := fun o => row_frozen (KV.out _ q1.out).2.1 o
  have z1 := hb1.size
  clear hb1
  clear x0 x1 y1
  go_wp2_with fail
  refine (impl_putsOK pa pc ps _ (HP.out _ (KV.out _ q1.out).2.2) hpl).mono ?_
  rintro e w2 ⟨rfl, hb2⟩
  rw [H3.out]
  have q2 : Hid (Below V.heap.size V w2) := q1.out.trans (hb2.mono (by omega))
  have x2 := fun o => row_cell (KV.out _ q2.out).1 o
  have r2 := fun o => row_cell (KV.out _ q2.out).2.1 o
  have y2 := fun o => row_frozen (KV.out _ q2.out).2.1 o
  have z2 := hb2.size
  clear hb2

  go_wp2_with fail
  refine (impl_copyStore a c l now _ (HR.out _ (KV.out _ q2.out).2.2) HE.out).mono ?_
  rintro e w3 ⟨g, bs, rfl, p3, hb3⟩
  have P3 : Hid (StP w2.heap.size w3 g l bs) := p3
  clear p3
  have q3 : Hid (Below V.heap.size V w3) := q2.out.trans (hb3.mono (by omega))
  have x3 := fun o => row_cell (KV.out _ q3.out).1 o
  have r3 := fun o => row_cell (KV.out _ q3.out).2.1 o
  have y3 := fun o => row_frozen (KV.out _ q3.out).2.1 o
  have z3 := hb3.size
  clear hb3
  go_wp2_with fail
  refine bodyPost_ret (v := .tuple #[.agg #[.slice (some ⟨g, 0, none⟩) l.length l.length, .int .i64 now], .int .i64 0, .int .i64 7]) (by simp [results, Try.results6, go_sem, r3]) rfl ⟨g, bs, rfl, ?_, ?_⟩
  · refine StP.low (StP.move P3.out (by simp) (fun k h1 h2 => ?_)) (by omega)
    repeat rw [heap_set _ _ _ _ _ (by omega)]
  · repeat (refine Below.setCell ?_ (by first | omega | (simp <;> omega)) _)
    exact (KV.out _ q3.out).2.2
set_option maxHeartbeats 8000000 in
theorem impl_wa_nil (a pa : Option Addr) (c pc : Nat) (l : Chs) (ps : List Ve) (now : Int) (w : World) (hr : ChRow 0 w.heap.size w a l) (hp : VeRow 0 w.heap.size w pa ps) (hbd : ChsBd 1048576 l) (hpl : ps.length ≤ 1048576) (h1 : ps.length = 0) (h2 : storeB l now = true) (h3 : putsB ps = true) (h4 : now ≠ 100000) :
    Calls Try.prog 6 #[.agg #[.slice a l.length c, .int .i64 now], .slice pa ps.length pc] w fun e w' => ∃ g bs, e = .returned (.tuple #[.agg #[.slice (some ⟨g, 0, none⟩) l.length l.length, .int .i64 now], .int .i64 now, .int .i64 0]) ∧ StP w.heap.size w' g l bs ∧ Below w.heap.size w w' := by
  have h4' : (now == 100000) = false := by simpa using h4
  clear h4
  have HR : Hid (∀ W0, Below w.heap.size w W0 → ChRow 0 W0.heap.size W0 a l) := fun W0 hB => ChRow.up hr hB
  have HP : Hid (∀ W0, Below w.heap.size w W0 → VeRow 0 W0.heap.size W0 pa ps) := fun W0 hB => VeRow.up hp hB
  have HE : Hid _ := hbd
  clear hr hp hbd
  obtain ⟨V, hV⟩ : ∃ V, V = (w.alloc (.cells #[.slice a l.length c, .int .i64 now] 25)).alloc (.cells #[.slice none 0 0, .int .i64 0] 25) := ⟨_, rfl⟩
  have bV : Below w.heap.size w V := by
    rw [hV]
    repeat (first | exact Below.refl _ _ | refine Below.alloc ?_ (by first | omega | (simp <;> omega)) _)
  have zV : V.heap.size = w.heap.size + 2 := by rw [hV]; simp
  have c0 : V.heap[w.heap.size]? = some (.cells #[.slice a l.length c, .int .i64 now] 25 (0, 0)) := by
    rw [hV, Below.heap_alloc _ _ _ (by simp)]; exact heap_alloc_new _ _
  have c1 : V.heap[w.heap.size + 1]? = some (.cells #[.slice none 0 0, .int .i64 0] 25 (0, 0)) := by
    rw [hV]
    have := heap_alloc_new (w.alloc (.cells #[.slice a l.length c, .int .i64 now] 25)) (.cells #[.slice none 0 0, .int .i64 0] 25)
    simpa using this
  have KV : Hid (∀ W, Below V.heap.size V W → W.heap[w.heap.size]? = some (.cells #[.slice a l.length c, .int .i64 now] 25 (0, 0)) ∧ W.heap[w.heap.size + 1]? = some (.cells #[.slice none 0 0, .int .i64 0] 25 (0, 0)) ∧ Below w.heap.size w W) := fun W h =>
    ⟨(h.block _ (by omega)).trans c0, (h.block _ (by omega)).trans c1, bV.trans (h.mono (by omega))⟩
  have BV : Hid _ := bV
  have x0 := fun o => row_cell c0 o
  have x1 := fun o => row_cell c1 o
  have y1 := fun o => row_frozen c1 o
  clear c0 c1 bV
  go_enter Try.func6, Try.ntmps6
  go_upto_block 1 with fail
  rw [← hV]
  clear hV
  have h1' : ¬ (4096 : Int) < ps.length := by omega
  have h0' : ((ps.length : Int) == 0) = true := by rw [h1]; rfl
  clear h1
  have H2 : Hid _ := h2
  have H3 : Hid _ := h3
  clear h2 h3
  go_wp2_with fail
  refine (impl_storeOK a c l now _ (HR.out _ BV.out) HE.out).mono ?_
  rintro e w1 ⟨rfl, hb1⟩
  rw [H2.out]
  have q1 : Hid (Below V.heap.size V w1) := hb1
  have x1 := fun o => row_cell (KV.out _ q1.out).1 o
  have r1 := fun o => row_cell (KV.out _ q1.out).2.1 o
  have y1 := fun o => row_frozen (KV.out _ q1.out).2.1 o
  have z1 := hb1.size
  clear hb1
  clear x0 x1 y1
  go_wp2_with fail
  refine (impl_putsOK pa pc ps _ (HP.out _ (KV.out _ q1.out).2.2) hpl).mono ?_
  rintro e w2 ⟨rfl, hb2⟩
  rw [H3.out]
  have q2 : Hid (Below V.heap.size V w2) := q1.out.trans (hb2.mono (by omega))
  have x2 := fun o => row_cell (KV.out _ q2.out).1 o
  have r2 := fun o => row_cell (KV.out _ q2.out).2.1 o
  have y2 := fun o => row_frozen (KV.out _ q2.out).2.1 o
  have z2 := hb2.size
  clear hb2

  go_upto_region 10 with fail
  go_region_with (go_at_call 20
                  refine Calls.mono (impl_copyStore a c l now _ (HR.out _ (KV.out _ q2.out.drew).2.2) HE.out) ?_
                  rintro e w3 ⟨g, bs, rfl, p3, hb3⟩
                  have P3 : Hid (StP w2.heap.size w3 g l bs) := p3
                  have q3 : Hid (Below V.heap.size V w3) := q2.out.drew.trans (hb3.mono (by have := q2.out.size; first | omega | (simp <;> omega)))
                  have z3 := hb3.size
                  have x3 := fun o => row_cell (KV.out _ q3.out).1 o
                  have r3 := fun o => row_cell (KV.out _ q3.out).2.1 o
                  have y3 := fun o => row_frozen (KV.out _ q3.out).2.1 o
                  clear p3 hb3)
  all_goals (try go_wp2_with fail)
  all_goals
    refine bodyPost_ret (v := .tuple #[.agg #[.slice (some ⟨g, 0, none⟩) l.length l.length, .int .i64 now], .int .i64 now, .int .i64 0]) (by simp [results, Try.results6, go_sem, r3]) rfl ⟨g, bs, rfl, ?_, ?_⟩
    · refine StP.low (StP.move P3.out (by simp) (fun k h1 h2 => ?_)) (by omega)
      repeat rw [heap_set _ _ _ _ _ (by omega)]
    · repeat (refine Below.setCell ?_ (by first | omega | (simp <;> omega)) _)
      exact (KV.out _ q3.out).2.2
end Go.Proofs.Ytljnhecdelimfaa.G
