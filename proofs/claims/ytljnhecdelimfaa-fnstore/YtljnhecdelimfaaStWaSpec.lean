/- The specification's WriteAll. -/
import Derived.Test.YtljnhecdelimfaaStWrSpecTwo
import Derived.Test.YtljnhecdelimfaaStPutsOK
import Derived.Test.YtljnhecdelimfaaStStoreMath
import Derived.Deep.CutBlock
import Derived.Deep.CutRange
namespace Go.Proofs.Ytljnhecdelimfaa.G
open Go.ChangeShapes Go.WideShapes Go.ChangeAt Go.RowKit
set_option linter.unusedVariables false

set_option maxHeartbeats 1000000 in
theorem spec_write_nil2 (a pa : Option Addr) (m c pc : Nat) (now : Int) (w : World) :
    Calls Try.prog 25 #[.agg #[.slice a m c, .int .i64 now], .slice pa 0 pc] w fun e w' => e = .returned (.agg #[.slice a m c, .int .i64 now]) ∧ Below w.heap.size w w' := by
  go_enter Try.func25, Try.ntmps25
  go_wp2_with fail
  refine bodyPost_ret (v := .agg #[.slice a m c, .int .i64 now]) (by simp [results, Try.results25, go_sem]) rfl ⟨rfl, ?_⟩
  repeat (first | exact Below.refl _ _ | refine Below.setCell ?_ (by first | omega | (simp <;> omega)) _ | refine Below.alloc ?_ (by first | omega | (simp <;> omega)) _)
theorem OwnK.chRow2 {lo : Nat} {w : World} {v : Value} {l : Chs} (h : OwnK lo w v l) : ∃ a c, v = .slice a l.length c ∧ ChRow lo w.heap.size w a l := by
  obtain ⟨vs, h1, h2⟩ := h
  exact Kids.row h1 h2
/-- What a WriteAll answers: a store, an hour, a code. -/
def WaS (w : World) (m : Chs) (nr h cd : Int) (e : Ending) (w' : World) : Prop := ∃ a' c', e = .returned (.tuple #[.agg #[.slice a' m.length c', .int .i64 nr], .int .i64 h, .int .i64 cd]) ∧ ChRow w.heap.size w'.heap.size w' a' m ∧ Below w.heap.size w w'
/-- What l06Write makes, of something or of nothing. -/
theorem spec_write (a pa : Option Addr) (c pc : Nat) (l : Chs) (ps : List Ve) (now : Int) (w : World) (hr : ChRow 0 w.heap.size w a l) (hp : VeRow 0 w.heap.size w pa ps) (h2 : storeB l now = true) (h3 : putsB ps = true) {m : Chs} {nr : Int} (h : (ps.length = 0 ∧ m = l ∧ nr = now) ∨ (0 < ps.length ∧ m = wrAll (now + 1) l ps ∧ nr = now + 1)) :
    Calls Try.prog 25 #[.agg #[.slice a l.length c, .int .i64 now], .slice pa ps.length pc] w fun e w' => ∃ a2 c2, e = .returned (.agg #[.slice a2 m.length c2, .int .i64 nr]) ∧ ChRow 0 w'.heap.size w' a2 m ∧ Below w.heap.size w w' := by
  have hbd := storeB_bd h2
  obtain ⟨h16, hn0, hn1, _⟩ := storeB_all h2
  rcases h with ⟨h0, rfl, rfl⟩ | ⟨h0, rfl, rfl⟩
  · rw [h0]
    refine (spec_write_nil2 a pa m.length c pc nr w).mono ?_
    rintro e w' ⟨rfl, hb⟩
    exact ⟨a, c, rfl, ChRow.up hr hb, hb⟩
  · refine (spec_l06Write a pa c pc l ps now w hr hp ⟨by omega, fun x hx => by have := hbd x hx; omega⟩ h0 (by have := (putsB_all h3).1; omega) h16 (fun i hi => putB_key ((putsB_all h3).2 ps[i] (List.getElem_mem hi))) ⟨hn0, by omega⟩).mono ?_
    rintro e w' ⟨v, rfl, ho, hb⟩
    obtain ⟨a2, c2, rfl, r2⟩ := ho.chRow2
    exact ⟨a2, c2, rfl, ChRow.wide r2 (Nat.zero_le _) (Nat.le_refl _), hb⟩
set_option maxHeartbeats 4000000 in
theorem spec_wa_long (a pa : Option Addr) (c pc : Nat) (l : Chs) (ps : List Ve) (now : Int) (w : World) (hr : ChRow 0 w.heap.size w a l) (hp : VeRow 0 w.heap.size w pa ps) (hbd : ChsBd 1048576 l) (hpl : ps.length ≤ 1048576) (h1 : 4096 < ps.length) :
    Calls Try.prog 7 #[.agg #[.slice a l.length c, .int .i64 now], .slice pa ps.length pc] w fun e w' => e = .returned (.tuple #[.agg #[.slice none 0 0, .int .i64 0], .int .i64 0, .int .i64 2]) ∧ Below w.heap.size w w' := by
  have HR : Hid (∀ W0, Below w.heap.size w W0 → ChRow 0 W0.heap.size W0 a l) := fun W0 hB => ChRow.up hr hB
  have HP : Hid (∀ W0, Below w.heap.size w W0 → VeRow 0 W0.heap.size W0 pa ps) := fun W0 hB => VeRow.up hp hB
  have HE : Hid _ := hbd
  clear hr hp hbd
  obtain ⟨V, hV⟩ : ∃ V, V = (w.alloc (.cells #[.slice a l.length c, .int .i64 now] 25)).alloc (.cells #[.slice none 0 0, .int .i64 0] 25) := ⟨_, rfl⟩
  have bV : Below w.heap.size w V := by
    rw [hV]
    repeat (first | exact Below.refl _ _ | refine Below.alloc ?_ (by first | omega | (simp <;> omega)) _)
  have zV : V.heap.size = w.heap.size + 2 := by rw [hV]; simp
  have c0 : V.heap[w.heap.size]? = some (.cells #[.slice a l.length c, .int .i64 now] 25 (0, 0)) := by
    rw [hV, Below.heap_alloc _ _ _ (by simp)]; exact heap_alloc_new _ _
  have c1 : V.heap[w.heap.size + 1]? = some (.cells #[.slice none 0 0, .int .i64 0] 25 (0, 0)) := by
    rw [hV]
    have := heap_alloc_new (w.alloc (.cells #[.slice a l.length c, .int .i64 now] 25)) (.cells #[.slice none 0 0, .int .i64 0] 25)
    simpa using this
  have KV : Hid (∀ W, Below V.heap.size V W → W.heap[w.heap.size]? = some (.cells #[.slice a l.length c, .int .i64 now] 25 (0, 0)) ∧ W.heap[w.heap.size + 1]? = some (.cells #[.slice none 0 0, .int .i64 0] 25 (0, 0)) ∧ Below w.heap.size w W) := fun W h =>
    ⟨(h.block _ (by omega)).trans c0, (h.block _ (by omega)).trans c1, bV.trans (h.mono (by omega))⟩
  have BV : Hid _ := bV
  have x0 := fun o => row_cell c0 o
  have x1 := fun o => row_cell c1 o
  have y1 := fun o => row_frozen c1 o
  clear c0 c1 bV
  go_enter Try.func7, Try.ntmps7
  go_upto_block 1 with fail
  rw [← hV]
  clear hV
  have h1' : (4096 : Int) < ps.length := by omega
  clear h1
  go_wp2_with fail
  refine bodyPost_ret (v := .tuple #[.agg #[.slice none 0 0, .int .i64 0], .int .i64 0, .int .i64 2]) (by simp [results, Try.results7, go_sem, x1]) rfl ⟨rfl, ?_⟩
  repeat (refine Below.setCell ?_ (by first | omega | (simp <;> omega)) _)
  exact (KV.out _ (Below.refl _ _)).2.2
set_option maxHeartbeats 4000000 in
theorem spec_wa_bad (a pa : Option Addr) (c pc : Nat) (l : Chs) (ps : List Ve) (now : Int) (w : World) (hr : ChRow 0 w.heap.size w a l) (hp : VeRow 0 w.heap.size w pa ps) (hbd : ChsBd 1048576 l) (hpl : ps.length ≤ 1048576) (h1 : ps.length ≤ 4096) (h2 : storeB l now = false) :
    Calls Try.prog 7 #[.agg #[.slice a l.length c, .int .i64 now], .slice pa ps.length pc] w fun e w' => e = .returned (.tuple #[.agg #[.slice none 0 0, .int .i64 0], .int .i64 0, .int .i64 1]) ∧ Below w.heap.size w w' := by
  have HR : Hid (∀ W0, Below w.heap.size w W0 → ChRow 0 W0.heap.size W0 a l) := fun W0 hB => ChRow.up hr hB
  have HP : Hid (∀ W0, Below w.heap.size w W0 → VeRow 0 W0.heap.size W0 pa ps) := fun W0 hB => VeRow.up hp hB
  have HE : Hid _ := hbd
  clear hr hp hbd
  obtain ⟨V, hV⟩ : ∃ V, V = (w.alloc (.cells #[.slice a l.length c, .int .i64 now] 25)).alloc (.cells #[.slice none 0 0, .int .i64 0] 25) := ⟨_, rfl⟩
  have bV : Below w.heap.size w V := by
    rw [hV]
    repeat (first | exact Below.refl _ _ | refine Below.alloc ?_ (by first | omega | (simp <;> omega)) _)
  have zV : V.heap.size = w.heap.size + 2 := by rw [hV]; simp
  have c0 : V.heap[w.heap.size]? = some (.cells #[.slice a l.length c, .int .i64 now] 25 (0, 0)) := by
    rw [hV, Below.heap_alloc _ _ _ (by simp)]; exact heap_alloc_new _ _
  have c1 : V.heap[w.heap.size + 1]? = some (.cells #[.slice none 0 0, .int .i64 0] 25 (0, 0)) := by
    rw [hV]
    have := heap_alloc_new (w.alloc (.cells #[.slice a l.length c, .int .i64 now] 25)) (.cells #[.slice none 0 0, .int .i64 0] 25)
    simpa using this
  have KV : Hid (∀ W, Below V.heap.size V W → W.heap[w.heap.size]? = some (.cells #[.slice a l.length c, .int .i64 now] 25 (0, 0)) ∧ W.heap[w.heap.size + 1]? = some (.cells #[.slice none 0 0, .int .i64 0] 25 (0, 0)) ∧ Below w.heap.size w W) := fun W h =>
    ⟨(h.block _ (by omega)).trans c0, (h.block _ (by omega)).trans c1, bV.trans (h.mono (by omega))⟩
  have BV : Hid _ := bV
  have x0 := fun o => row_cell c0 o
  have x1 := fun o => row_cell c1 o
  have y1 := fun o => row_frozen c1 o
  clear c0 c1 bV
  go_enter Try.func7, Try.ntmps7
  go_upto_block 1 with fail
  rw [← hV]
  clear hV
  have h1' : ¬ (4096 : Int) < ps.length := by omega
  clear h1
  have H2 : Hid _ := h2
  clear h2
  go_wp2_with fail
  refine (spec_storeOK a c l now _ (HR.out _ BV.out) HE.out).mono ?_
  rintro e w1 ⟨rfl, hb1⟩
  rw [H2.out]
  have q1 : Hid (Below V.heap.size V w1) := hb1
  have x1 := fun o => row_cell (KV.out _ q1.out).1 o
  have r1 := fun o => row_cell (KV.out _ q1.out).2.1 o
  have y1 := fun o => row_frozen (KV.out _ q1.out).2.1 o
  have z1 := hb1.size
  clear hb1
  clear x0
  go_wp2_with fail
  refine bodyPost_ret (v := .tuple #[.agg #[.slice none 0 0, .int .i64 0], .int .i64 0, .int .i64 1]) (by simp [results, Try.results7, go_sem, r1]) rfl ⟨rfl, ?_⟩
  repeat (refine Below.setCell ?_ (by first | omega | (simp <;> omega)) _)
  exact (KV.out _ q1.out).2.2
set_option maxHeartbeats 4000000 in
theorem spec_wa_range (a pa : Option Addr) (c pc : Nat) (l : Chs) (ps : List Ve) (now : Int) (w : World) (hr : ChRow 0 w.heap.size w a l) (hp : VeRow 0 w.heap.size w pa ps) (hbd : ChsBd 1048576 l) (hpl : ps.length ≤ 1048576) (h1 : ps.length ≤ 4096) (h2 : storeB l now = true) (h3 : putsB ps = false) :
    Calls Try.prog 7 #[.agg #[.slice a l.length c, .int .i64 now], .slice pa ps.length pc] w fun e w' => e = .returned (.tuple #[.agg #[.slice none 0 0, .int .i64 0], .int .i64 0, .int .i64 4]) ∧ Below w.heap.size w w' := by
  have HR : Hid (∀ W0, Below w.heap.size w W0 → ChRow 0 W0.heap.size W0 a l) := fun W0 hB => ChRow.up hr hB
  have HP : Hid (∀ W0, Below w.heap.size w W0 → VeRow 0 W0.heap.size W0 pa ps) := fun W0 hB => VeRow.up hp hB
  have HE : Hid _ := hbd
  clear hr hp hbd
  obtain ⟨V, hV⟩ : ∃ V, V = (w.alloc (.cells #[.slice a l.length c, .int .i64 now] 25)).alloc (.cells #[.slice none 0 0, .int .i64 0] 25) := ⟨_, rfl⟩
  have bV : Below w.heap.size w V := by
    rw [hV]
    repeat (first | exact Below.refl _ _ | refine Below.alloc ?_ (by first | omega | (simp <;> omega)) _)
  have zV : V.heap.size = w.heap.size + 2 := by rw [hV]; simp
  have c0 : V.heap[w.heap.size]? = some (.cells #[.slice a l.length c, .int .i64 now] 25 (0, 0)) := by
    rw [hV, Below.heap_alloc _ _ _ (by simp)]; exact heap_alloc_new _ _
  have c1 : V.heap[w.heap.size + 1]? = some (.cells #[.slice none 0 0, .int .i64 0] 25 (0, 0)) := by
    rw [hV]
    have := heap_alloc_new (w.alloc (.cells #[.slice a l.length c, .int .i64 now] 25)) (.cells #[.slice none 0 0, .int .i64 0] 25)
    simpa using this
  have KV : Hid (∀ W, Below V.heap.size V W → W.heap[w.heap.size]? = some (.cells #[.slice a l.length c, .int .i64 now] 25 (0, 0)) ∧ W.heap[w.heap.size + 1]? = some (.cells #[.slice none 0 0, .int .i64 0] 25 (0, 0)) ∧ Below w.heap.size w W) := fun W h =>
    ⟨(h.block _ (by omega)).trans c0, (h.block _ (by omega)).trans c1, bV.trans (h.mono (by omega))⟩
  have BV : Hid _ := bV
  have x0 := fun o => row_cell c0 o
  have x1 := fun o => row_cell c1 o
  have y1 := fun o => row_frozen c1 o
  clear c0 c1 bV
  go_enter Try.func7, Try.ntmps7
  go_upto_block 1 with fail
  rw [← hV]
  clear hV
  have h1' : ¬ (4096 : Int) < ps.length := by omega
  clear h1
  have H2 : Hid _ := h2
  have H3 : Hid _ := h3
  clear h2 h3
  go_wp2_with fail
  refine (spec_storeOK a c l now _ (HR.out _ BV.out) HE.out).mono ?_
  rintro e w1 ⟨rfl, hb1⟩
  rw [H2.out]
  have q1 : Hid (Below V.heap.size V w1) := hb1
  have x1 := fun o => row_cell (KV.out _ q1.out).1 o
  have r1 := fun o => row_cell (KV.out _ q1.out).2.1 o
  have y1 := fun o => row_frozen (KV.out _ q1.out).2.1 o
  have z1 := hb1.size
  clear hb1
  go_wp2_with fail
  refine (spec_puts pa pc ps _ (HP.out _ (KV.out _ q1.out).2.2) hpl).mono ?_
  rintro e w2 ⟨rfl, hb2⟩
  rw [H3.out]
  have q2 : Hid (Below V.heap.size V w2) := q1.out.trans (hb2.mono (by omega))
  have x2 := fun o => row_cell (KV.out _ q2.out).1 o
  have r2 := fun o => row_cell (KV.out _ q2.out).2.1 o
  have y2 := fun o => row_frozen (KV.out _ q2.out).2.1 o
  have z2 := hb2.size
  clear hb2
  clear x0
  go_wp2_with fail
  refine bodyPost_ret (v := .tuple #[.agg #[.slice none 0 0, .int .i64 0], .int .i64 0, .int .i64 4]) (by simp [results, Try.results7, go_sem, r2]) rfl ⟨rfl, ?_⟩
  repeat (refine Below.setCell ?_ (by first | omega | (simp <;> omega)) _)
  exact (KV.out _ q2.out).2.2
set_option maxHeartbeats 4000000 in
theorem spec_wa_full (a pa : Option Addr) (c pc : Nat) (l : Chs) (ps : List Ve) (now : Int) (w : World) (hr : ChRow 0 w.heap.size w a l) (hp : VeRow 0 w.heap.size w pa ps) (hbd : ChsBd 1048576 l) (hpl : ps.length ≤ 1048576) (h1 : ps.length ≤ 4096) (h2 : storeB l now = true) (h3 : putsB ps = true) (h4 : now = 100000) :
    Calls Try.prog 7 #[.agg #[.slice a l.length c, .int .i64 now], .slice pa ps.length pc] w fun e w' => WaS w l now 0 7 e w' := by
  have h4' : (now == 100000) = true := by simpa using h4
  clear h4
  have HR : Hid (∀ W0, Below w.heap.size w W0 → ChRow 0 W0.heap.size W0 a l) := fun W0 hB => ChRow.up hr hB
  have HP : Hid (∀ W0, Below w.heap.size w W0 → VeRow 0 W0.heap.size W0 pa ps) := fun W0 hB => VeRow.up hp hB
  have HE : Hid _ := hbd
  clear hr hp hbd
  obtain ⟨V, hV⟩ : ∃ V, V = (w.alloc (.cells #[.slice a l.length c, .int .i64 now] 25)).alloc (.cells #[.slice none 0 0, .int .i64 0] 25) := ⟨_, rfl⟩
  have bV : Below w.heap.size w V := by
    rw [hV]
    repeat (first | exact Below.refl _ _ | refine Below.alloc ?_ (by first | omega | (simp <;> omega)) _)
  have zV : V.heap.size = w.heap.size + 2 := by rw [hV]; simp
  have c0 : V.heap[w.heap.size]? = some (.cells #[.slice a l.length c, .int .i64 now] 25 (0, 0)) := by
    rw [hV, Below.heap_alloc _ _ _ (by simp)]; exact heap_alloc_new _ _
  have c1 : V.heap[w.heap.size + 1]? = some (.cells #[.slice none 0 0, .int .i64 0] 25 (0, 0)) := by
    rw [hV]
    have := heap_alloc_new (w.alloc (.cells #[.slice a l.length c, .int .i64 now] 25)) (.cells #[.slice none 0 0, .int .i64 0] 25)
    simpa using this
  have KV : Hid (∀ W, Below V.heap.size V W → W.heap[w.heap.size]? = some (.cells #[.slice a l.length c, .int .i64 now] 25 (0, 0)) ∧ W.heap[w.heap.size + 1]? = some (.cells #[.slice none 0 0, .int .i64 0] 25 (0, 0)) ∧ Below w.heap.size w W) := fun W h =>
    ⟨(h.block _ (by omega)).trans c0, (h.block _ (by omega)).trans c1, bV.trans (h.mono (by omega))⟩
  have BV : Hid _ := bV
  have x0 := fun o => row_cell c0 o
  have x1 := fun o => row_cell c1 o
  have y1 := fun o => row_frozen c1 o
  clear c0 c1 bV
  go_enter Try.func7, Try.ntmps7
  go_upto_block 1 with fail
  rw [← hV]
  clear hV
  have h1' : ¬ (4096 : Int) < ps.length := by omega
  clear h1
  have H2 : Hid _ := h2
  have H3 : Hid _ := h3
  clear h2 h3
  go_wp2_with fail
  refine (spec_storeOK a c l now _ (HR.out _ BV.out) HE.out).mono ?_
  rintro e w1 ⟨rfl, hb1⟩
  rw [H2.out]
  have q1 : Hid (Below V.heap.size V w1) := hb1
  have x1 := fun o => row_cell (KV.out _ q1.out).1 o
  have r1 := fun o => row_cell (KV.out _ q1.out).2.1 o
  have y1 := fun o => row_frozen (KV.out _ q1.out).2.1 o
  have z1 := hb1.size
  clear hb1
  clear x0 x1 y1
  go_wp2_with fail
  refine (spec_puts pa pc ps _ (HP.out _ (KV.out _ q1.out).2.2) hpl).mono ?_
  rintro e w2 ⟨rfl, hb2⟩
  rw [H3.out]
  have q2 : Hid (Below V.heap.size V w2) := q1.out.trans (hb2.mono (by omega))
  have x2 := fun o => row_cell (KV.out _ q2.out).1 o
  have r2 := fun o => row_cell (KV.out _ q2.out).2.1 o
  have y2 := fun o => row_frozen (KV.out _ q2.out).2.1 o
  have z2 := hb2.size
  clear hb2
  go_wp2_with fail
  refine (spec_l06Own a c l now _ (HR.out _ (KV.out _ q2.out).2.2) HE.out).mono ?_
  rintro e w3 ⟨v, rfl, p3, hb3⟩
  obtain ⟨a3, c3, rfl, r9⟩ := p3.chRow2
  have P3 : Hid (ChRow w2.heap.size w3.heap.size w3 a3 l) := r9
  clear p3 r9
  have q3 : Hid (Below V.heap.size V w3) := q2.out.trans (hb3.mono (by omega))
  have x3 := fun o => row_cell (KV.out _ q3.out).1 o
  have r3 := fun o => row_cell (KV.out _ q3.out).2.1 o
  have y3 := fun o => row_frozen (KV.out _ q3.out).2.1 o
  have z3 := hb3.size
  clear hb3
  go_wp2_with fail
  refine bodyPost_ret (v := .tuple #[.agg #[.slice a3 l.length c3, .int .i64 now], .int .i64 0, .int .i64 7]) (by simp [results, Try.results7, go_sem, r3]) rfl ⟨a3, c3, rfl, ?_, ?_⟩
  · refine ChRow.wide (ChRow.keep P3.out (fun k h1 h2 => ?_)) (by omega) (by simp)
    repeat rw [heap_set _ _ _ _ _ (by omega)]
  · repeat (refine Below.setCell ?_ (by first | omega | (simp <;> omega)) _)
    exact (KV.out _ q3.out).2.2
set_option maxHeartbeats 8000000 in
theorem spec_wa_ok (a pa : Option Addr) (c pc : Nat) (l : Chs) (ps : List Ve) (now : Int) (w : World) (hr : ChRow 0 w.heap.size w a l) (hp : VeRow 0 w.heap.size w pa ps) (hbd : ChsBd 1048576 l) (hpl : ps.length ≤ 1048576) (h1 : ps.length ≤ 4096) (h2 : storeB l now = true) (h3 : putsB ps = true) (h4 : now ≠ 100000) {m : Chs} {nr : Int} (h : (ps.length = 0 ∧ m = l ∧ nr = now) ∨ (0 < ps.length ∧ m = wrAll (now + 1) l ps ∧ nr = now + 1)) :
    Calls Try.prog 7 #[.agg #[.slice a l.length c, .int .i64 now], .slice pa ps.length pc] w fun e w' => WaS w m nr nr 0 e w' := by
  have h4' : (now == 100000) = false := by simpa using h4
  have HH : Hid _ := h
  have HM : Hid (ChsBd 1048576 m) := by
    have hbd := storeB_bd h2
    have h16 := (storeB_all h2).1
    have h400 := (putsB_all h3).1
    have hn := (storeB_all h2).2.2.1
    rcases h with ⟨_, e, _⟩ | ⟨_, e, _⟩
    · rw [e]; exact ⟨by omega, fun x hx => by have := hbd x hx; omega⟩
    · rw [e]
      refine ⟨by rw [wrAll_len]; omega, fun x hx => ?_⟩
      have := wrAll_bd (t := now + 1) ps (l := l) (m := 100000) (fun y hy => by have := hbd y hy; omega) x hx
      omega
  clear h h4
  have HR : Hid (∀ W0, Below w.heap.size w W0 → ChRow 0 W0.heap.size W0 a l) := fun W0 hB => ChRow.up hr hB
  have HP : Hid (∀ W0, Below w.heap.size w W0 → VeRow 0 W0.heap.size W0 pa ps) := fun W0 hB => VeRow.up hp hB
  have HE : Hid _ := hbd
  clear hr hp hbd
  obtain ⟨V, hV⟩ : ∃ V, V = (w.alloc (.cells #[.slice a l.length c, .int .i64 now] 25)).alloc (.cells #[.slice none 0 0, .int .i64 0] 25) := ⟨_, rfl⟩
  have bV : Below w.heap.size w V := by
    rw [hV]
    repeat (first | exact Below.refl _ _ | refine Below.alloc ?_ (by first | omega | (simp <;> omega)) _)
  have zV : V.heap.size = w.heap.size + 2 := by rw [hV]; simp
  have c0 : V.heap[w.heap.size]? = some (.cells #[.slice a l.length c, .int .i64 now] 25 (0, 0)) := by
    rw [hV, Below.heap_alloc _ _ _ (by simp)]; exact heap_alloc_new _ _
  have c1 : V.heap[w.heap.size + 1]? = some (.cells #[.slice none 0 0, .int .i64 0] 25 (0, 0)) := by
    rw [hV]
    have := heap_alloc_new (w.alloc (.cells #[.slice a l.length c, .int .i64 now] 25)) (.cells #[.slice none 0 0, .int .i64 0] 25)
    simpa using this
  have KV : Hid (∀ W, Below V.heap.size V W → W.heap[w.heap.size]? = some (.cells #[.slice a l.length c, .int .i64 now] 25 (0, 0)) ∧ W.heap[w.heap.size + 1]? = some (.cells #[.slice none 0 0, .int .i64 0] 25 (0, 0)) ∧ Below w.heap.size w W) := fun W h =>
    ⟨(h.block _ (by omega)).trans c0, (h.block _ (by omega)).trans c1, bV.trans (h.mono (by omega))⟩
  have BV : Hid _ := bV
  have x0 := fun o => row_cell c0 o
  have x1 := fun o => row_cell c1 o
  have y1 := fun o => row_frozen c1 o
  clear c0 c1 bV
  go_enter Try.func7, Try.ntmps7
  go_upto_block 1 with fail
  rw [← hV]
  clear hV
  have h1' : ¬ (4096 : Int) < ps.length := by omega
  clear h1
  have H2 : Hid _ := h2
  have H3 : Hid _ := h3
  clear h2 h3
  go_wp2_with fail
  refine (spec_storeOK a c l now _ (HR.out _ BV.out) HE.out).mono ?_
  rintro e w1 ⟨rfl, hb1⟩
  rw [H2.out]
  have q1 : Hid (Below V.heap.size V w1) := hb1
  have x1 := fun o => row_cell (KV.out _ q1.out).1 o
  have r1 := fun o => row_cell (KV.out _ q1.out).2.1 o
  have y1 := fun o => row_frozen (KV.out _ q1.out).2.1 o
  have z1 := hb1.size
  clear hb1
  clear x0 x1 y1
  go_wp2_with fail
  refine (spec_puts pa pc ps _ (HP.out _ (KV.out _ q1.out).2.2) hpl).mono ?_
  rintro e w2 ⟨rfl, hb2⟩
  rw [H3.out]
  have q2 : Hid (Below V.heap.size V w2) := q1.out.trans (hb2.mono (by omega))
  have x2 := fun o => row_cell (KV.out _ q2.out).1 o
  have r2 := fun o => row_cell (KV.out _ q2.out).2.1 o
  have y2 := fun o => row_frozen (KV.out _ q2.out).2.1 o
  have z2 := hb2.size
  clear hb2
  clear x1 r1 y1
  go_wp2_with fail
  refine (spec_write a pa c pc l ps now _ (HR.out _ (KV.out _ q2.out).2.2) (HP.out _ (KV.out _ q2.out).2.2) H2.out H3.out HH.out).mono ?_
  rintro e w3 ⟨a3, c3, rfl, r9, hb3⟩
  have P3 : Hid (ChRow 0 w3.heap.size w3 a3 m) := r9
  clear r9
  have q3 : Hid (Below V.heap.size V w3) := q2.out.trans (hb3.mono (by omega))
  have x3 := fun o => row_cell (KV.out _ q3.out).1 o
  have r3 := fun o => row_cell (KV.out _ q3.out).2.1 o
  have y3 := fun o => row_frozen (KV.out _ q3.out).2.1 o
  have z3 := hb3.size
  clear hb3
  clear x2 r2 y2
  go_wp2_with fail
  refine (spec_l06Own a3 c3 m nr _ P3.out HM.out).mono ?_
  rintro e w4 ⟨v, rfl, p4, hb4⟩
  obtain ⟨a4, c4, rfl, r9⟩ := p4.chRow2
  have P4 : Hid (ChRow w3.heap.size w4.heap.size w4 a4 m) := r9
  clear p4 r9
  have q4 : Hid (Below V.heap.size V w4) := q3.out.trans (hb4.mono (by omega))
  have x4 := fun o => row_cell (KV.out _ q4.out).1 o
  have r4 := fun o => row_cell (KV.out _ q4.out).2.1 o
  have y4 := fun o => row_frozen (KV.out _ q4.out).2.1 o
  have z4 := hb4.size
  clear hb4
  clear x3 r3 y3
  go_upto_region 10 with fail
  obtain ⟨U, hU⟩ : ∃ x, x = w4.alloc (.cells #[.slice a4 m.length c4, .int .i64 nr] 25) := ⟨_, rfl⟩
  rw [← hU]
  have zU : U.heap.size = w4.heap.size + 1 := by rw [hU]; simp
  have bU : Below w4.heap.size w4 U := by rw [hU]; exact (Below.refl _ _).alloc (Nat.le_refl _) _
  have cU : U.heap[w4.heap.size]? = some (.cells #[.slice a4 m.length c4, .int .i64 nr] 25 (0, 0)) := by rw [hU]; exact heap_alloc_new _ _
  have xU := fun o => row_cell cU o
  have qU : Hid (Below V.heap.size V U) := q4.out.trans (bU.mono (by have := q4.out.size; omega))
  have rU := fun o => row_cell (KV.out _ qU.out).2.1 o
  have yU := fun o => row_frozen (KV.out _ qU.out).2.1 o
  have PU : Hid (ChRow w3.heap.size w4.heap.size U a4 m) := ChRow.keep P4.out (agree bU (Nat.le_refl _))
  clear hU bU cU P4 x4 r4 y4
  go_region_with fail
  all_goals (try go_wp2_with fail)
  all_goals
    refine bodyPost_ret (v := .tuple #[.agg #[.slice a4 m.length c4, .int .i64 nr], .int .i64 nr, .int .i64 0]) (by simp [results, Try.results7, go_sem, rU]) rfl ⟨a4, c4, rfl, ?_, ?_⟩
    · refine ChRow.wide (ChRow.keep PU.out (fun k h1 h2 => ?_)) (by omega) (by show w4.heap.size ≤ ((U.setCell _ _).setCell _ _).heap.size; simp; omega)
      show ((U.setCell ⟨w.heap.size + 1, 0, none⟩ _).setCell ⟨w.heap.size + 1, 1, none⟩ _).heap[k]? = _
      rw [heap_set _ _ _ _ _ (by omega), heap_set _ _ _ _ _ (by omega)]
    · refine Below.drew ?_
      repeat (refine Below.setCell ?_ (by first | omega | (simp <;> omega)) _)
      exact (KV.out _ qU.out).2.2
end Go.Proofs.Ytljnhecdelimfaa.G
