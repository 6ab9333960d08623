/- FnOut's walk. -/
import Derived.Test.YtoaeggfnlenjkaaGreatDoorOuFnCalls
import Derived.Deep.CutRange
namespace Go.Proofs.YtoaeggfnlenjkaaGreatDoor.G
open Go.ChangeShapes Go.WideShapes Go.ChangeAt Go.RowKit
set_option linter.unusedVariables false

theorem ByteRow.far {w w' : World} {a : Option Addr} {n : Nat} (h : ByteRow w.heap.size w a n) (hb : Below w.heap.size w w') : ByteRow w'.heap.size w' a n := by
  rcases h with h | ⟨b, o, e, h1, h2, h3⟩
  · exact .inl h
  · refine .inr ⟨b, o, e, Nat.lt_of_lt_of_le h1 hb.size, Nat.le_refl _, fun i hi => ?_⟩
    obtain ⟨x, hx, e⟩ := h3 i hi
    exact ⟨x, hx, (World.cell?_of_block (w := w) (hb.block b h1)).trans e⟩
theorem wr_laid {w1 W : World} {K I : Nat} {h : Oh} {sub : Ous} {a1 a2 : Option Addr} {c1 c2 : Nat} (hc : h.keys.length ≤ c1) (hK : W.heap[K]? = some (.cells #[.string ⟨#[112]⟩, .string ⟨#[113]⟩] 9 (0, 0)))
    (hI : W.heap[I]? = some (.cells #[.int .i64 h.k, .int .i64 h.n, .string h.t, .slice a1 h.keys.length c1, .slice a2 sub.len c2, .int .i64 1, .int .i64 3, .string ⟨#[]⟩, .slice none 0 0, .slice none 0 0] 26 (0, 0))) (r1 : KeRow 0 W.heap.size W a1 h.keys) (r2 : OuRow 0 W.heap.size W a2 sub) : Wr K I h sub W := by
  refine ⟨.inr ⟨K, 0, rfl, Nat.zero_le _, (Array.getElem?_eq_some_iff.1 hK).1, fun i z hz => ?_⟩, .inr ⟨I, 0, rfl, Nat.zero_le _, (Array.getElem?_eq_some_iff.1 hI).1, ?_⟩⟩
  · show rdOf _ _ (0 + i * 1) = _
    rw [row_rd hK, Nat.zero_add, Nat.mul_one]
    match i, hz with
    | 0, hz => simp at hz; subst hz; rfl
    | 1, hz => simp at hz; subst hz; rfl
  · rw [row_rd hI]
    exact .inr ⟨⟨rfl, rfl, rfl, a1, c1, rfl, hc, r1⟩, ⟨a2, c2, rfl, r2⟩, .inr ⟨⟨rfl, rfl, rfl, none, 0, rfl, Nat.le_refl _, .inl rfl⟩, ⟨none, 0, rfl, .inl rfl⟩, trivial⟩⟩
set_option maxHeartbeats 16000000 in
set_option maxRecDepth 40000 in
theorem fn_out (n c n2 c2' : Nat) (a b : Option Addr) (w : World) (hr : ByteRow w.heap.size w a n) (hr2 : ByteRow w.heap.size w b n2) (hv : Vars w) (ht : Er.TabH w) :
    Calls Tryz.prog 3 #[.slice a n c, .slice b n2 c2'] w fun e w' => e = .returned (.bool true) ∧ Below w.heap.size w w' := by
  have HA : Hid _ := hr
  have HB : Hid _ := hr2
  have HV : Hid _ := hv
  have HT : Hid _ := ht
  clear hr hr2 hv ht
  by_cases h1 : 1048576 < n
  · have h1' : (1048576 : Int) < n := by omega
    go_enter Tryz.func3, Tryz.ntmps3
    go_wp2_with fail
    go_ret
    exact ⟨rfl, Below.refl _ _⟩
  by_cases h2 : 1048576 < n2
  · have h1' : ¬ (1048576 : Int) < n := by omega
    have h2' : (1048576 : Int) < n2 := by omega
    go_enter Tryz.func3, Tryz.ntmps3
    go_wp2_with fail
    go_ret
    exact ⟨rfl, Below.refl _ _⟩
  have h1' : ¬ (1048576 : Int) < n := by omega
  have h2' : ¬ (1048576 : Int) < n2 := by omega
  obtain ⟨v1, hv1, hat⟩ := at_one b n2 c2' 19 w HB.out (by omega) (by omega) (by omega)
  have HAT : Hid _ := hat
  clear hat
  go_enter Tryz.func3, Tryz.ntmps3
  go_wp2_with fail
  refine (out_drawn n c a _ HA.out (by omega)).mono ?_
  rintro e w1 ⟨⟨h, sub, a1, a2, c1, c2, rfl, hc, r1, r2, hd⟩, b1⟩
  have HD : Hid (DrawnB 3 h sub) := hd
  have HR1 : Hid (KeRow 0 w1.heap.size w1 a1 h.keys ∧ OuRow 0 w1.heap.size w1 a2 sub) := ⟨r1, r2⟩
  have B1 : Hid _ := b1
  have z1 := b1.size
  clear r1 r2 hd b1
  obtain ⟨w2, hw2⟩ : ∃ x : World, x = (((w1.alloc (.cells #[.int .i64 h.k, .int .i64 h.n, .string h.t, .slice a1 h.keys.length c1, .slice a2 sub.len c2] 26)).alloc (.cells #[.string ⟨#[112]⟩, .string ⟨#[113]⟩] 9)).alloc (.cells #[.int .i64 h.k, .int .i64 h.n, .string h.t, .slice a1 h.keys.length c1, .slice a2 sub.len c2, .int .i64 1, .int .i64 3, .string ⟨#[]⟩, .slice none 0 0, .slice none 0 0] 26)).alloc (.cells #[.int .i64 4, .int .i64 0, .string ⟨#[]⟩, .slice (some ⟨w1.heap.size + 1, 0, none⟩) 2 2, .slice (some ⟨w1.heap.size + 1 + 1, 0, none⟩) 2 2] 26) := ⟨_, rfl⟩
  have b2 : Below w1.heap.size w1 w2 := by
    rw [hw2]
    repeat (first | exact Below.refl _ _ | refine Below.alloc ?_ (by first | omega | (simp <;> omega)) _)
  have kX : w2.heap[w1.heap.size]? = some (.cells #[.int .i64 h.k, .int .i64 h.n, .string h.t, .slice a1 h.keys.length c1, .slice a2 sub.len c2] 26 (0, 0)) := by
    rw [hw2, Below.heap_alloc _ _ _ (by simp <;> omega), Below.heap_alloc _ _ _ (by simp <;> omega), Below.heap_alloc _ _ _ (by simp)]; exact heap_alloc_new _ _
  have kK : w2.heap[w1.heap.size + 1]? = some (.cells #[.string ⟨#[112]⟩, .string ⟨#[113]⟩] 9 (0, 0)) := by
    rw [hw2, Below.heap_alloc _ _ _ (by simp <;> omega), Below.heap_alloc _ _ _ (by simp)]
    have := heap_alloc_new (w1.alloc (.cells #[.int .i64 h.k, .int .i64 h.n, .string h.t, .slice a1 h.keys.length c1, .slice a2 sub.len c2] 26)) (.cells #[.string ⟨#[112]⟩, .string ⟨#[113]⟩] 9)
    simpa using this
  have kI : w2.heap[w1.heap.size + 1 + 1]? = some (.cells #[.int .i64 h.k, .int .i64 h.n, .string h.t, .slice a1 h.keys.length c1, .slice a2 sub.len c2, .int .i64 1, .int .i64 3, .string ⟨#[]⟩, .slice none 0 0, .slice none 0 0] 26 (0, 0)) := by
    rw [hw2, Below.heap_alloc _ _ _ (by simp)]
    have := heap_alloc_new ((w1.alloc (.cells #[.int .i64 h.k, .int .i64 h.n, .string h.t, .slice a1 h.keys.length c1, .slice a2 sub.len c2] 26)).alloc (.cells #[.string ⟨#[112]⟩, .string ⟨#[113]⟩] 9)) (.cells #[.int .i64 h.k, .int .i64 h.n, .string h.t, .slice a1 h.keys.length c1, .slice a2 sub.len c2, .int .i64 1, .int .i64 3, .string ⟨#[]⟩, .slice none 0 0, .slice none 0 0] 26)
    simpa using this
  have kO : w2.heap[w1.heap.size + 1 + 1 + 1]? = some (.cells #[.int .i64 4, .int .i64 0, .string ⟨#[]⟩, .slice (some ⟨w1.heap.size + 1, 0, none⟩) 2 2, .slice (some ⟨w1.heap.size + 1 + 1, 0, none⟩) 2 2] 26 (0, 0)) := by
    rw [hw2]
    have := heap_alloc_new (((w1.alloc (.cells #[.int .i64 h.k, .int .i64 h.n, .string h.t, .slice a1 h.keys.length c1, .slice a2 sub.len c2] 26)).alloc (.cells #[.string ⟨#[112]⟩, .string ⟨#[113]⟩] 9)).alloc (.cells #[.int .i64 h.k, .int .i64 h.n, .string h.t, .slice a1 h.keys.length c1, .slice a2 sub.len c2, .int .i64 1, .int .i64 3, .string ⟨#[]⟩, .slice none 0 0, .slice none 0 0] 26)) (.cells #[.int .i64 4, .int .i64 0, .string ⟨#[]⟩, .slice (some ⟨w1.heap.size + 1, 0, none⟩) 2 2, .slice (some ⟨w1.heap.size + 1 + 1, 0, none⟩) 2 2] 26)
    simpa using this
  obtain ⟨O, hO⟩ : ∃ O, O = w1.heap.size + 1 + 1 + 1 := ⟨_, rfl⟩
  obtain ⟨I, hI⟩ : ∃ I, I = w1.heap.size + 1 + 1 := ⟨_, rfl⟩
  obtain ⟨K, hK⟩ : ∃ K, K = w1.heap.size + 1 := ⟨_, rfl⟩
  obtain ⟨X, hX⟩ : ∃ X, X = w1.heap.size := ⟨_, rfl⟩
  rw [← hO, ← hI, ← hK] at kO
  rw [← hI] at kI
  rw [← hK] at kK
  rw [← hX] at kX
  have zX := (Array.getElem?_eq_some_iff.1 kX).1
  have zK := (Array.getElem?_eq_some_iff.1 kK).1
  have zI := (Array.getElem?_eq_some_iff.1 kI).1
  have zO := (Array.getElem?_eq_some_iff.1 kO).1
  have T : Hid (∀ W, Below w2.heap.size w2 W → W.heap[X]? = some (.cells #[.int .i64 h.k, .int .i64 h.n, .string h.t, .slice a1 h.keys.length c1, .slice a2 sub.len c2] 26 (0, 0)) ∧ W.heap[O]? = some (.cells #[.int .i64 4, .int .i64 0, .string ⟨#[]⟩, .slice (some ⟨K, 0, none⟩) 2 2, .slice (some ⟨I, 0, none⟩) 2 2] 26 (0, 0)) ∧ Wr K I h sub W ∧ KeRow 0 W.heap.size W a1 h.keys ∧ OuRow 0 W.heap.size W a2 sub ∧ ByteRow W.heap.size W b n2 ∧ Vars W ∧ Er.TabH W ∧ Below w.heap.size w W) := fun W hW => by
    have h2 : Below w1.heap.size w1 W := b2.trans (hW.mono b2.size)
    have h3 : Below w.heap.size w W := B1.out.trans (h2.mono z1)
    have q1 := KeRow.up HR1.out.1 h2
    have q2 := OuRow.up HR1.out.2 h2
    exact ⟨(hW.block _ zX).trans kX, (hW.block _ zO).trans kO, wr_laid (w1 := w1) hc ((hW.block _ zK).trans kK) ((hW.block _ zI).trans kI) q1 q2, q1, q2, ByteRow.far HB.out h3, Vars.up HV.out h3, Er.TabH.keep HT.out h3, h3⟩
  go_upto_region 5 with fail
  rw [← hw2, ← hO, ← hI, ← hK, ← hX]
  clear hw2 b2 kX kK kI kO zX zK zI zO hX hK hI hO HR1 B1 HA HB HV HT z1
  have x1 := fun o => row_cell (T.out _ (Below.refl _ _)).2.1 o
  go_wp2_with fail
  refine (fn_textI HD.out (T.out _ (Below.refl _ _)).2.2.1 (Vars.pow (T.out _ (Below.refl _ _)).2.2.2.2.2.2.1)).mono ?_
  rintro e w5 ⟨rfl, bq⟩
  have zq := bq.size
  clear x1
  have bb : Below w2.heap.size w2 w5 := bq
  have T2 : Hid (∀ W, Below w5.heap.size w5 W → W.heap[X]? = some (.cells #[.int .i64 h.k, .int .i64 h.n, .string h.t, .slice a1 h.keys.length c1, .slice a2 sub.len c2] 26 (0, 0)) ∧ W.heap[O]? = some (.cells #[.int .i64 4, .int .i64 0, .string ⟨#[]⟩, .slice (some ⟨K, 0, none⟩) 2 2, .slice (some ⟨I, 0, none⟩) 2 2] 26 (0, 0)) ∧ Wr K I h sub W ∧ KeRow 0 W.heap.size W a1 h.keys ∧ OuRow 0 W.heap.size W a2 sub ∧ ByteRow W.heap.size W b n2 ∧ Vars W ∧ Er.TabH W ∧ Below w.heap.size w W) := fun W hW => by
    have hq : Below w2.heap.size w2 W := Below.trans bb (hW.mono (by have h1 := (bb).size; omega))
    have t := T.out W hq
    exact ⟨t.1, t.2.1, t.2.2.1, t.2.2.2.1, t.2.2.2.2.1, t.2.2.2.2.2.1, t.2.2.2.2.2.2.1, t.2.2.2.2.2.2.2.1, t.2.2.2.2.2.2.2.2⟩
  clear T
  have T := T2
  clear T2
  go_upto_region 6 with fail
  clear bq bb zq
  generalize hTX : txW h sub = tx
  have HTX : Hid (txW h sub = tx) := hTX
  have htx : 0 < tx.size := by rw [← hTX]; exact wrap_text h sub
  clear hTX
  have x1 := fun o => row_cell (T.out _ (Below.refl _ _)).2.1 o
  go_wp2_with fail
  refine (fn_textS HD.out (T.out _ (Below.refl _ _)).2.2.1).mono ?_
  rintro e w6 ⟨rfl, bq⟩
  rw [HTX.out]
  have zq := bq.size
  clear x1
  have bb : Below w5.heap.size w5 w6 := bq
  have T2 : Hid (∀ W, Below w6.heap.size w6 W → W.heap[X]? = some (.cells #[.int .i64 h.k, .int .i64 h.n, .string h.t, .slice a1 h.keys.length c1, .slice a2 sub.len c2] 26 (0, 0)) ∧ W.heap[O]? = some (.cells #[.int .i64 4, .int .i64 0, .string ⟨#[]⟩, .slice (some ⟨K, 0, none⟩) 2 2, .slice (some ⟨I, 0, none⟩) 2 2] 26 (0, 0)) ∧ Wr K I h sub W ∧ KeRow 0 W.heap.size W a1 h.keys ∧ OuRow 0 W.heap.size W a2 sub ∧ ByteRow W.heap.size W b n2 ∧ Vars W ∧ Er.TabH W ∧ Below w.heap.size w W) := fun W hW => by
    have hq : Below w5.heap.size w5 W := Below.trans bb (hW.mono (by have h1 := (bb).size; omega))
    have t := T.out W hq
    exact ⟨t.1, t.2.1, t.2.2.1, t.2.2.2.1, t.2.2.2.2.1, t.2.2.2.2.2.1, t.2.2.2.2.2.2.1, t.2.2.2.2.2.2.2.1, t.2.2.2.2.2.2.2.2⟩
  clear T
  have T := T2
  clear T2
  go_upto_region 7 with fail
  clear bq bb zq
  have x1 := fun o => row_cell (T.out _ (Below.refl _ _)).2.1 o
  go_wp2_with fail
  refine (fn_atP HD.out (T.out _ (Below.refl _ _)).2.2.1).mono ?_
  rintro e w7 ⟨⟨p1, p2, q1, q2, rfl, rp1, rp2⟩, bq⟩
  have HP1 : Hid (KeRow 0 w7.heap.size w7 p1 h.keys ∧ OuRow 0 w7.heap.size w7 p2 sub) := ⟨rp1, rp2⟩
  have zq := bq.size
  clear x1
  obtain ⟨vY, hvY⟩ : ∃ x : World, x = w7.alloc (.cells #[.int .i64 h.k, .int .i64 h.n, .string h.t, .slice p1 h.keys.length q1, .slice p2 sub.len q2] 26) := ⟨_, rfl⟩
  have bvY : Below w7.heap.size w7 vY := by rw [hvY]; exact (Below.refl _ _).alloc (Nat.le_refl _) _
  have cvY : vY.heap[w7.heap.size]? = some (.cells #[.int .i64 h.k, .int .i64 h.n, .string h.t, .slice p1 h.keys.length q1, .slice p2 sub.len q2] 26 (0, 0)) := by rw [hvY]; exact heap_alloc_new _ _
  have zvY := (Array.getElem?_eq_some_iff.1 cvY).1
  obtain ⟨Y, hY⟩ : ∃ Y, Y = w7.heap.size := ⟨_, rfl⟩
  rw [← hY] at cvY zvY
  have bb : Below w6.heap.size w6 vY := bq.trans (bvY.mono zq)
  have T2 : Hid (∀ W, Below vY.heap.size vY W → W.heap[X]? = some (.cells #[.int .i64 h.k, .int .i64 h.n, .string h.t, .slice a1 h.keys.length c1, .slice a2 sub.len c2] 26 (0, 0)) ∧ W.heap[O]? = some (.cells #[.int .i64 4, .int .i64 0, .string ⟨#[]⟩, .slice (some ⟨K, 0, none⟩) 2 2, .slice (some ⟨I, 0, none⟩) 2 2] 26 (0, 0)) ∧ Wr K I h sub W ∧ KeRow 0 W.heap.size W a1 h.keys ∧ OuRow 0 W.heap.size W a2 sub ∧ ByteRow W.heap.size W b n2 ∧ Vars W ∧ Er.TabH W ∧ Below w.heap.size w W ∧ W.heap[Y]? = some (.cells #[.int .i64 h.k, .int .i64 h.n, .string h.t, .slice p1 h.keys.length q1, .slice p2 sub.len q2] 26 (0, 0)) ∧ KeRow 0 W.heap.size W p1 h.keys ∧ OuRow 0 W.heap.size W p2 sub) := fun W hW => by
    have hq : Below w6.heap.size w6 W := Below.trans bb (hW.mono (by have h1 := (bb).size; omega))
    have t := T.out W hq
    exact ⟨t.1, t.2.1, t.2.2.1, t.2.2.2.1, t.2.2.2.2.1, t.2.2.2.2.2.1, t.2.2.2.2.2.2.1, t.2.2.2.2.2.2.2.1, t.2.2.2.2.2.2.2.2, (hW.block _ zvY).trans cvY, KeRow.up HP1.out.1 ((bvY).trans (hW.mono (bvY).size)), OuRow.up HP1.out.2 ((bvY).trans (hW.mono (bvY).size))⟩
  clear T
  have T := T2
  clear T2
  go_upto_region 8 with fail
  rw [← hvY, ← hY]
  clear hvY bvY cvY zvY hY bb bq zq
  clear HP1 rp1 rp2
  have x1 := fun o => row_cell (T.out _ (Below.refl _ _)).2.1 o
  go_wp2_with fail
  refine (fn_atR HD.out (T.out _ (Below.refl _ _)).2.2.1).mono ?_
  rintro e w8 ⟨⟨s1, s2, t1, t2, rfl⟩, bq⟩
  have zq := bq.size
  clear x1
  obtain ⟨vZ, hvZ⟩ : ∃ x : World, x = w8.alloc (.cells #[.int .i64 0, .int .i64 0, .string ⟨#[]⟩, .slice s1 0 t1, .slice s2 0 t2] 26) := ⟨_, rfl⟩
  have bvZ : Below w8.heap.size w8 vZ := by rw [hvZ]; exact (Below.refl _ _).alloc (Nat.le_refl _) _
  have cvZ : vZ.heap[w8.heap.size]? = some (.cells #[.int .i64 0, .int .i64 0, .string ⟨#[]⟩, .slice s1 0 t1, .slice s2 0 t2] 26 (0, 0)) := by rw [hvZ]; exact heap_alloc_new _ _
  have zvZ := (Array.getElem?_eq_some_iff.1 cvZ).1
  obtain ⟨Z, hZ⟩ : ∃ Z, Z = w8.heap.size := ⟨_, rfl⟩
  rw [← hZ] at cvZ zvZ
  have bb : Below vY.heap.size vY vZ := bq.trans (bvZ.mono zq)
  have T2 : Hid (∀ W, Below vZ.heap.size vZ W → W.heap[X]? = some (.cells #[.int .i64 h.k, .int .i64 h.n, .string h.t, .slice a1 h.keys.length c1, .slice a2 sub.len c2] 26 (0, 0)) ∧ W.heap[O]? = some (.cells #[.int .i64 4, .int .i64 0, .string ⟨#[]⟩, .slice (some ⟨K, 0, none⟩) 2 2, .slice (some ⟨I, 0, none⟩) 2 2] 26 (0, 0)) ∧ Wr K I h sub W ∧ KeRow 0 W.heap.size W a1 h.keys ∧ OuRow 0 W.heap.size W a2 sub ∧ ByteRow W.heap.size W b n2 ∧ Vars W ∧ Er.TabH W ∧ Below w.heap.size w W ∧ W.heap[Y]? = some (.cells #[.int .i64 h.k, .int .i64 h.n, .string h.t, .slice p1 h.keys.length q1, .slice p2 sub.len q2] 26 (0, 0)) ∧ KeRow 0 W.heap.size W p1 h.keys ∧ OuRow 0 W.heap.size W p2 sub ∧ W.heap[Z]? = some (.cells #[.int .i64 0, .int .i64 0, .string ⟨#[]⟩, .slice s1 0 t1, .slice s2 0 t2] 26 (0, 0))) := fun W hW => by
    have hq : Below vY.heap.size vY W := Below.trans bb (hW.mono (by have h1 := (bb).size; omega))
    have t := T.out W hq
    exact ⟨t.1, t.2.1, t.2.2.1, t.2.2.2.1, t.2.2.2.2.1, t.2.2.2.2.2.1, t.2.2.2.2.2.2.1, t.2.2.2.2.2.2.2.1, t.2.2.2.2.2.2.2.2.1, t.2.2.2.2.2.2.2.2.2.1, t.2.2.2.2.2.2.2.2.2.2.1, t.2.2.2.2.2.2.2.2.2.2.2, (hW.block _ zvZ).trans cvZ⟩
  clear T
  have T := T2
  clear T2
  go_upto_region 9 with fail
  rw [← hvZ, ← hZ]
  clear hvZ bvZ cvZ zvZ hZ bb bq zq
  obtain ⟨w9, hw9⟩ : ∃ x : World, x = ((vZ.alloc (.cells #[] 9)).alloc (.cells #[.string ⟨#[97, 46, 48, 46, 98]⟩] 9)).alloc (.cells #[.slice (some ⟨vZ.heap.size, 0, none⟩) 0 0, .slice (some ⟨vZ.heap.size + 1, 0, none⟩) 1 1] 23) := ⟨_, rfl⟩
  have b9 : Below vZ.heap.size vZ w9 := by
    rw [hw9]
    repeat (first | exact Below.refl _ _ | refine Below.alloc ?_ (by first | omega | (simp <;> omega)) _)
  have kP : w9.heap[vZ.heap.size + 1]? = some (.cells #[.string ⟨#[97, 46, 48, 46, 98]⟩] 9 (0, 0)) := by
    rw [hw9, Below.heap_alloc _ _ _ (by simp)]
    have := heap_alloc_new (vZ.alloc (.cells #[] 9)) (.cells #[.string ⟨#[97, 46, 48, 46, 98]⟩] 9)
    simpa using this
  have kM : w9.heap[vZ.heap.size + 1 + 1]? = some (.cells #[.slice (some ⟨vZ.heap.size, 0, none⟩) 0 0, .slice (some ⟨vZ.heap.size + 1, 0, none⟩) 1 1] 23 (0, 0)) := by
    rw [hw9]
    have := heap_alloc_new ((vZ.alloc (.cells #[] 9)).alloc (.cells #[.string ⟨#[97, 46, 48, 46, 98]⟩] 9)) (.cells #[.slice (some ⟨vZ.heap.size, 0, none⟩) 0 0, .slice (some ⟨vZ.heap.size + 1, 0, none⟩) 1 1] 23)
    simpa using this
  have zP := (Array.getElem?_eq_some_iff.1 kP).1
  have zM := (Array.getElem?_eq_some_iff.1 kM).1
  obtain ⟨M, hM⟩ : ∃ M, M = vZ.heap.size + 1 + 1 := ⟨_, rfl⟩
  obtain ⟨P, hP⟩ : ∃ P, P = vZ.heap.size + 1 := ⟨_, rfl⟩
  obtain ⟨E, hE⟩ : ∃ E, E = vZ.heap.size := ⟨_, rfl⟩
  rw [← hM, ← hP, ← hE] at kM
  rw [← hM] at zM
  rw [← hP] at kP zP
  have T2 : Hid (∀ W, Below w9.heap.size w9 W → W.heap[X]? = some (.cells #[.int .i64 h.k, .int .i64 h.n, .string h.t, .slice a1 h.keys.length c1, .slice a2 sub.len c2] 26 (0, 0)) ∧ W.heap[O]? = some (.cells #[.int .i64 4, .int .i64 0, .string ⟨#[]⟩, .slice (some ⟨K, 0, none⟩) 2 2, .slice (some ⟨I, 0, none⟩) 2 2] 26 (0, 0)) ∧ Wr K I h sub W ∧ KeRow 0 W.heap.size W a1 h.keys ∧ OuRow 0 W.heap.size W a2 sub ∧ ByteRow W.heap.size W b n2 ∧ Vars W ∧ Er.TabH W ∧ Below w.heap.size w W ∧ W.heap[Y]? = some (.cells #[.int .i64 h.k, .int .i64 h.n, .string h.t, .slice p1 h.keys.length q1, .slice p2 sub.len q2] 26 (0, 0)) ∧ KeRow 0 W.heap.size W p1 h.keys ∧ OuRow 0 W.heap.size W p2 sub ∧ W.heap[Z]? = some (.cells #[.int .i64 0, .int .i64 0, .string ⟨#[]⟩, .slice s1 0 t1, .slice s2 0 t2] 26 (0, 0)) ∧ W.heap[P]? = some (.cells #[.string ⟨#[97, 46, 48, 46, 98]⟩] 9 (0, 0)) ∧ W.heap[M]? = some (.cells #[.slice (some ⟨E, 0, none⟩) 0 0, .slice (some ⟨P, 0, none⟩) 1 1] 23 (0, 0))) := fun W hW => by
    have hq : Below vZ.heap.size vZ W := Below.trans b9 (hW.mono (by have h1 := (b9).size; omega))
    have t := T.out W hq
    exact ⟨t.1, t.2.1, t.2.2.1, t.2.2.2.1, t.2.2.2.2.1, t.2.2.2.2.2.1, t.2.2.2.2.2.2.1, t.2.2.2.2.2.2.2.1, t.2.2.2.2.2.2.2.2.1, t.2.2.2.2.2.2.2.2.2.1, t.2.2.2.2.2.2.2.2.2.2.1, t.2.2.2.2.2.2.2.2.2.2.2.1, t.2.2.2.2.2.2.2.2.2.2.2.2, (hW.block _ zP).trans kP, (hW.block _ zM).trans kM⟩
  clear T
  have T := T2
  clear T2
  go_wp2_with fail
  rw [← hw9, ← hM, ← hP, ← hE]
  clear hw9 b9 kP kM zP zM hM hP hE
  refine (at_zero2 b n2 c2' 2 _ (T.out _ (Below.refl _ _)).2.2.2.2.2.1 (by omega) (by omega) (by omega)).mono ?_
  rintro e w10 ⟨⟨i, hi, rfl⟩, bq⟩
  have zq := bq.size
  have bb : Below w9.heap.size w9 w10 := bq
  have T2 : Hid (∀ W, Below w10.heap.size w10 W → W.heap[X]? = some (.cells #[.int .i64 h.k, .int .i64 h.n, .string h.t, .slice a1 h.keys.length c1, .slice a2 sub.len c2] 26 (0, 0)) ∧ W.heap[O]? = some (.cells #[.int .i64 4, .int .i64 0, .string ⟨#[]⟩, .slice (some ⟨K, 0, none⟩) 2 2, .slice (some ⟨I, 0, none⟩) 2 2] 26 (0, 0)) ∧ Wr K I h sub W ∧ KeRow 0 W.heap.size W a1 h.keys ∧ OuRow 0 W.heap.size W a2 sub ∧ ByteRow W.heap.size W b n2 ∧ Vars W ∧ Er.TabH W ∧ Below w.heap.size w W ∧ W.heap[Y]? = some (.cells #[.int .i64 h.k, .int .i64 h.n, .string h.t, .slice p1 h.keys.length q1, .slice p2 sub.len q2] 26 (0, 0)) ∧ KeRow 0 W.heap.size W p1 h.keys ∧ OuRow 0 W.heap.size W p2 sub ∧ W.heap[Z]? = some (.cells #[.int .i64 0, .int .i64 0, .string ⟨#[]⟩, .slice s1 0 t1, .slice s2 0 t2] 26 (0, 0)) ∧ W.heap[P]? = some (.cells #[.string ⟨#[97, 46, 48, 46, 98]⟩] 9 (0, 0)) ∧ W.heap[M]? = some (.cells #[.slice (some ⟨E, 0, none⟩) 0 0, .slice (some ⟨P, 0, none⟩) 1 1] 23 (0, 0))) := fun W hW => by
    have hq : Below w9.heap.size w9 W := Below.trans bb (hW.mono (by have h1 := (bb).size; omega))
    have t := T.out W hq
    exact ⟨t.1, t.2.1, t.2.2.1, t.2.2.2.1, t.2.2.2.2.1, t.2.2.2.2.2.1, t.2.2.2.2.2.2.1, t.2.2.2.2.2.2.2.1, t.2.2.2.2.2.2.2.2.1, t.2.2.2.2.2.2.2.2.2.1, t.2.2.2.2.2.2.2.2.2.2.1, t.2.2.2.2.2.2.2.2.2.2.2.1, t.2.2.2.2.2.2.2.2.2.2.2.2.1, t.2.2.2.2.2.2.2.2.2.2.2.2.2.1, t.2.2.2.2.2.2.2.2.2.2.2.2.2.2⟩
  clear T
  have T := T2
  clear T2
  clear bq bb zq
  have xM := fun o => row_cell (T.out _ (Below.refl _ _)).2.2.2.2.2.2.2.2.2.2.2.2.2.2 o
  obtain ⟨ps, pa, pc, HPS, hxm⟩ : ∃ (ps : List ByteArray) (pa : Option Addr) (pc : Nat), Hid (PsIs ps ∧ (∀ W, Below w10.heap.size w10 W → KeRow 0 W.heap.size W pa ps)) ∧ w10.cell? ⟨M, i, none⟩ = some (.slice pa ps.length pc) := by
    match i, hi with
    | 0, _ => exact ⟨[], some ⟨E, 0, none⟩, 0, ⟨.inl rfl, fun W _ => .inl rfl⟩, xM 0⟩
    | 1, _ =>
      refine ⟨[pathW], some ⟨P, 0, none⟩, 1, ⟨.inr rfl, fun W hW => .inr ⟨P, 0, rfl, Nat.zero_le _, (Array.getElem?_eq_some_iff.1 (T.out W hW).2.2.2.2.2.2.2.2.2.2.2.2.2.1).1, fun j z hz => ?_⟩⟩, xM 1⟩
      show rdOf _ _ (0 + j * 1) = _
      rw [row_rd (T.out W hW).2.2.2.2.2.2.2.2.2.2.2.2.2.1, Nat.zero_add, Nat.mul_one]
      match j, hz with
      | 0, hz => simp at hz; subst hz; rfl
  clear xM
  have hi' : (i : Int) < 2 := by omega
  have T2 : Hid (∀ W, Below w10.heap.size w10 W → W.heap[X]? = some (.cells #[.int .i64 h.k, .int .i64 h.n, .string h.t, .slice a1 h.keys.length c1, .slice a2 sub.len c2] 26 (0, 0)) ∧ W.heap[O]? = some (.cells #[.int .i64 4, .int .i64 0, .string ⟨#[]⟩, .slice (some ⟨K, 0, none⟩) 2 2, .slice (some ⟨I, 0, none⟩) 2 2] 26 (0, 0)) ∧ Wr K I h sub W ∧ KeRow 0 W.heap.size W a1 h.keys ∧ OuRow 0 W.heap.size W a2 sub ∧ ByteRow W.heap.size W b n2 ∧ Vars W ∧ Er.TabH W ∧ Below w.heap.size w W ∧ W.heap[Y]? = some (.cells #[.int .i64 h.k, .int .i64 h.n, .string h.t, .slice p1 h.keys.length q1, .slice p2 sub.len q2] 26 (0, 0)) ∧ KeRow 0 W.heap.size W p1 h.keys ∧ OuRow 0 W.heap.size W p2 sub ∧ W.heap[Z]? = some (.cells #[.int .i64 0, .int .i64 0, .string ⟨#[]⟩, .slice s1 0 t1, .slice s2 0 t2] 26 (0, 0)) ∧ W.heap[P]? = some (.cells #[.string ⟨#[97, 46, 48, 46, 98]⟩] 9 (0, 0)) ∧ W.heap[M]? = some (.cells #[.slice (some ⟨E, 0, none⟩) 0 0, .slice (some ⟨P, 0, none⟩) 1 1] 23 (0, 0)) ∧ KeRow 0 W.heap.size W pa ps) := fun W hW => by
    have t := T.out W hW
    exact ⟨t.1, t.2.1, t.2.2.1, t.2.2.2.1, t.2.2.2.2.1, t.2.2.2.2.2.1, t.2.2.2.2.2.2.1, t.2.2.2.2.2.2.2.1, t.2.2.2.2.2.2.2.2.1, t.2.2.2.2.2.2.2.2.2.1, t.2.2.2.2.2.2.2.2.2.2.1, t.2.2.2.2.2.2.2.2.2.2.2.1, t.2.2.2.2.2.2.2.2.2.2.2.2.1, t.2.2.2.2.2.2.2.2.2.2.2.2.2.1, t.2.2.2.2.2.2.2.2.2.2.2.2.2.2, HPS.out.2 W hW⟩
  clear T
  have T := T2
  clear T2
  have HPI : Hid (PsIs ps) := HPS.out.1
  clear HPS
  go_upto_region 10 with fail
  clear hxm
  have x1 := fun o => row_cell (T.out _ (Below.refl _ _)).2.1 o
  go_wp2_with fail
  refine (fn_dataI HD.out (T.out _ (Below.refl _ _)).2.2.1 HPI.out (T.out _ (Below.refl _ _)).2.2.2.2.2.2.2.2.2.2.2.2.2.2.2 (T.out _ (Below.refl _ _)).2.2.2.2.2.2.1).mono ?_
  rintro e w11 ⟨rfl, bq⟩
  have zq := bq.size
  clear x1
  have bb : Below w10.heap.size w10 w11 := bq
  have T2 : Hid (∀ W, Below w11.heap.size w11 W → W.heap[X]? = some (.cells #[.int .i64 h.k, .int .i64 h.n, .string h.t, .slice a1 h.keys.length c1, .slice a2 sub.len c2] 26 (0, 0)) ∧ W.heap[O]? = some (.cells #[.int .i64 4, .int .i64 0, .string ⟨#[]⟩, .slice (some ⟨K, 0, none⟩) 2 2, .slice (some ⟨I, 0, none⟩) 2 2] 26 (0, 0)) ∧ Wr K I h sub W ∧ KeRow 0 W.heap.size W a1 h.keys ∧ OuRow 0 W.heap.size W a2 sub ∧ ByteRow W.heap.size W b n2 ∧ Vars W ∧ Er.TabH W ∧ Below w.heap.size w W ∧ W.heap[Y]? = some (.cells #[.int .i64 h.k, .int .i64 h.n, .string h.t, .slice p1 h.keys.length q1, .slice p2 sub.len q2] 26 (0, 0)) ∧ KeRow 0 W.heap.size W p1 h.keys ∧ OuRow 0 W.heap.size W p2 sub ∧ W.heap[Z]? = some (.cells #[.int .i64 0, .int .i64 0, .string ⟨#[]⟩, .slice s1 0 t1, .slice s2 0 t2] 26 (0, 0)) ∧ W.heap[P]? = some (.cells #[.string ⟨#[97, 46, 48, 46, 98]⟩] 9 (0, 0)) ∧ W.heap[M]? = some (.cells #[.slice (some ⟨E, 0, none⟩) 0 0, .slice (some ⟨P, 0, none⟩) 1 1] 23 (0, 0)) ∧ KeRow 0 W.heap.size W pa ps) := fun W hW => by
    have hq : Below w10.heap.size w10 W := Below.trans bb (hW.mono (by have h1 := (bb).size; omega))
    have t := T.out W hq
    exact ⟨t.1, t.2.1, t.2.2.1, t.2.2.2.1, t.2.2.2.2.1, t.2.2.2.2.2.1, t.2.2.2.2.2.2.1, t.2.2.2.2.2.2.2.1, t.2.2.2.2.2.2.2.2.1, t.2.2.2.2.2.2.2.2.2.1, t.2.2.2.2.2.2.2.2.2.2.1, t.2.2.2.2.2.2.2.2.2.2.2.1, t.2.2.2.2.2.2.2.2.2.2.2.2.1, t.2.2.2.2.2.2.2.2.2.2.2.2.2.1, t.2.2.2.2.2.2.2.2.2.2.2.2.2.2.1, t.2.2.2.2.2.2.2.2.2.2.2.2.2.2.2⟩
  clear T
  have T := T2
  clear T2
  go_upto_region 11 with fail
  clear bq bb zq
  generalize hDX : daW h sub ps = dx
  have HDX : Hid (daW h sub ps = dx) := hDX
  clear hDX
  have x1 := fun o => row_cell (T.out _ (Below.refl _ _)).2.1 o
  go_wp2_with fail
  refine (fn_dataS HD.out (T.out _ (Below.refl _ _)).2.2.1 HPI.out (T.out _ (Below.refl _ _)).2.2.2.2.2.2.2.2.2.2.2.2.2.2.2).mono ?_
  rintro e w12 ⟨rfl, bq⟩
  rw [HDX.out]
  have zq := bq.size
  clear x1
  have bb : Below w11.heap.size w11 w12 := bq
  have T2 : Hid (∀ W, Below w12.heap.size w12 W → W.heap[X]? = some (.cells #[.int .i64 h.k, .int .i64 h.n, .string h.t, .slice a1 h.keys.length c1, .slice a2 sub.len c2] 26 (0, 0)) ∧ W.heap[O]? = some (.cells #[.int .i64 4, .int .i64 0, .string ⟨#[]⟩, .slice (some ⟨K, 0, none⟩) 2 2, .slice (some ⟨I, 0, none⟩) 2 2] 26 (0, 0)) ∧ Wr K I h sub W ∧ KeRow 0 W.heap.size W a1 h.keys ∧ OuRow 0 W.heap.size W a2 sub ∧ ByteRow W.heap.size W b n2 ∧ Vars W ∧ Er.TabH W ∧ Below w.heap.size w W ∧ W.heap[Y]? = some (.cells #[.int .i64 h.k, .int .i64 h.n, .string h.t, .slice p1 h.keys.length q1, .slice p2 sub.len q2] 26 (0, 0)) ∧ KeRow 0 W.heap.size W p1 h.keys ∧ OuRow 0 W.heap.size W p2 sub ∧ W.heap[Z]? = some (.cells #[.int .i64 0, .int .i64 0, .string ⟨#[]⟩, .slice s1 0 t1, .slice s2 0 t2] 26 (0, 0)) ∧ W.heap[P]? = some (.cells #[.string ⟨#[97, 46, 48, 46, 98]⟩] 9 (0, 0)) ∧ W.heap[M]? = some (.cells #[.slice (some ⟨E, 0, none⟩) 0 0, .slice (some ⟨P, 0, none⟩) 1 1] 23 (0, 0)) ∧ KeRow 0 W.heap.size W pa ps) := fun W hW => by
    have hq : Below w11.heap.size w11 W := Below.trans bb (hW.mono (by have h1 := (bb).size; omega))
    have t := T.out W hq
    exact ⟨t.1, t.2.1, t.2.2.1, t.2.2.2.1, t.2.2.2.2.1, t.2.2.2.2.2.1, t.2.2.2.2.2.2.1, t.2.2.2.2.2.2.2.1, t.2.2.2.2.2.2.2.2.1, t.2.2.2.2.2.2.2.2.2.1, t.2.2.2.2.2.2.2.2.2.2.1, t.2.2.2.2.2.2.2.2.2.2.2.1, t.2.2.2.2.2.2.2.2.2.2.2.2.1, t.2.2.2.2.2.2.2.2.2.2.2.2.2.1, t.2.2.2.2.2.2.2.2.2.2.2.2.2.2.1, t.2.2.2.2.2.2.2.2.2.2.2.2.2.2.2⟩
  clear T
  have T := T2
  clear T2
  go_upto_region 12 with fail
  clear bq bb zq
  go_wp2_with fail
  refine (HAT.out _ (T.out _ (Below.refl _ _)).2.2.2.2.2.2.2.2.1).mono ?_
  rintro e w13 ⟨rfl, bq⟩
  have zq := bq.size
  have bb : Below w12.heap.size w12 w13 := bq
  have T2 : Hid (∀ W, Below w13.heap.size w13 W → W.heap[X]? = some (.cells #[.int .i64 h.k, .int .i64 h.n, .string h.t, .slice a1 h.keys.length c1, .slice a2 sub.len c2] 26 (0, 0)) ∧ W.heap[O]? = some (.cells #[.int .i64 4, .int .i64 0, .string ⟨#[]⟩, .slice (some ⟨K, 0, none⟩) 2 2, .slice (some ⟨I, 0, none⟩) 2 2] 26 (0, 0)) ∧ Wr K I h sub W ∧ KeRow 0 W.heap.size W a1 h.keys ∧ OuRow 0 W.heap.size W a2 sub ∧ ByteRow W.heap.size W b n2 ∧ Vars W ∧ Er.TabH W ∧ Below w.heap.size w W ∧ W.heap[Y]? = some (.cells #[.int .i64 h.k, .int .i64 h.n, .string h.t, .slice p1 h.keys.length q1, .slice p2 sub.len q2] 26 (0, 0)) ∧ KeRow 0 W.heap.size W p1 h.keys ∧ OuRow 0 W.heap.size W p2 sub ∧ W.heap[Z]? = some (.cells #[.int .i64 0, .int .i64 0, .string ⟨#[]⟩, .slice s1 0 t1, .slice s2 0 t2] 26 (0, 0)) ∧ W.heap[P]? = some (.cells #[.string ⟨#[97, 46, 48, 46, 98]⟩] 9 (0, 0)) ∧ W.heap[M]? = some (.cells #[.slice (some ⟨E, 0, none⟩) 0 0, .slice (some ⟨P, 0, none⟩) 1 1] 23 (0, 0)) ∧ KeRow 0 W.heap.size W pa ps) := fun W hW => by
    have hq : Below w12.heap.size w12 W := Below.trans bb (hW.mono (by have h1 := (bb).size; omega))
    have t := T.out W hq
    exact ⟨t.1, t.2.1, t.2.2.1, t.2.2.2.1, t.2.2.2.2.1, t.2.2.2.2.2.1, t.2.2.2.2.2.2.1, t.2.2.2.2.2.2.2.1, t.2.2.2.2.2.2.2.2.1, t.2.2.2.2.2.2.2.2.2.1, t.2.2.2.2.2.2.2.2.2.2.1, t.2.2.2.2.2.2.2.2.2.2.2.1, t.2.2.2.2.2.2.2.2.2.2.2.2.1, t.2.2.2.2.2.2.2.2.2.2.2.2.2.1, t.2.2.2.2.2.2.2.2.2.2.2.2.2.2.1, t.2.2.2.2.2.2.2.2.2.2.2.2.2.2.2⟩
  clear T
  have T := T2
  clear T2
  clear bq bb zq
  have hve : (1 : Int) ≤ 1 + (v1 : Int) ∧ 1 + (v1 : Int) ≤ 19 := by omega
  have HVE : Hid _ := hve
  clear hve
  go_wp2_with fail
  refine (fn_errI (1 + (v1 : Int)) _ (T.out _ (Below.refl _ _)).2.2.2.2.2.2.2.1 HVE.out).mono ?_
  rintro e w14 ⟨rfl, bq⟩
  have zq := bq.size
  have bb : Below w13.heap.size w13 w14 := bq
  have T2 : Hid (∀ W, Below w14.heap.size w14 W → W.heap[X]? = some (.cells #[.int .i64 h.k, .int .i64 h.n, .string h.t, .slice a1 h.keys.length c1, .slice a2 sub.len c2] 26 (0, 0)) ∧ W.heap[O]? = some (.cells #[.int .i64 4, .int .i64 0, .string ⟨#[]⟩, .slice (some ⟨K, 0, none⟩) 2 2, .slice (some ⟨I, 0, none⟩) 2 2] 26 (0, 0)) ∧ Wr K I h sub W ∧ KeRow 0 W.heap.size W a1 h.keys ∧ OuRow 0 W.heap.size W a2 sub ∧ ByteRow W.heap.size W b n2 ∧ Vars W ∧ Er.TabH W ∧ Below w.heap.size w W ∧ W.heap[Y]? = some (.cells #[.int .i64 h.k, .int .i64 h.n, .string h.t, .slice p1 h.keys.length q1, .slice p2 sub.len q2] 26 (0, 0)) ∧ KeRow 0 W.heap.size W p1 h.keys ∧ OuRow 0 W.heap.size W p2 sub ∧ W.heap[Z]? = some (.cells #[.int .i64 0, .int .i64 0, .string ⟨#[]⟩, .slice s1 0 t1, .slice s2 0 t2] 26 (0, 0)) ∧ W.heap[P]? = some (.cells #[.string ⟨#[97, 46, 48, 46, 98]⟩] 9 (0, 0)) ∧ W.heap[M]? = some (.cells #[.slice (some ⟨E, 0, none⟩) 0 0, .slice (some ⟨P, 0, none⟩) 1 1] 23 (0, 0)) ∧ KeRow 0 W.heap.size W pa ps) := fun W hW => by
    have hq : Below w13.heap.size w13 W := Below.trans bb (hW.mono (by have h1 := (bb).size; omega))
    have t := T.out W hq
    exact ⟨t.1, t.2.1, t.2.2.1, t.2.2.2.1, t.2.2.2.2.1, t.2.2.2.2.2.1, t.2.2.2.2.2.2.1, t.2.2.2.2.2.2.2.1, t.2.2.2.2.2.2.2.2.1, t.2.2.2.2.2.2.2.2.2.1, t.2.2.2.2.2.2.2.2.2.2.1, t.2.2.2.2.2.2.2.2.2.2.2.1, t.2.2.2.2.2.2.2.2.2.2.2.2.1, t.2.2.2.2.2.2.2.2.2.2.2.2.2.1, t.2.2.2.2.2.2.2.2.2.2.2.2.2.2.1, t.2.2.2.2.2.2.2.2.2.2.2.2.2.2.2⟩
  clear T
  have T := T2
  clear T2
  go_upto_region 13 with fail
  clear bq bb zq
  generalize hEX : Er.errT (1 + (v1 : Int)) = ex
  have HEX : Hid (Er.errT (1 + (v1 : Int)) = ex) := hEX
  clear hEX
  go_wp2_with fail
  refine (HAT.out _ (T.out _ (Below.refl _ _)).2.2.2.2.2.2.2.2.1).mono ?_
  rintro e w15 ⟨rfl, bq⟩
  have zq := bq.size
  have bb : Below w14.heap.size w14 w15 := bq
  have T2 : Hid (∀ W, Below w15.heap.size w15 W → W.heap[X]? = some (.cells #[.int .i64 h.k, .int .i64 h.n, .string h.t, .slice a1 h.keys.length c1, .slice a2 sub.len c2] 26 (0, 0)) ∧ W.heap[O]? = some (.cells #[.int .i64 4, .int .i64 0, .string ⟨#[]⟩, .slice (some ⟨K, 0, none⟩) 2 2, .slice (some ⟨I, 0, none⟩) 2 2] 26 (0, 0)) ∧ Wr K I h sub W ∧ KeRow 0 W.heap.size W a1 h.keys ∧ OuRow 0 W.heap.size W a2 sub ∧ ByteRow W.heap.size W b n2 ∧ Vars W ∧ Er.TabH W ∧ Below w.heap.size w W ∧ W.heap[Y]? = some (.cells #[.int .i64 h.k, .int .i64 h.n, .string h.t, .slice p1 h.keys.length q1, .slice p2 sub.len q2] 26 (0, 0)) ∧ KeRow 0 W.heap.size W p1 h.keys ∧ OuRow 0 W.heap.size W p2 sub ∧ W.heap[Z]? = some (.cells #[.int .i64 0, .int .i64 0, .string ⟨#[]⟩, .slice s1 0 t1, .slice s2 0 t2] 26 (0, 0)) ∧ W.heap[P]? = some (.cells #[.string ⟨#[97, 46, 48, 46, 98]⟩] 9 (0, 0)) ∧ W.heap[M]? = some (.cells #[.slice (some ⟨E, 0, none⟩) 0 0, .slice (some ⟨P, 0, none⟩) 1 1] 23 (0, 0)) ∧ KeRow 0 W.heap.size W pa ps) := fun W hW => by
    have hq : Below w14.heap.size w14 W := Below.trans bb (hW.mono (by have h1 := (bb).size; omega))
    have t := T.out W hq
    exact ⟨t.1, t.2.1, t.2.2.1, t.2.2.2.1, t.2.2.2.2.1, t.2.2.2.2.2.1, t.2.2.2.2.2.2.1, t.2.2.2.2.2.2.2.1, t.2.2.2.2.2.2.2.2.1, t.2.2.2.2.2.2.2.2.2.1, t.2.2.2.2.2.2.2.2.2.2.1, t.2.2.2.2.2.2.2.2.2.2.2.1, t.2.2.2.2.2.2.2.2.2.2.2.2.1, t.2.2.2.2.2.2.2.2.2.2.2.2.2.1, t.2.2.2.2.2.2.2.2.2.2.2.2.2.2.1, t.2.2.2.2.2.2.2.2.2.2.2.2.2.2.2⟩
  clear T
  have T := T2
  clear T2
  clear bq bb zq
  go_wp2_with fail
  refine (fn_errS (1 + (v1 : Int)) _ HVE.out).mono ?_
  rintro e w16 ⟨rfl, bq⟩
  rw [HEX.out]
  have zq := bq.size
  have bb : Below w15.heap.size w15 w16 := bq
  have T2 : Hid (∀ W, Below w16.heap.size w16 W → W.heap[X]? = some (.cells #[.int .i64 h.k, .int .i64 h.n, .string h.t, .slice a1 h.keys.length c1, .slice a2 sub.len c2] 26 (0, 0)) ∧ W.heap[O]? = some (.cells #[.int .i64 4, .int .i64 0, .string ⟨#[]⟩, .slice (some ⟨K, 0, none⟩) 2 2, .slice (some ⟨I, 0, none⟩) 2 2] 26 (0, 0)) ∧ Wr K I h sub W ∧ KeRow 0 W.heap.size W a1 h.keys ∧ OuRow 0 W.heap.size W a2 sub ∧ ByteRow W.heap.size W b n2 ∧ Vars W ∧ Er.TabH W ∧ Below w.heap.size w W ∧ W.heap[Y]? = some (.cells #[.int .i64 h.k, .int .i64 h.n, .string h.t, .slice p1 h.keys.length q1, .slice p2 sub.len q2] 26 (0, 0)) ∧ KeRow 0 W.heap.size W p1 h.keys ∧ OuRow 0 W.heap.size W p2 sub ∧ W.heap[Z]? = some (.cells #[.int .i64 0, .int .i64 0, .string ⟨#[]⟩, .slice s1 0 t1, .slice s2 0 t2] 26 (0, 0)) ∧ W.heap[P]? = some (.cells #[.string ⟨#[97, 46, 48, 46, 98]⟩] 9 (0, 0)) ∧ W.heap[M]? = some (.cells #[.slice (some ⟨E, 0, none⟩) 0 0, .slice (some ⟨P, 0, none⟩) 1 1] 23 (0, 0)) ∧ KeRow 0 W.heap.size W pa ps) := fun W hW => by
    have hq : Below w15.heap.size w15 W := Below.trans bb (hW.mono (by have h1 := (bb).size; omega))
    have t := T.out W hq
    exact ⟨t.1, t.2.1, t.2.2.1, t.2.2.2.1, t.2.2.2.2.1, t.2.2.2.2.2.1, t.2.2.2.2.2.2.1, t.2.2.2.2.2.2.2.1, t.2.2.2.2.2.2.2.2.1, t.2.2.2.2.2.2.2.2.2.1, t.2.2.2.2.2.2.2.2.2.2.1, t.2.2.2.2.2.2.2.2.2.2.2.1, t.2.2.2.2.2.2.2.2.2.2.2.2.1, t.2.2.2.2.2.2.2.2.2.2.2.2.2.1, t.2.2.2.2.2.2.2.2.2.2.2.2.2.2.1, t.2.2.2.2.2.2.2.2.2.2.2.2.2.2.2⟩
  clear T
  have T := T2
  clear T2
  go_upto_region 14 with fail
  clear bq bb zq
  have x1 := fun o => row_cell (T.out _ (Below.refl _ _)).2.2.2.2.2.2.2.2.2.1 o
  have x2 := fun o => row_cell (T.out _ (Below.refl _ _)).1 o
  have x3 := fun o => row_cell (T.out _ (Below.refl _ _)).2.1 o
  have htx' : (0 : Int) < tx.size := by omega
  go_wp2_with fail
  refine (same_out sub h p1 p2 a1 a2 q1 q2 c1 c2 _ (T.out _ (Below.refl _ _)).2.2.2.2.2.2.2.2.2.2.1 (T.out _ (Below.refl _ _)).2.2.2.2.2.2.2.2.2.2.2.1 (T.out _ (Below.refl _ _)).2.2.2.1 (T.out _ (Below.refl _ _)).2.2.2.2.1 (drawn_bd HD.out).1 (drawn_bd HD.out).2.1 (drawn_bd HD.out).2.2).mono ?_
  rintro e y1 ⟨rfl, b1⟩
  have Y1 : Hid (Below w16.heap.size w16 y1) := b1
  clear b1 x1 x2 x3
  have x3 := fun o => row_cell (T.out _ Y1.out).2.1 o
  go_wp2_with fail
  refine (fn_ok HD.out (T.out _ Y1.out).2.2.1).mono ?_
  rintro e y2 ⟨rfl, b2⟩
  have Y2 : Hid (Below w16.heap.size w16 y2) := Y1.out.trans (b2.mono Y1.out.size)
  clear b2 x3
  have x3 := fun o => row_cell (T.out _ Y2.out).2.1 o
  go_wp2_with fail
  refine (fn_same HD.out (T.out _ Y2.out).2.2.1).mono ?_
  rintro e y3 ⟨rfl, b3⟩
  have Y3 : Hid (Below w16.heap.size w16 y3) := Y2.out.trans (b3.mono Y2.out.size)
  clear b3 x3
  have x3 := fun o => row_cell (T.out _ Y3.out).2.1 o
  have x2 := fun o => row_cell (T.out _ Y3.out).1 o
  go_wp2_with fail
  refine (fn_other HD.out (T.out _ Y3.out).2.2.1 hc (T.out _ Y3.out).2.2.2.1 (T.out _ Y3.out).2.2.2.2.1).mono ?_
  rintro e y4 ⟨rfl, b4⟩
  have Y4 : Hid (Below w.heap.size w y4) := (T.out _ (Y3.out.trans (b4.mono Y3.out.size))).2.2.2.2.2.2.2.2.1
  clear b4 x3 x2
  go_wp2_with fail
  go_ret
  exact ⟨by simp, Y4.out⟩
end Go.Proofs.YtoaeggfnlenjkaaGreatDoor.G
