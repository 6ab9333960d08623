/- Both sides of OutAt. -/
import Derived.Test.YtlliimlhdpbgdaaGreatDoorOuAt
namespace Go.Proofs.YtlliimlhdpbgdaaGreatDoor.G
open Go.ChangeShapes Go.WideShapes Go.ChangeAt Go.RowKit
set_option linter.unusedVariables false

set_option maxHeartbeats 8000000 in
set_option maxRecDepth 40000 in
theorem impl_outAt (h : Oh) (sub : Ous) (key : ByteArray) (a1 a2 : Option Addr) (c1 c2 : Nat) (w : World) (r1 : KeRow 0 w.heap.size w a1 h.keys) (hc : h.keys.length ≤ c1) (r2 : OuRow 0 w.heap.size w a2 sub) (hb : OhBd 1048576 h) (hl : sub.len ≤ 1048576) (hs : OusBd 1048576 sub) (hk : key.size ≤ 1048576) :
    Calls Tryz.prog 7 #[.agg #[.int .i64 h.k, .int .i64 h.n, .string h.t, .slice a1 h.keys.length c1, .slice a2 sub.len c2], .string key] w fun e w' => SaysI w.heap.size w' (AtR h sub key) e ∧ Below w.heap.size w w' := by
  obtain ⟨V, hV⟩ : ∃ V, V = (w.alloc (.cells #[.int .i64 h.k, .int .i64 h.n, .string h.t, .slice a1 h.keys.length c1, .slice a2 sub.len c2] 26)).alloc (.cells #[.int .i64 0, .int .i64 0, .string ⟨#[]⟩, .slice none 0 0, .slice none 0 0] 26) := ⟨_, rfl⟩
  have BV : Below w.heap.size w V := by
    rw [hV]
    repeat (first | exact Below.refl _ _ | refine Below.alloc ?_ (by first | omega | (simp <;> omega)) _)
  have e1 : V.heap[w.heap.size + 1]? = some (.cells #[.int .i64 0, .int .i64 0, .string ⟨#[]⟩, .slice none 0 0, .slice none 0 0] 26 (0, 0)) := by
    rw [hV]
    have := heap_alloc_new (w.alloc (.cells #[.int .i64 h.k, .int .i64 h.n, .string h.t, .slice a1 h.keys.length c1, .slice a2 sub.len c2] 26)) (.cells #[.int .i64 0, .int .i64 0, .string ⟨#[]⟩, .slice none 0 0, .slice none 0 0] 26 (0, 0))
    simpa using this
  have e0 : V.heap[w.heap.size]? = some (.cells #[.int .i64 h.k, .int .i64 h.n, .string h.t, .slice a1 h.keys.length c1, .slice a2 sub.len c2] 26 (0, 0)) := by
    rw [hV]
    refine (Below.heap_alloc _ _ _ (by simp)).trans ?_
    exact heap_alloc_new _ _
  have zV : V.heap.size = w.heap.size + 2 := by rw [hV]; simp
  have KV : Hid (∀ W, Below V.heap.size V W → W.heap[w.heap.size]? = some (.cells #[.int .i64 h.k, .int .i64 h.n, .string h.t, .slice a1 h.keys.length c1, .slice a2 sub.len c2] 26 (0, 0)) ∧ W.heap[w.heap.size + 1]? = some (.cells #[.int .i64 0, .int .i64 0, .string ⟨#[]⟩, .slice none 0 0, .slice none 0 0] 26 (0, 0)) ∧ KeRow 0 W.heap.size W a1 h.keys ∧ OuRow 0 W.heap.size W a2 sub ∧ Below w.heap.size w W) := fun W hW =>
    have hb := BV.trans (hW.mono BV.size)
    ⟨(hW.block _ (by omega)).trans e0, (hW.block _ (by omega)).trans e1, KeRow.up r1 hb, OuRow.up r2 hb, hb⟩
  have HB : Hid _ := hb
  have HS : Hid _ := hs
  have HBV : Hid _ := BV
  have x0 := fun o => row_cell e0 o
  have x1 := fun o => row_cell e1 o
  have y1 := fun o => row_frozen e1 o
  clear e0 e1 BV r1 r2 hb hs
  go_enter Tryz.func7, Tryz.ntmps7
  go_upto_region 1 with fail
  rw [← hV]
  clear hV
  by_cases hbig : 65536 < key.size
  · have HN : Hid (AtR h sub key oh0 .nil 2) := .inl ⟨hbig, rfl, rfl, rfl⟩
    go_wp2_with fail
    refine bodyPost_ret (v := .tuple #[.agg #[.int .i64 0, .int .i64 0, .string ⟨#[]⟩, .slice none 0 0, .slice none 0 0], .int .i64 2]) (by simp [results, Tryz.results7, go_sem, x1]) rfl ⟨SaysI.zero HN.out (by simp; omega), ?_⟩
    repeat (refine Below.setCell ?_ (by first | omega | (simp <;> omega)) _)
    exact HBV.out
  have hbig' : ¬ (65536 : Int) < key.size := by omega
  have HKB : Hid (¬ 65536 < key.size) := hbig
  clear hbig
  go_wp2_with fail
  refine (impl_outOK h sub a1 a2 c1 c2 _ (KV.out _ (Below.refl _ _)).2.2.1 hc (KV.out _ (Below.refl _ _)).2.2.2.1 HB.out hl HS.out).mono ?_
  rintro e w1 ⟨rfl, hb1⟩
  have HB1 : Hid _ := hb1
  have z1 := hb1.size
  obtain ⟨q0, q1, q2, q3, q4⟩ := KV.out _ hb1
  have HQ2 : Hid _ := q2
  have HQ3 : Hid _ := q3
  have HQ4 : Hid _ := q4
  have p0 := fun o => row_cell q0 o
  have p1 := fun o => row_cell q1 o
  have f1 := fun o => row_frozen q1 o
  clear hb1 q0 q1 q2 q3 q4 x0 x1 y1
  cases ho : outB 20 h sub
  · have HN : Hid (AtR h sub key oh0 .nil 1) := .inr ⟨HKB.out, .inl ⟨by simp [ho], rfl, rfl, rfl⟩⟩
    clear ho
    go_wp2_with fail
    refine bodyPost_ret (v := .tuple #[.agg #[.int .i64 0, .int .i64 0, .string ⟨#[]⟩, .slice none 0 0, .slice none 0 0], .int .i64 1]) (by simp [results, Tryz.results7, go_sem, p1]) rfl ⟨SaysI.zero HN.out (by simp; omega), ?_⟩
    repeat (refine Below.setCell ?_ (by first | omega | (simp <;> omega)) _)
    exact HQ4.out
  by_cases k4 : h.k = 4
  case neg =>
    have k4' : (h.k != 4) = true := by simp [k4]
    have HN : Hid (AtR h sub key oh0 .nil 1) := .inr ⟨HKB.out, .inl ⟨fun e => k4 e.2, rfl, rfl, rfl⟩⟩
    clear ho k4
    go_wp2_with fail
    refine bodyPost_ret (v := .tuple #[.agg #[.int .i64 0, .int .i64 0, .string ⟨#[]⟩, .slice none 0 0, .slice none 0 0], .int .i64 1]) (by simp [results, Tryz.results7, go_sem, p1]) rfl ⟨SaysI.zero HN.out (by simp; omega), ?_⟩
    repeat (refine Below.setCell ?_ (by first | omega | (simp <;> omega)) _)
    exact HQ4.out
  have k4' : (h.k != 4) = false := by simp [k4]
  have HO : Hid (outB 20 h sub = true ∧ h.k = 4) := ⟨ho, k4⟩
  have HKL : Hid (h.keys.length = sub.len) := outB_keys ho k4
  have hkn : h.keys.length ≤ 1048576 := by have := HKL.out; omega
  clear ho k4
  go_wp2_with fail
  refine (impl_index a1 c1 h.keys key w1 HQ2.out hkn).mono ?_
  rintro e w2 ⟨rfl, r, rfl, hr⟩
  rcases hr with ⟨rfl, hn⟩ | ⟨i, hlt, rfl, he, hn⟩
  · have HN : Hid (AtR h sub key oh0 .nil 5) := .inr ⟨HKB.out, .inr ⟨HO.out, .inl ⟨pickO_none HKL.out hn, rfl, rfl, rfl⟩⟩⟩
    clear hn
    go_wp2_with fail
    refine bodyPost_ret (v := .tuple #[.agg #[.int .i64 0, .int .i64 0, .string ⟨#[]⟩, .slice none 0 0, .slice none 0 0], .int .i64 5]) (by simp [results, Tryz.results7, go_sem, p1]) rfl ⟨SaysI.zero HN.out (by simp; omega), ?_⟩
    repeat (refine Below.setCell ?_ (by first | omega | (simp <;> omega)) _)
    exact HQ4.out
  · have hd0 : (drpO i sub).len = sub.len - i := drpO_len i sub
    have hil : i < sub.len := by have := HKL.out; omega
    cases hd : drpO i sub with
    | nil => rw [hd] at hd0; simp only [Ous.len] at hd0; omega
    | cons h' s' r' =>
      have HN : Hid (AtR h sub key h' s' 0) := .inr ⟨HKB.out, .inr ⟨HO.out, .inr ⟨pickO_hit HKL.out hlt hn he hd, rfl⟩⟩⟩
      have hf := OuFrom.drp i 0 sub (OuRow.from_ HQ3.out)
      rw [hd, Nat.zero_add] at hf
      have hbd := drpO_bd i sub HS.out
      rw [hd] at hbd
      obtain ⟨g1, g2, g3, _⟩ := hbd
      have G1 : Hid _ := g1
      have G3 : Hid _ := g3
      obtain ⟨b, o, a1', c1', a2', c2', ha, _, hbl, d0, d1, d2, d3, d4, hc', p1', p2', _⟩ := OuFrom.step hf
      have RK : Hid (KeRow 0 w2.heap.size w2 a1' h'.keys ∧ OuRow 0 w2.heap.size w2 a2' s') := ⟨p1', p2'⟩
      have hil' : (i : Int) < sub.len := by omega
      subst ha
      clear hf g1 g3 p1' p2' hd hd0 he hn
      go_wp2_with fail
      refine (clone_out h' s' (clone_ous s') a1' a2' c1' c2' w2 RK.out.1 RK.out.2 G1.out g2 G3.out).mono ?_
      rintro e w3 ⟨b1, b2, rfl, hp, hb3⟩
      have z3 := hb3.size
      have t1 := fun o => hb3.cell (p := ⟨w.heap.size + 1, o, none⟩) (show w.heap.size + 1 < w2.heap.size by omega)
      have u1 := fun o => hb3.frozen (p := ⟨w.heap.size + 1, o, none⟩) (show w.heap.size + 1 < w2.heap.size by omega)
      have HP : Hid (PartsO w2.heap.size w3.heap.size w3 b1 b2 h' s') := hp
      have HB3 : Hid (Below w.heap.size w w3) := HQ4.out.trans (hb3.mono (by omega))
      clear hb3 hp d0 d1 d2 d3 d4
      go_wp2_with fail
      refine bodyPost_ret (v := .tuple #[ohV h' s' b1 b2 h'.keys.length s'.len, .int .i64 0]) (by simp [results, Tryz.results7, go_sem, ohV, t1, p1]) rfl ?_
      have G : ∀ W' : World, W'.heap.size = w3.heap.size → Agree w2.heap.size w3.heap.size w3 W' → Below w.heap.size w W' → SaysI w.heap.size W' (AtR h sub key) (.returned (.tuple #[ohV h' s' b1 b2 h'.keys.length s'.len, .int .i64 0])) ∧ Below w.heap.size w W' :=
        fun W' hw ha hB => ⟨⟨_, _, _, _, _, _, _, rfl, HN.out, PartsO.wide (PartsO.keep HP.out ha) (by omega) (by omega)⟩, hB⟩
      refine G _ (by simp) ?_ ?_
      · intro g h1 h2
        repeat rw [heap_set _ _ _ _ _ (by omega)]
      · repeat (refine Below.setCell ?_ (by first | omega | (simp <;> omega)) _)
        exact HB3.out
end Go.Proofs.YtlliimlhdpbgdaaGreatDoor.G
