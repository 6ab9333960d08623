/- The program's ParseSchema: what it does where its reader panics, and where not; the specification's face. -/
import Derived.Test.YtnfoinmccigdfaaGreatDoorSsParse
import Derived.Test.YtnfoinmccigdfaaGreatDoorSchImpl
namespace Go.Proofs.YtnfoinmccigdfaaGreatDoor
open Go.ChangeShapes Go.WideShapes Go.ChangeAt Go.RowKit
set_option linter.unusedVariables false

set_option maxHeartbeats 2000000 in
theorem spec_parseSchema (s : ByteArray) (w : World) (hs : s.size ≤ maxLen) : Calls Tryz.prog 4 #[.string s] w (PaIs (lexB s) w) := by
  unfold maxLen at hs
  obtain ⟨V, hV⟩ : ∃ V, V = w.alloc (.cells #[.slice none 0 0] 24) := ⟨_, rfl⟩
  have BV : Hid (Below w.heap.size w V) := by rw [Hid, hV]; exact (Below.refl _ _).alloc (Nat.le_refl _) _
  have cV : Hid (V.heap[w.heap.size]? = some (.cells #[.slice none 0 0] 24 (0, 0))) := by rw [Hid, hV]; exact heap_alloc_new _ _
  have zV : w.heap.size < V.heap.size := by rw [hV]; simp
  by_cases h : 65536 < s.size
  · have HE : Hid (PaR (lexB s) [] 2) := by unfold Hid lexB; rw [if_pos h]; exact .inl ⟨by decide, rfl, rfl⟩
    have x1 := fun o => row_cell cV.out o
    have f1 := fun o => row_frozen cV.out o
    go_enter Tryz.func4, Tryz.ntmps4
    go_upto_region 1 with fail
    rw [← hV]
    clear hV
    go_wp2_with fail
    refine bodyPost_ret (v := .tuple #[.agg #[.slice none 0 0], .int .i64 2]) (by simp [results, Tryz.results4, go_sem, x1]) rfl ⟨[], none, 0, 2, [], rfl, HE.out, .inl ⟨rfl, rfl⟩, List.nodup_nil, fun g hg => by simp at hg, ?_⟩
    repeat (refine Below.setCell ?_ (by simp) _)
    exact BV.out
  · have HQ : Hid _ := spec_l03Parse s V (by omega)
    go_enter Tryz.func4, Tryz.ntmps4
    go_upto_region 1 with fail
    rw [← hV]
    clear hV
    go_wp2_with fail
    refine Calls.mono HQ.out ?_
    rintro e w1 ⟨tds, a, c, code, bs, rfl, hp, ho, hn, hi, hb⟩
    have HP : Hid (PaR (lexB s) tds code) := hp
    have HO : Hid (G.TdOwn w1 a tds bs) := ho
    have HN : Hid bs.Nodup := hn
    have HI : Hid (∀ g ∈ bs, V.heap.size ≤ g ∧ g < w1.heap.size) := hi
    have hz := hb.size
    have C1 : Hid (w1.heap[w.heap.size]? = some (.cells #[.slice none 0 0] 24 (0, 0))) := (hb.block _ zV).trans cV.out
    have B1 : Hid (Below w.heap.size w w1) := BV.out.trans (hb.mono (by omega))
    have x1 := fun o => row_cell C1.out o
    have f1 := fun o => row_frozen C1.out o
    clear hp ho hn hi hb HQ
    go_wp2_with fail
    refine bodyPost_ret (v := .tuple #[.agg #[.slice a tds.length c], .int .i64 code]) (by simp [results, Tryz.results4, go_sem, x1]) rfl ⟨tds, a, c, code, bs, rfl, HP.out, G.TdOwn.same HO.out (fun g hg => ?_), HN.out, fun g hg => ?_, ?_⟩
    · exact heap_setCell_other _ _ _ _ (by have := (HI.out g hg).1; show g ≠ w.heap.size; omega)
    · refine ⟨by have := (HI.out g hg).1; omega, ?_⟩
      have := (HI.out g hg).2
      simpa using this
    · repeat (refine Below.setCell ?_ (by simp) _)
      exact B1.out
set_option maxHeartbeats 1000000 in
theorem catchP_panicking (A B : Nat) (c x : Int) (v0 : Value) (older : List PanicEntry) (w : World) (hA : w.heap[A]? = some (.cells #[v0] 24 (0, 0))) (hB : w.heap[B]? = some (.cells #[.int .i64 x] 3 (0, 0))) (hAB : A ≠ B) :
    CallsD Tryz.prog 11 #[.pointer (some ⟨A, 0, none⟩), .pointer (some ⟨B, 0, none⟩)] (.panicking ({ v := .iface 59 (.agg #[.int .i64 c]), recovered := false } :: older)) w fun e u' w' =>
      e = .returned (.tuple #[]) ∧ u' = .panicking ({ v := .iface 59 (.agg #[.int .i64 c]), recovered := true } :: older) ∧ ∃ w1, Below w.heap.size w w1 ∧ w' = (w1.setCell ⟨A, 0, none⟩ (.slice none 0 0)).setCell ⟨B, 0, none⟩ (.int .i64 c) := by
  refine callsD_of_wpS Tryz.func11 rfl fun c₀ cs hu => ?_
  apply wpS_seq
  apply wpS_region
  simp [wpOpsS, go_sem, recoverD, hu, Tryz.ntmps11, Exit.thenS]
  refine wpS_of_wp ?_
  have dA := row_cell hA 0
  have dB := row_cell hB 0
  have fA := row_frozen hA 0
  have fB := row_frozen hB 0
  simp at dA dB
  have HA : Hid _ := hA
  have HB : Hid _ := hB
  clear hA hB dA dB fA fB
  go_wp2_with fail
  refine (fault_any c _).mono ?_
  rintro e w1 ⟨rfl, hb1⟩
  have hA1 := (hb1.block A (Array.getElem?_eq_some_iff.1 HA.out).1).trans HA.out
  have hB1 := (hb1.block B (Array.getElem?_eq_some_iff.1 HB.out).1).trans HB.out
  have dA := row_cell hA1 0
  have dB := row_cell hB1 0
  have fA := row_frozen hA1 0
  have fB := row_frozen hB1 0
  simp at dA dB
  clear hA1 hB1
  go_wp2_with fail
  simp [bodyPostS, results, Tryz.results11]
  exact ⟨w1, hb1, rfl⟩

theorem catchP_idle (A B : Nat) (w : World) :
    CallsD Tryz.prog 11 #[.pointer (some ⟨A, 0, none⟩), .pointer (some ⟨B, 0, none⟩)] .returning w fun e u' w' => e = .returned (.tuple #[]) ∧ u' = .returning ∧ w' = w := by
  refine callsD_of_wpS Tryz.func11 rfl fun c₀ cs hu => ?_
  apply wpS_seq
  apply wpS_region
  simp [wpOpsS, go_sem, recoverD, hu, Tryz.ntmps11, Exit.thenS]
  refine wpS_of_wp ?_
  go_wp2_with fail
  cases c₀
  simp_all [bodyPostS, results, Tryz.results11]
set_option maxHeartbeats 8000000 in
set_option maxRecDepth 40000 in
theorem impl_parseSchema (s : ByteArray) (w : World) (hs : s.size ≤ maxLen) (hv : Vars w) : Calls Tryz.prog 5 #[.string s] w (PaIs (lexB s) w) := by
  have hmf : ∀ (fn : Fn) (first cap : Array Value) (w : World), (Instr.makeFunc fn first cap).run Tryz.prog w = .ok (.func fn first cap) w := fun _ _ _ _ => rfl
  obtain ⟨V, hV⟩ : ∃ V, V = (w.alloc (.cells #[.slice none 0 0] 24)).alloc (.cells #[.int .i64 0] 3) := ⟨_, rfl⟩
  have BV : Hid (Below w.heap.size w V) := by rw [Hid, hV]; exact ((Below.refl _ _).alloc (Nat.le_refl _) _).alloc (by simp) _
  have cR : Hid (V.heap[w.heap.size]? = some (.cells #[.slice none 0 0] 24 (0, 0))) := by rw [Hid, hV, Below.heap_alloc _ _ _ (by simp)]; exact heap_alloc_new _ _
  have cC : Hid (V.heap[w.heap.size + 1]? = some (.cells #[.int .i64 0] 3 (0, 0))) := by
    rw [Hid, hV]
    have := heap_alloc_new (w.alloc (.cells #[.slice none 0 0] 24)) (.cells #[.int .i64 0] 3)
    simpa using this
  have zV : w.heap.size + 2 ≤ V.heap.size := by rw [hV]; simp
  have HQ : Hid _ := impl_Lex s V hs (hv.below BV.out hv.lt)
  obtain ⟨l, cd, hl⟩ : ∃ l cd, lexB s = (l, cd) := ⟨_, _, rfl⟩
  rw [hl] at HQ ⊢
  have HLX : Hid (TkOk l ∧ TkBd 65540 l ∧ l.length ≤ 4000) := lexB_ok hl
  have hll := HLX.out.2.2
  clear hl hs hv
  go_enter_defers Tryz.func5, Tryz.ntmps5
  go_upto_region 1 with fail
  rw [← hV]
  clear hV
  have xC := fun o => row_cell cC.out o
  go_wp2_with fail
  refine Calls.mono HQ.out ?_
  rintro e w1 ⟨a, c, rfl, o1, b1⟩
  have z1 := b1.size
  have B1 : Hid (Below w.heap.size w w1) := BV.out.trans (b1.mono (by omega))
  have R1 : Hid (w1.heap[w.heap.size]? = some (.cells #[.slice none 0 0] 24 (0, 0))) := (b1.block _ (by omega)).trans cR.out
  have C1 : Hid (w1.heap[w.heap.size + 1]? = some (.cells #[.int .i64 0] 3 (0, 0))) := (b1.block _ (by omega)).trans cC.out
  have RT : Hid (TkRow V.heap.size w1.heap.size w1 a l) := own_tkRow o1
  clear o1 b1 HQ BV cR cC xC
  have x1 := fun o => row_cell C1.out o
  have f1 := fun o => row_frozen C1.out o
  go_upto_region 2 with fail
  obtain ⟨w2, hw2⟩ : ∃ z : World, z = w1.setCell ⟨w.heap.size + 1, 0, none⟩ (.int .i64 cd) := ⟨_, rfl⟩
  rw [← hw2]
  have R2 : Hid (w2.heap[w.heap.size]? = some (.cells #[.slice none 0 0] 24 (0, 0))) := by rw [Hid, hw2, heap_setCell_other _ _ _ _ (by show w.heap.size ≠ w.heap.size + 1; omega)]; exact R1.out
  have C2 : Hid (w2.heap[w.heap.size + 1]? = some (.cells #[.int .i64 cd] 3 (0, 0))) := by rw [Hid, hw2]; exact row_set C1.out 0 _
  have B2 : Hid (Below w.heap.size w w2) := by rw [Hid, hw2]; exact B1.out.setCell (by show w.heap.size ≤ w.heap.size + 1; omega) _
  have z2 : w2.heap.size = w1.heap.size := by rw [hw2]; simp
  have RT2 : Hid (TkRow 0 w2.heap.size w2 a l) := by
    rw [Hid, z2]
    rcases RT.out with h0 | ⟨b, o, rfl, h1, h2, h3⟩
    · exact .inl h0
    · refine .inr ⟨b, o, rfl, Nat.zero_le _, h2, fun i x hx => ?_⟩
      have e : G.rdOf w2 b = G.rdOf w1 b := by
        funext q
        rw [hw2]
        refine World.cell?_of_block (heap_setCell_other _ _ _ _ ?_)
        show b ≠ w.heap.size + 1
        omega
      rw [e]; exact h3 i x hx
  have zz2 : w.heap.size + 2 ≤ w2.heap.size := by omega
  clear hw2 RT R1 C1 x1 f1 B1 z2 z1
  have xC := fun o => row_cell C2.out o
  have fC := fun o => row_frozen C2.out o
  have xR := fun o => row_cell R2.out o
  have fR := fun o => row_frozen R2.out o
  by_cases hc0 : cd = 0
  case neg =>
    have hcb : (cd != 0) = true := by rw [bne_iff_ne]; exact hc0
    have HE : Hid (PaR (l, cd) [] cd) := .inl ⟨hc0, rfl, rfl⟩
    go_upto_region 3 with fail
    go_region
    all_goals
      go_wp2_with fail
      have eR : (((w2.setCell ⟨w.heap.size, 0, none⟩ (.slice none 0 0)).setCell ⟨w.heap.size + 1, 0, none⟩ (.int .i64 cd)).drew).cell? ⟨w.heap.size, 0, none⟩ = some (.slice none 0 0) := row_cell (row_other (row_set R2.out 0 (.slice none 0 0)) (M := w.heap.size + 1) (j := 0) (by omega) (.int .i64 cd)) 0
      have eC : (((w2.setCell ⟨w.heap.size, 0, none⟩ (.slice none 0 0)).setCell ⟨w.heap.size + 1, 0, none⟩ (.int .i64 cd)).drew).cell? ⟨w.heap.size + 1, 0, none⟩ = some (.int .i64 cd) := row_cell (row_set (row_other C2.out (M := w.heap.size) (j := 0) (by omega) (.slice none 0 0)) 0 (.int .i64 cd)) 0
      have eB : Hid (Below w.heap.size w (((w2.setCell ⟨w.heap.size, 0, none⟩ (.slice none 0 0)).setCell ⟨w.heap.size + 1, 0, none⟩ (.int .i64 cd)).drew)) := ((B2.out.setCell (Nat.le_refl _) _).setCell (by show w.heap.size ≤ w.heap.size + 1; omega) _).drew
      generalize ((w2.setCell ⟨w.heap.size, 0, none⟩ (.slice none 0 0)).setCell ⟨w.heap.size + 1, 0, none⟩ (.int .i64 cd)).drew = W3 at *
      simp [bodyPostD, Leaves, results, Tryz.results5, go_sem, eR, eC]
      exact ⟨[], none, 0, cd, [], rfl, HE.out, .inl ⟨rfl, rfl⟩, List.nodup_nil, fun g hg => by simp at hg, eB.out⟩
  subst hc0
  obtain ⟨w3, hw3⟩ : ∃ z, z = w2.alloc (.cells #[.slice a l.length c, .int .i64 0] 37) := ⟨_, rfl⟩
  have B23 : Below w2.heap.size w2 w3 := by rw [hw3]; exact (Below.refl _ _).alloc (Nat.le_refl _) _
  have zL : w2.heap.size + 1 ≤ w3.heap.size := by rw [hw3]; simp
  have S3 : Hid (RdSt 37 #[] w3 w2.heap.size a c l 0) := by
    refine ⟨?_, Nat.zero_le _, ?_⟩
    · rw [hw3]
      have := heap_alloc_new w2 (.cells #[.slice a l.length c, .int .i64 0] 37)
      simpa using this
    · rcases RT2.out with h0 | ⟨b, o, rfl, h1, h2, h3⟩
      · exact .inl h0
      · exact .inr ⟨b, o, rfl, h1, h2, fun i x hx => by
          have e : G.rdOf w3 b = G.rdOf w2 b := by funext q; exact World.cell?_of_block (B23.block b h2)
          rw [e]; exact h3 i x hx⟩
  have R3 : Hid (w3.heap[w.heap.size]? = some (.cells #[.slice none 0 0] 24 (0, 0))) := (B23.block _ (by omega)).trans R2.out
  have C3 : Hid (w3.heap[w.heap.size + 1]? = some (.cells #[.int .i64 0] 3 (0, 0))) := (B23.block _ (by omega)).trans C2.out
  have B3 : Hid (Below w.heap.size w w3) := B2.out.trans (B23.mono (by omega))
  have HQS : Hid _ := sp_schema #[] w2.heap.size c 0 a l w3 S3.out (by omega)
  go_upto_region 6 with fail
  rw [← hw3]
  clear hw3 B23 RT2 xC fC xR fR R2 C2 B2
  obtain ⟨L, hLL⟩ : ∃ z, z = w2.heap.size := ⟨_, rfl⟩
  rw [← hLL] at HQS S3 ⊢
  rw [← hLL] at zL zz2
  clear hLL
  go_wp2_with fail
  refine Calls.mono HQS.out ?_
  rintro e w4 ⟨⟨r, hr, ⟨ts, k, a4, c4, rfl, rfl, t4⟩ | ⟨rfl, rfl⟩⟩, g4⟩
  case inr =>
    have HE : Hid (PaR (l, 0) [] 3) := .inr ⟨rfl, .inl ⟨hr, rfl, rfl⟩⟩
    have R4 := grown_keeps R3.out (by omega) g4 (by omega)
    have C4 := grown_keeps C3.out (by omega) g4 (by omega)
    have q1 : Below w.heap.size w w4 := B3.out.grown g4 (by omega) (fun k e => by simp only [Option.some.injEq] at e; omega)
    clear hr g4 HQS S3 R3 C3 B3
    go_wp2_with fail
    refine leaves_cons (f := 11) (args := #[.pointer (some ⟨w.heap.size, 0, none⟩), .pointer (some ⟨w.heap.size + 1, 0, none⟩)]) (by simp) (by simp [go_sem]) ?_
    refine (catchP_panicking w.heap.size (w.heap.size + 1) 3 0 (.slice none 0 0) [] _ R4 C4 (by omega)).mono ?_
    rintro e u' w'' ⟨rfl, rfl, w5, hb5, rfl⟩
    have hA2 := (hb5.block _ (Array.getElem?_eq_some_iff.1 R4).1).trans R4
    have hB2 := (hb5.block _ (Array.getElem?_eq_some_iff.1 C4).1).trans C4
    have hA3 := row_other (row_set hA2 0 (.slice none 0 0)) (M := w.heap.size + 1) (j := 0) (by omega) (.int .i64 3)
    have hB3 := row_set (row_other hB2 (M := w.heap.size) (j := 0) (by omega) (.slice none 0 0)) 0 (.int .i64 3)
    have q3 : Hid (Below w.heap.size w ((w5.setCell ⟨w.heap.size, 0, none⟩ (.slice none 0 0)).setCell ⟨w.heap.size + 1, 0, none⟩ (.int .i64 3))) := ((q1.trans (hb5.mono q1.size)).setCell (p := ⟨w.heap.size, 0, none⟩) (Nat.le_refl _) (.slice none 0 0)).setCell (p := ⟨w.heap.size + 1, 0, none⟩) (by show w.heap.size ≤ w.heap.size + 1; omega) (.int .i64 3)
    clear hA2 hB2 hb5 q1
    generalize (w5.setCell ⟨w.heap.size, 0, none⟩ (.slice none 0 0)).setCell ⟨w.heap.size + 1, 0, none⟩ (.int .i64 3) = w6 at *
    have eA := row_cell hA3 0
    have eB := row_cell hB3 0
    simp at eA eB
    simp [Leaves, settle, results, Tryz.results5, go_sem, eA, eB]
    exact ⟨[], none, 0, 3, [], rfl, HE.out, .inl ⟨rfl, rfl⟩, List.nodup_nil, fun g hg => by simp at hg, q3.out⟩
  have HM : Hid (Many (eofB l) (TdR l) 0 (some (ts.map tyD, k))) := hr
  have T4 : Hid (TdsAt w3.heap.size w4 (.slice a4 ts.length c4) ts) := t4
  have R4 : Hid (w4.heap[w.heap.size]? = some (.cells #[.slice none 0 0] 24 (0, 0))) := grown_keeps R3.out (by omega) g4 (by omega)
  have C4 : Hid (w4.heap[w.heap.size + 1]? = some (.cells #[.int .i64 0] 3 (0, 0))) := grown_keeps C3.out (by omega) g4 (by omega)
  have B4 : Hid (Below w.heap.size w w4) := B3.out.grown g4 (by omega) (fun k e => by simp only [Option.some.injEq] at e; omega)
  clear hr t4 g4 HQS S3 R3 C3 B3
  have x4 := fun o => row_cell R4.out o
  have f4 := fun o => row_frozen R4.out o
  go_upto_region 7 with fail
  obtain ⟨w5, hw5⟩ : ∃ z : World, z = w4.setCell ⟨w.heap.size, 0, none⟩ (.slice a4 ts.length c4) := ⟨_, rfl⟩
  rw [← hw5]
  have nR : ∀ g, w3.heap.size ≤ g → w5.heap[g]? = w4.heap[g]? := fun g hg => by rw [hw5]; exact heap_setCell_other _ _ _ _ (by show g ≠ w.heap.size; omega)
  have T5 : Hid (TdsAt w3.heap.size w5 (.slice a4 ts.length c4) ts) := ⟨own_keepT T4.out.own fun g hg => nR g (World.ownsRow.lt T4.out.own g hg).1, fun t ht => (T4.out.each t ht).keepB fun g hg => nR g ((T4.out.each t ht).blk hg).1, T4.out.apart⟩
  have R5 : Hid (w5.heap[w.heap.size]? = some (.cells #[.slice a4 ts.length c4] 24 (0, 0))) := by rw [Hid, hw5]; exact row_set R4.out 0 _
  have C5 : Hid (w5.heap[w.heap.size + 1]? = some (.cells #[.int .i64 0] 3 (0, 0))) := by rw [Hid, hw5, heap_setCell_other _ _ _ _ (by show w.heap.size + 1 ≠ w.heap.size; omega)]; exact C4.out
  have B5 : Hid (Below w.heap.size w w5) := by rw [Hid, hw5]; exact B4.out.setCell (Nat.le_refl _) _
  clear hw5 nR T4 R4 C4 B4 x4 f4
  obtain ⟨a5, c5, e5, o5⟩ := td_own T5.out
  obtain ⟨rfl, rfl⟩ : a5 = a4 ∧ c5 = c4 := by
    simp only [Value.slice.injEq] at e5
    exact ⟨e5.1.symm, e5.2.2.symm⟩
  have hlen : (ts.map tyD).length = ts.length := by simp
  have HBD : Hid (G.TdsBd 1048576 (ts.map tyD)) := sch_bd (m := 1048576) (fun t ht => by have := HLX.out.2.1 t ht; omega) (by omega) HM.out
  have HQK : Hid (Calls Tryz.prog 14 #[.agg #[.slice a5 ts.length c5]] w5 fun e w' => G.Says (G.SchOK (ts.map tyD)) e ∧ Below w5.heap.size w5 w') := by
    have := G.impl_schema a5 c5 (ts.map tyD) w5 (G.TdOwn.row o5 fun g hg => ⟨Nat.zero_le _, (tdBs_in T5.out g hg).2⟩) HBD.out
    rw [hlen] at this
    exact this
  have x5 := fun o => row_cell R5.out o
  clear o5 e5
  go_wp2_with fail
  refine Calls.mono HQK.out ?_
  rintro e w6 ⟨⟨bb, rfl, hbb⟩, hb6⟩
  have B6 : Hid (Below w.heap.size w w6) := B5.out.trans (hb6.mono B5.out.size)
  have z5 := B5.out.size
  have z6 := hb6.size
  have R6 : Hid (w6.heap[w.heap.size]? = some (.cells #[.slice a5 ts.length c5] 24 (0, 0))) := (hb6.block _ (Array.getElem?_eq_some_iff.1 R5.out).1).trans R5.out
  have C6 : Hid (w6.heap[w.heap.size + 1]? = some (.cells #[.int .i64 0] 3 (0, 0))) := (hb6.block _ (Array.getElem?_eq_some_iff.1 C5.out).1).trans C5.out
  have kp6 : ∀ g, g < w5.heap.size → w6.heap[g]? = w5.heap[g]? := fun g hg => hb6.block g hg
  have T6 : Hid (TdsAt w3.heap.size w6 (.slice a5 ts.length c5) ts) := ⟨own_keepT T5.out.own fun g hg => kp6 g (World.ownsRow.lt T5.out.own g hg).2, fun t ht => (T5.out.each t ht).keepB fun g hg => kp6 g ((T5.out.each t ht).blk hg).2, T5.out.apart⟩
  have HBB : Hid _ := hbb
  clear hb6 hbb HQK kp6 T5 R5 C5 B5 x5 z5 z6
  have x6 := fun o => row_cell R6.out o
  have f6 := fun o => row_frozen R6.out o
  have y6 := fun o => row_cell C6.out o
  have g6 := fun o => row_frozen C6.out o
  cases bb with
  | false =>
    have HE : Hid (PaR (l, 0) [] 1) := .inr ⟨rfl, .inr ⟨_, _, HM.out, .inl ⟨(by rcases HBB.out with ⟨q, _⟩ | ⟨_, q⟩ <;> first | exact q | cases q), rfl, rfl⟩⟩⟩
    have hA3 := row_other (row_set R6.out 0 (.slice none 0 0)) (M := w.heap.size + 1) (j := 0) (by omega) (.int .i64 1)
    have hB3 := row_set (row_other C6.out (M := w.heap.size) (j := 0) (by omega) (.slice none 0 0)) 0 (.int .i64 1)
    have q3 : Hid (Below w.heap.size w ((w6.setCell ⟨w.heap.size, 0, none⟩ (.slice none 0 0)).setCell ⟨w.heap.size + 1, 0, none⟩ (.int .i64 1))) := (B6.out.setCell (p := ⟨w.heap.size, 0, none⟩) (Nat.le_refl _) (.slice none 0 0)).setCell (p := ⟨w.heap.size + 1, 0, none⟩) (by show w.heap.size ≤ w.heap.size + 1; omega) (.int .i64 1)
    have HA3 : Hid _ := hA3
    have HB3 : Hid _ := hB3
    clear hA3 hB3
    go_wp2_with fail
    refine leaves_cons (f := 11) (args := #[.pointer (some ⟨w.heap.size, 0, none⟩), .pointer (some ⟨w.heap.size + 1, 0, none⟩)]) (by simp) (by simp [go_sem]) ?_
    refine (catchP_idle _ _ _).mono ?_
    rintro e u' w'' ⟨rfl, rfl, rfl⟩
    clear x6 f6 y6 g6 R6 C6 B6 T6
    have eA := row_cell HA3.out 0
    have eB := row_cell HB3.out 0
    clear HA3 HB3
    generalize (w6.setCell ⟨w.heap.size, 0, none⟩ (.slice none 0 0)).setCell ⟨w.heap.size + 1, 0, none⟩ (.int .i64 1) = w7 at *
    simp at eA eB
    simp [Leaves, settle, results, Tryz.results5, go_sem, eA, eB]
    exact ⟨[], none, 0, 1, [], rfl, HE.out, .inl ⟨rfl, rfl⟩, List.nodup_nil, fun g hg => by simp at hg, q3.out⟩
  | true =>
    have HE : Hid (PaR (l, 0) (ts.map tyD) 0) := .inr ⟨rfl, .inr ⟨_, _, HM.out, .inr ⟨(by rcases HBB.out with ⟨_, q⟩ | ⟨q, _⟩ <;> first | exact q | cases q), rfl, rfl⟩⟩⟩
    have hA3 := row_other (row_set R6.out 0 (.slice a5 ts.length c5)) (M := w.heap.size + 1) (j := 0) (by omega) (.int .i64 0)
    have hB3 := row_set (row_other C6.out (M := w.heap.size) (j := 0) (by omega) (.slice a5 ts.length c5)) 0 (.int .i64 0)
    have q3 : Hid (Below w.heap.size w ((w6.setCell ⟨w.heap.size, 0, none⟩ (.slice a5 ts.length c5)).setCell ⟨w.heap.size + 1, 0, none⟩ (.int .i64 0))) := (B6.out.setCell (p := ⟨w.heap.size, 0, none⟩) (Nat.le_refl _) (.slice a5 ts.length c5)).setCell (p := ⟨w.heap.size + 1, 0, none⟩) (by show w.heap.size ≤ w.heap.size + 1; omega) (.int .i64 0)
    have O7 : Hid (G.TdOwn ((w6.setCell ⟨w.heap.size, 0, none⟩ (.slice a5 ts.length c5)).setCell ⟨w.heap.size + 1, 0, none⟩ (.int .i64 0)) a5 (ts.map tyD) (tdBs (.slice a5 ts.length c5) ts) ∧ ∀ g ∈ tdBs (.slice a5 ts.length c5) ts, w.heap.size ≤ g ∧ g < ((w6.setCell ⟨w.heap.size, 0, none⟩ (.slice a5 ts.length c5)).setCell ⟨w.heap.size + 1, 0, none⟩ (.int .i64 0)).heap.size) := by
      obtain ⟨a7, c7, e7, o7⟩ := td_own T6.out
      simp only [Value.slice.injEq] at e7
      obtain ⟨rfl, _, _⟩ := e7
      refine ⟨G.TdOwn.same o7 fun g hg => ?_, fun g hg => ?_⟩
      · have := (tdBs_in T6.out g hg).1
        rw [heap_setCell_other _ _ _ _ (by show g ≠ w.heap.size + 1; omega), heap_setCell_other _ _ _ _ (by show g ≠ w.heap.size; omega)]
      · have := tdBs_in T6.out g hg
        refine ⟨by omega, ?_⟩
        simpa using this.2
    have HA3 : Hid _ := hA3
    have HB3 : Hid _ := hB3
    have HND : Hid (tdBs (.slice a5 ts.length c5) ts).Nodup := tdBs_nodup T6.out
    clear hA3 hB3
    go_wp2_with fail
    refine leaves_cons (f := 11) (args := #[.pointer (some ⟨w.heap.size, 0, none⟩), .pointer (some ⟨w.heap.size + 1, 0, none⟩)]) (by simp) (by simp [go_sem]) ?_
    refine (catchP_idle _ _ _).mono ?_
    rintro e u' w'' ⟨rfl, rfl, rfl⟩
    clear x6 f6 y6 g6 R6 C6 B6 T6
    have eA := row_cell HA3.out 0
    have eB := row_cell HB3.out 0
    clear HA3 HB3
    generalize (w6.setCell ⟨w.heap.size, 0, none⟩ (.slice a5 ts.length c5)).setCell ⟨w.heap.size + 1, 0, none⟩ (.int .i64 0) = w7 at *
    simp at eA eB
    simp [Leaves, settle, results, Tryz.results5, go_sem, eA, eB]
    exact ⟨ts.map tyD, a5, c5, 0, tdBs (.slice a5 ts.length c5) ts, by rw [hlen], HE.out, O7.out.1, HND.out, O7.out.2, q3.out⟩
end Go.Proofs.YtnfoinmccigdfaaGreatDoor
