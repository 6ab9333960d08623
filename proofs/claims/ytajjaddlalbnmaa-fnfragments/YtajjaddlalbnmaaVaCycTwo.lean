/- Whether a fragment comes to itself: the program's rounds. -/
import Derived.Test.YtajjaddlalbnmaaVaCycMap
import Derived.Test.YtajjaddlalbnmaaVaCycImpl
import Derived.Test.YtajjaddlalbnmaaTyMath
namespace Go.Proofs.Ytajjaddlalbnmaa
open Go.ChangeShapes Go.WideShapes Go.ChangeAt Go.RowKit Go.Maps
open Go.WideMaps (keyOf_string_mk)
set_option linter.unusedVariables false

/-- The code of a document with a cycle, or 0. -/
def CycC (l : List De) (y : Int) : Prop := (y = 13 ∧ Cyc l) ∨ (y = 0 ∧ ¬ Cyc l)
theorem CycC.one {l : List De} {y y' : Int} (h : CycC l y) (h' : CycC l y') : y = y' := by
  rcases h with ⟨rfl, h⟩ | ⟨rfl, h⟩ <;> rcases h' with ⟨rfl, h'⟩ | ⟨rfl, h'⟩
  · rfl
  · exact absurd h h'
  · exact absurd h' h
  · rfl
theorem same_string (s t : List UInt8) : (Lit.string s).sameKey (.string t) = (s == t) := by
  first | rfl | simp [Lit.sameKey]
theorem names_one {L : List De} (hn : (L.map fun x => x.nm.toList).Nodup) {x y : De} (hy : y ∈ L) (hx : x ∈ L) (e : y.nm.toList = x.nm.toList) : y = x := by
  induction L with
  | nil => simp at hx
  | cons z L ih =>
    rw [List.map_cons, List.nodup_cons] at hn
    rcases List.mem_cons.1 hx with rfl | hx2
    · rcases List.mem_cons.1 hy with rfl | hy2
      · rfl
      · exact absurd (List.mem_map.2 ⟨y, hy2, e⟩) hn.1
    · rcases List.mem_cons.1 hy with rfl | hy2
      · exact absurd (List.mem_map.2 ⟨x, hx2, e.symm⟩) hn.1
      · exact ih hn.2 hy2 hx2
set_option maxHeartbeats 8000000 in
set_option maxRecDepth 40000 in
theorem cycle_fault (a : Option Addr) (c : Nat) (l : List De) (w : World) (hr : DeRow 0 w.heap.size w a l) (hb : DefsBd 1048576 l) :
    Calls Try.prog 20 #[.agg #[.slice a l.length c]] w fun e w' => (∃ y, e = .returned (.int .i64 y) ∧ CycC l y) ∧ Below w.heap.size w w' := by
  obtain ⟨V, hV⟩ : ∃ V, V = w.alloc (.cells #[.slice a l.length c] 25) := ⟨_, rfl⟩
  have B0 : Below w.heap.size w V := by rw [hV]; exact (Below.refl _ _).alloc (Nat.le_refl _) _
  have c0 : V.heap[w.heap.size]? = some (.cells #[.slice a l.length c] 25 (0, 0)) := by rw [hV]; exact heap_alloc_new _ _
  have HR : Hid (DeRow 0 V.heap.size V a l) := DeRow.up hr B0
  have HB : Hid (DefsBd 1048576 l) := hb
  have HB0 : Hid (Below w.heap.size w V) := B0
  have x0 := fun o => row_cell c0 o
  clear hr hb c0 B0
  go_enter Try.func20, Try.ntmps20
  go_upto_region 1 with fail
  rw [← hV]
  clear hV
  go_step3
  go_wp2_with fail
  refine (frs_of a c l V HR.out HB.out).mono ?_
  rintro e w1 ⟨B, rfl, hB, hF, bq⟩
  have HF : Hid (FrHeld V w1 B (frsOf l)) := hF
  have Q1 : Hid (Below V.heap.size V w1) := bq
  have HS : Hid (LeftOK l (frsOf l)) := leftOK_start l (frs_find l)
  have HNN : Hid (((frsOf l).map fun x => x.nm.toList).Nodup) := frs_names l
  have HSB : Hid (∀ x ∈ frsOf l, DeBd 1048576 x) := fun x hx => HB.out.2 x (frs_sub l x hx)
  generalize frsOf l = L0 at *
  clear hF bq x0
  go_wp2_with fail
  go_step3
  go_wp2_with fail
  go_loopw [8] (fun _ w' => ∃ (L : List De), Hid (FrHeld V w' B L) ∧ Hid (LeftOK l L) ∧ Hid (Below V.heap.size V w') ∧ Hid ((L.map fun x => x.nm.toList).Nodup) ∧ Hid (∀ x ∈ L, DeBd 1048576 x)) (fun _ w' => mapN w' B)
  case atStart => exact ⟨L0, HF, HS, Q1, HNN, HSB⟩
  case round =>
    obtain ⟨L, HFL, HO, HBW, HN, HSL⟩ := hrel
    obtain ⟨wo, rfl⟩ : ∃ x, x = wr := ⟨_, rfl⟩
    obtain ⟨D, hown, hD⟩ := HFL.out.data
    have HD : Hid (FrD V D L) := hD
    have HOW : Hid (wo.ownsMap Try.prog 9 heldE B L.length D) := hown
    have hTid : Tidy D := hown.tidy law9
    have HT : Hid (Tidy D) := hTid
    have hsz : Maps.size D = L.length := hD.1
    have hBlt : B < wo.heap.size := HFL.out.lt
    clear hown hD hTid
    have HME : Hid (mapN wo B = L.length) := HFL.out.mapN
    by_cases h0 : L = []
    · have hz : ¬ (0 : Int) < (Maps.size D : Int) := by rw [hsz, h0]; simp
      have HE : Hid (CycC l 0) := .inr ⟨rfl, leftOK_end (h0 ▸ HO.out)⟩
      have GB : Hid (Below w.heap.size w wo) := HB0.out.trans (HBW.out.mono HB0.out.size)
      clear h0 hsz
      go_wp2_with (first | (at_len; refine wpList_len_own _ rfl _ _ rfl 9 30 Try.underlying70 heldE B L.length D rfl HOW.out ?_) | fail)
      try rw [Exit.noGoto_ret]
      go_ret
      exact ⟨⟨0, rfl, HE.out⟩, GB.out⟩
    have hz : (0 : Int) < (Maps.size D : Int) := by
      rw [hsz]
      have := List.length_pos_iff.2 h0
      omega
    have H0 : Hid (L ≠ []) := h0
    clear h0 hsz
    go_wp2_with (first | (at_len; refine wpList_len_own _ rfl _ _ rfl 9 30 Try.underlying70 heldE B L.length D rfl HOW.out ?_) | (at_range; refine wpList_range_own _ rfl _ 70 rfl 9 30 law9 Try.underlying70 heldE B L.length D rfl HOW.out ?_; intro wi hrg0 hg0 hs0) | fail)
    go_frame
    have hdz : decide (0 < Maps.size D) = true := decide_eq_true (by omega)
    rw [hdz]
    have HRG0 : Hid (wi.ranges Try.prog 9 heldE B wo.heap.size L.length D (Maps.has D) (Maps.size D)) := hrg0
    have BI : Hid (Below wo.heap.size wo wi) := (Below.refl _ _).grown hg0 (Nat.le_refl _) (fun k hk => by cases hk)
    have hsi : wo.heap.size + 1 ≤ wi.heap.size := by omega
    clear hrg0 hg0 hs0
    go_loopw [13] (fun _ w' => ∃ (left : Lit → Bool) (cnt : Nat), Hid (w'.ranges Try.prog 9 heldE B wo.heap.size L.length D left cnt) ∧ Hid (Below wo.heap.size wo w') ∧ wo.heap.size + 1 ≤ w'.heap.size ∧ Hid (∀ x ∈ L, left (.string x.nm.toList) = false → (sprd x.sels).any (hasNm L) = true)) (fun _ w' => w'.rangeLeft B wo.heap.size)
    case atStart =>
      refine ⟨_, _, HRG0, BI, hsi, fun x hx hl => ?_⟩
      rw [HD.out.2.1] at hl
      have : hasNm L x.nm = true := List.any_eq_true.2 ⟨x, hx, by simp⟩
      rw [hl] at this; cases this
    case round =>
      obtain ⟨left, cnt, HRG, HBI, hsw, HSE⟩ := hrel
      go_wp2_with (first | (at_next; refine wpList_next_frs rfl _ rfl B wo.heap.size L.length D left cnt V L HD.out rfl HRG.out ?_ ?_) | fail)
      · intro hl
        have HE : Hid (CycC l 13) := .inl ⟨rfl, left_stuck HO.out H0.out fun x hx => HSE.out x hx (hl _)⟩
        have GB : Hid (Below w.heap.size w wr) := (HB0.out.trans (HBW.out.mono HB0.out.size)).trans (HBI.out.mono (HB0.out.trans (HBW.out.mono HB0.out.size)).size)
        clear hl
        go_wp2_with fail
        try rw [Exit.noGoto_ret]
        go_ret
        exact ⟨⟨13, rfl, HE.out⟩, GB.out⟩
      · intro x a3 c3 w1 cnt1 hx hsr hlx hrg1 hlt hg1 hs1 hen
        have B1 : Hid (Below wo.heap.size wo w1) := HBI.out.grown hg1 (by omega) (fun k hk => by cases hk; exact Nat.le_refl _)
        have HRG1 : Hid (w1.ranges Try.prog 9 heldE B wo.heap.size L.length D (fun z => left z && !z.sameKey (.string x.nm.toList)) cnt1) := hrg1
        have HX : Hid (x ∈ L) := hx
        have HSR : Hid (SelRow 0 V.heap.size V a3 x.sels) := hsr
        have HXB : Hid (DeBd 1048576 x) := HSL.out x hx
        have hsz1 : wo.heap.size + 1 ≤ w1.heap.size := by omega
        have HLF : Hid (wr.rangeLeft B wo.heap.size = cnt) := HRG.out.left_eq
        have HLF1 : Hid (w1.rangeLeft B wo.heap.size = cnt1) := hrg1.left_eq
        clear hrg1 hx hsr hlx hg1 hs1
        obtain ⟨U, hU⟩ : ∃ U, U = w1.alloc (.cells #[.int .i64 x.k, .string x.nm, .string x.on, .slice a3 x.sels.len c3] 30) := ⟨_, rfl⟩
        have BU : Below w1.heap.size w1 U := by rw [hU]; exact (Below.refl _ _).alloc (Nat.le_refl _) _
        have c0 : U.heap[w1.heap.size]? = some (.cells #[.int .i64 x.k, .string x.nm, .string x.on, .slice a3 x.sels.len c3] 30 (0, 0)) := by rw [hU]; exact heap_alloc_new _ _
        have x0 := fun o => row_cell c0 o
        have hBl1 : B < w1.heap.size := by have := B1.out.size; omega
        have KU : Hid (∀ W, Below U.heap.size U W → W.ranges Try.prog 9 heldE B wo.heap.size L.length D (fun z => left z && !z.sameKey (.string x.nm.toList)) cnt1 ∧ W.rangeLeft B wo.heap.size = cnt1 ∧ Below wo.heap.size wo W ∧ wo.heap.size + 1 ≤ W.heap.size) := fun W hW => by
          have hw := BU.trans (hW.mono BU.size)
          have hk := ranges_same HRG1.out (w' := W) (hw.block _ hBl1) (hw.block _ (by omega))
          exact ⟨hk.1, hk.2.trans HLF1.out, B1.out.trans (hw.mono (by omega)), by have := hw.size; omega⟩
        have HQ : Hid (Calls Try.prog 36 #[.map (some B), .slice a3 x.sels.len c3] U fun e w' => e = .returned (.bool ((sprd x.sels).any (hasNm L))) ∧ Below U.heap.size U w') := by
          have k := KU.out U (Below.refl _ _)
          have bvu : Below V.heap.size V U := HBW.out.trans (k.2.2.1.mono HBW.out.size)
          exact spread_in x.sels V B L a3 c3 U (FrD.held k.1.owns HD.out) (SelRow.up HSR.out bvu) HXB.out.2.2.1 HXB.out.2.2.2
        clear c0 BU
        go_upto_region 6 with fail
        rw [← hU]
        clear hU hen
        cases hsp : (sprd x.sels).any (hasNm L) with
        | true =>
          rw [hsp] at HQ
          go_wp2_with fail
          refine Calls.mono HQ.out ?_
          rintro e w2 ⟨rfl, bq⟩
          have K2 : Hid _ := KU.out _ bq
          clear bq x0
          have HSP : Hid ((sprd x.sels).any (hasNm L) = true) := hsp
          go_wp2_with fail
          go_roundw
          case rel =>
            refine ⟨_, cnt1, K2.out.1, K2.out.2.2.1, K2.out.2.2.2, fun y hy hl => ?_⟩
            simp only [Bool.and_eq_false_iff, Bool.not_eq_false'] at hl
            rcases hl with hl | hl
            · exact HSE.out y hy hl
            · rw [same_string, beq_iff_eq] at hl
              rw [names_one HN.out hy HX.out hl]
              exact HSP.out
          case measure => rw [K2.out.2.1, HLF.out]; exact hlt
        | false =>
          rw [hsp] at HQ
          go_wp2_with fail
          refine Calls.mono HQ.out ?_
          rintro e w2 ⟨rfl, bq⟩
          have K2 : Hid _ := KU.out _ bq
          clear bq x0
          have hkey : keyOf Try.prog 9 (.string x.nm) = some (.string x.nm.toList) := key_of (by have := HXB.out.1; unfold maxLen; omega)
          go_wp2_with (first | (at_delete; refine wpList_delete_own _ rfl _ _ 70 9 rfl 30 law9 Try.underlying70 heldE B L.length D rfl K2.out.1.owns _ _ rfl hkey ?_; intro w3 hown3 hturn3; go_frame) | fail)
          have HF3 : Hid (FrHeld V w3 B (L.filter fun y => !(y.nm.toList == x.nm.toList))) := FrD.held hown3 (FrD.del HT.out HD.out HN.out HX.out)
          have HO3 : Hid _ := leftOK_step HO.out HX.out hsp
          have B3 : Hid (Below wo.heap.size wo w2) := K2.out.2.2.1
          have B4 : Hid (Below V.heap.size V w3) := (HBW.out.trans (B3.out.mono HBW.out.size)).grown hturn3.grown (by have := HBW.out.size; have := B3.out.size; omega) (fun k hk => by cases hk; exact hB)
          have HL3 : Hid (mapN w3 B + 1 = mapN wo B) := by rw [Hid, HF3.out.mapN, HME.out]; exact names_filter HN.out HX.out
          clear hown3 hturn3
          go_wp2_with fail
          exact ⟨⟨_, HF3, HO3, B4, names_nodup HN.out _, fun y hy => HSL.out y (List.mem_filter.1 hy).1⟩, by have := HL3.out; omega⟩
end Go.Proofs.Ytajjaddlalbnmaa
