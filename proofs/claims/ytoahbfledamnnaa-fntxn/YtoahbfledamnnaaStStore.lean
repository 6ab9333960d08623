/- The draws: a store. -/
import Derived.Test.YtoahbfledamnnaaStFgMath
import Derived.Test.YtoahbfledamnnaaStKids
import Derived.Test.YtoahbfledamnnaaGRegionFive
import Derived.Test.YtoahbfledamnnaaStTxOwn
import Derived.Test.YtoahbfledamnnaaStFg
import Derived.Deep.CutRange
import Derived.Deep.CutBlock
namespace Go.Proofs.Ytoahbfledamnnaa.G
open Go.ChangeShapes Go.WideShapes Go.ChangeAt Go.RowKit
set_option linter.unusedVariables false

theorem VeRow.cut {lo hi : Nat} {w : World} {a : Option Addr} {l : List Ve} (h : VeRow lo hi w a l) (k : Nat) : VeRow lo hi w (a.map (fun x => x.add (k * 2))) (l.drop k) := by
  rcases h with rfl | ⟨b, o, rfl, h1, h2, h3⟩
  · exact .inl (by simp)
  · have := VeRow.drop (show VeRow lo hi w (some ⟨b, o, none⟩) l from .inr ⟨b, o, rfl, h1, h2, h3⟩) k
    simpa [add_plain] using this
/-- What each operation of the copying tells. -/
def FgPv (B N0 M0 : Nat) (W0 : World) (v : Value) (a3 : Option Addr) (c3 gn : Nat) (lc : List Ve) : Nat → Value → World → Prop
  | 0, y, _ => y = .pointer (some ⟨B, 0, none⟩)
  | 1, y, _ => y = v
  | 2, y, _ => ∃ g, y = .slice g 0 0
  | 3, y, _ => y = .slice a3 lc.length c3
  | 4, y, _ => y = .int .i64 gn
  | 5, y, _ => ∃ a5 c5, y = .slice a5 (lc.length - gn) c5 ∧ VeRow 0 M0 W0 a5 (lc.drop gn)
  | 6, y, W => KidX v.ownBlock N0 W y (lc.drop gn)
  | 7, y, W => ∃ h z, y = .slice (some ⟨h, 0, none⟩) 1 1 ∧ N0 ≤ h ∧ W.heap[h]? = some (.cells #[z] 58 (0, 0)) ∧ KidX v.ownBlock N0 W z (lc.drop gn)
  | 8, _, _ => True
  | _, y, _ => y = .pointer (some ⟨B, 0, none⟩)
theorem FgPv.up {B N0 M0 : Nat} {W0 : World} {v : Value} {a3 : Option Addr} {c3 gn : Nat} {lc : List Ve} {W W' : World} (hs : W.heap.size ≤ W'.heap.size) (hk : ∀ k, N0 ≤ k → k < W.heap.size → W'.heap[k]? = W.heap[k]?) {i : Nat} {y : Value} (h : FgPv B N0 M0 W0 v a3 c3 gn lc i y W) : FgPv B N0 M0 W0 v a3 c3 gn lc i y W' := by
  unfold FgPv at h ⊢
  split at h
  case h_7 => exact h.keep hs (fun k a1 a2 a3 => ⟨hk k a1 a2, a3⟩)
  case h_8 =>
    obtain ⟨h', z, h1, h2, h3, h4⟩ := h
    exact ⟨h', z, h1, h2, (hk _ h2 (Array.getElem?_eq_some_iff.1 h3).1).trans h3, h4.keep hs (fun k a1 a2 a3 => ⟨hk k a1 a2, a3⟩)⟩
  all_goals exact h
set_option maxHeartbeats 8000000 in
set_option maxRecDepth 40000 in
theorem spec_l06Forget (a : Option Addr) (c : Nat) (l : Chs) (now low : Int) (w : World) (hr : ChRow 0 w.heap.size w a l) (hbd : ChsBd 1048576 l) (h16 : l.length = 16) (hrise : ∀ i (h : i < l.length), Rise l[i]) :
    Calls Try.prog 48 #[.agg #[.slice a l.length c, .int .i64 now], .int .i64 low] w fun e w' => ∃ a' c', e = .returned (.tuple #[.agg #[.slice a' (fgS low l).length c', .int .i64 now], .int .i64 (goS low l)]) ∧ ChRow w.heap.size w'.heap.size w' a' (fgS low l) ∧ Below w.heap.size w w' := by
  have HR : Hid (ChRow 0 w.heap.size w a l) := hr
  have HT : Hid (∀ x ∈ l, x.length ≤ 1048576) := hbd.2
  have H16 : Hid _ := h16
  have HS : Hid _ := hrise
  clear hr hbd h16 hrise
  go_enter Try.func48, Try.ntmps48
  go_wp2_with fail
  obtain ⟨V, hV⟩ : ∃ V : World, V = (((w.alloc (.cells #[.slice a l.length c, .int .i64 now] 25)).alloc (.cells #[.slice none 0 0, .int .i64 0] 25)).alloc (.cells #[] 58)).alloc (.cells #[.slice (some ⟨w.heap.size + 1 + 1, 0, none⟩) 0 0, .int .i64 now] 25) := ⟨_, rfl⟩
  have zV : V.heap.size = w.heap.size + 4 := by rw [hV]; simp
  have bV : Below w.heap.size w V := by
    rw [hV]
    repeat (first | exact Below.refl _ _ | refine Below.alloc ?_ (by first | omega | (simp <;> omega)) _)
  have c0 : V.heap[w.heap.size]? = some (.cells #[.slice a l.length c, .int .i64 now] 25 (0, 0)) := by
    rw [hV, Below.heap_alloc _ _ _ (by simp <;> omega), Below.heap_alloc _ _ _ (by simp <;> omega), Below.heap_alloc _ _ _ (by simp <;> omega)]; exact heap_alloc_new _ _
  have c1 : V.heap[w.heap.size + 1]? = some (.cells #[.slice none 0 0, .int .i64 0] 25 (0, 0)) := by
    rw [hV, Below.heap_alloc _ _ _ (by simp <;> omega), Below.heap_alloc _ _ _ (by simp <;> omega)]
    have := heap_alloc_new (w.alloc (.cells #[.slice a l.length c, .int .i64 now] 25)) (.cells #[.slice none 0 0, .int .i64 0] 25)
    simpa using this
  have gV : Grow (w.heap.size + 1 + 1 + 1) now V (.slice (some ⟨w.heap.size + 1 + 1, 0, none⟩) 0 0) [] [] := by
    refine ⟨?_, ⟨rfl, .inr ⟨w.heap.size + 1 + 1, 0, #[], rfl, by omega, ?_, Nat.le_refl _, Nat.zero_le _, rfl, rfl⟩⟩, by simp [Value.ownBlock], fun i x hx => by simp at hx⟩
    · rw [hV]
      have := heap_alloc_new (((w.alloc (.cells #[.slice a l.length c, .int .i64 now] 25)).alloc (.cells #[.slice none 0 0, .int .i64 0] 25)).alloc (.cells #[] 58)) (.cells #[.slice (some ⟨w.heap.size + 1 + 1, 0, none⟩) 0 0, .int .i64 now] 25)
      simpa using this
    · rw [hV, Below.heap_alloc _ _ _ (by simp <;> omega)]
      have := heap_alloc_new ((w.alloc (.cells #[.slice a l.length c, .int .i64 now] 25)).alloc (.cells #[.slice none 0 0, .int .i64 0] 25)) (.cells #[] 58)
      simpa using this
  rw [← hV]
  have GV : Hid _ := gV
  have CV : Hid (V.heap[w.heap.size]? = some (.cells #[.slice a l.length c, .int .i64 now] 25 (0, 0)) ∧ V.heap[w.heap.size + 1]? = some (.cells #[.slice none 0 0, .int .i64 0] 25 (0, 0)) ∧ Below w.heap.size w V) := ⟨c0, c1, bV⟩
  clear gV c0 c1 bV hV
  go_loopw [7, 8] (fun s i w' => ∃ (k n : Nat) (v : Value) (vs : List Value), k ≤ l.length ∧ i = .int .i64 k ∧ s = .int .i64 n ∧ n ≤ k * 1048576 ∧ Hid (n = goS low (l.take k)) ∧ Below (w.heap.size + 1 + 1) V w' ∧ Hid (Grow (w.heap.size + 1 + 1 + 1) now w' v vs ((fgS low l).take k))) (fun _ i _ => l.length - (intOf i).toNat)
  case atStart => exact ⟨0, 0, _, _, by omega, rfl, rfl, by omega, by simp [Hid, goS], Below.refl _ _, by rw [List.take_zero]; exact GV⟩
  case round =>
    obtain ⟨wo, rfl⟩ : ∃ x, x = wr := ⟨_, rfl⟩
    obtain ⟨k, n, v, vs, hk, rfl, rfl, hn, HN, hb, HG⟩ := hrel
    have hz := hb.size
    have h16 := H16.out
    have e0 : wo.heap[w.heap.size]? = some (.cells #[.slice a l.length c, .int .i64 now] 25 (0, 0)) := (hb.block _ (by omega)).trans CV.out.1
    have e1 : wo.heap[w.heap.size + 1]? = some (.cells #[.slice none 0 0, .int .i64 0] 25 (0, 0)) := (hb.block _ (by omega)).trans CV.out.2.1
    have Q : Hid (Below w.heap.size w wo) := CV.out.2.2.trans (hb.mono (by omega))
    by_cases hlt : k < l.length
    case neg =>
      obtain rfl : k = l.length := by omega
      have hk16 : ¬ (l.length : Int) < 16 := by omega
      have hfl := fgS_len low l
      have GE : Hid (Grow (w.heap.size + 1 + 1 + 1) now wo v vs (fgS low l)) := by have := HG.out; rw [List.take_of_length_le (by omega)] at this; exact this
      obtain ⟨a', c', hv, hrow⟩ := GE.out.row
      have x0 := fun o => row_cell GE.out.cell o
      have x1 := fun o => row_cell e1 o
      have y1 := fun o => row_frozen e1 o
      have HN2 : Hid (n = goS low l) := by have := HN.out; rw [List.take_of_length_le (by omega)] at this; exact this
      have HRW : Hid _ := hrow
      have E1 : Hid _ := e1
      subst hv
      clear e0 e1 h16 hrow HG hfl
      go_wp2_with fail
      refine bodyPost_ret (v := .tuple #[.agg #[.slice a' (fgS low l).length c', .int .i64 now], .int .i64 n]) (by simp [results, Try.results48, go_sem, x1]) rfl ⟨a', ⟨c', by rw [HN2.out]⟩, ?_, ?_⟩
      · refine ChRow.wide (ChRow.keep HRW.out ?_) (by omega) (by simp)
        intro g h1 h2
        rw [heap_set _ _ _ _ _ (by omega), heap_set _ _ _ _ _ (by omega)]
      · repeat (refine Below.setCell ?_ (by first | omega | (simp <;> omega)) _)
        exact Q.out
    have hk16 : (k : Int) < 16 := by omega
    obtain ⟨b, o, a3, c3, ha, _, hbl, d0, hcap, r3⟩ := ChRow.cells (ChRow.keep HR.out (agree Q.out (Nat.le_refl _))) k hlt
    subst ha
    have hX : l[k].length ≤ 1048576 := HT.out l[k] (List.getElem_mem hlt)
    have R3 : Hid (VeRow 0 w.heap.size wo a3 l[k]) := r3
    have HS3 : Hid _ := HS.out k hlt
    have x0 := fun o => row_cell e0 o
    have HB : Hid _ := hb
    have E1 : Hid _ := e1
    clear r3 e0 e1 h16 hb
    obtain ⟨gn, hgn⟩ : ∃ gn, gn = goN low l[k] := ⟨_, rfl⟩
    have HGN : Hid (gn = goN low l[k]) := hgn
    have hgl : gn ≤ l[k].length := by rw [hgn]; exact goN_le low l[k]
    have hgl2 : gn = 0 ∨ gn + 1 ≤ l[k].length := by have := upN_le low l[k]; rw [hgn]; unfold goN; omega
    have hn16 : n ≤ 16777216 := Nat.le_trans hn (Nat.mul_le_mul_right 1048576 (show k ≤ 16 by omega))
    clear hgn
    go_upto_block 2 with fail
    go_cut [10] from 24 to 40 (fun u wx => u = .int .i64 gn ∧ wx = wo)
    case first =>
      go_wp2_with fail
      go_loop [10] (fun j => ∃ (m : Nat), m ≤ gn ∧ j = .int .i64 m) (fun j => l[k].length - (intOf j).toNat)
      case atStart => exact ⟨0, by omega, rfl⟩
      case round =>
        obtain ⟨m, hm, rfl⟩ := hrel
        have cont : m + 1 < l[k].length → (tsAt l[k] (m + 1) ≤ low ↔ m + 1 ≤ gn) := fun h => by have := goN_step (low := low) HS3.out (show m ≤ goN low l[k] by rw [← HGN.out]; exact hm) h; rw [← HGN.out] at this; exact this
        by_cases hmt : m + 1 < l[k].length ∧ m + 1 ≤ gn
        · obtain ⟨h1, h2⟩ := hmt
          have ht := (cont h1).2 h2
          rw [tsAt_eq h1] at ht
          obtain ⟨b2, o2, ha2, _, hbl2, f0, f1⟩ := VeRow.cells R3.out (m + 1) h1
          subst ha2
          have h1' : (m : Int) + 1 < l[k].length := by omega
          clear cont
          go_wp2_with fail
          go_round
          case rel => exact ⟨m + 1, h2, by go_num⟩
          case measure => simp [intOf]; omega
        · obtain rfl : gn = m := by
            by_cases e : m + 1 ≤ gn
            · exfalso; apply hmt; omega
            · omega
          by_cases h1 : gn + 1 < l[k].length
          · have ht : ¬ tsAt l[k] (gn + 1) ≤ low := fun h => by have := (cont h1).1 h; omega
            rw [tsAt_eq h1] at ht
            obtain ⟨b2, o2, ha2, _, hbl2, f0, f1⟩ := VeRow.cells R3.out (gn + 1) h1
            subst ha2
            have h1' : (gn : Int) + 1 < l[k].length := by omega
            clear cont
            go_wp2_with fail
            go_meet
            exact ⟨rfl, rfl⟩
          · have h1' : ¬ (gn : Int) + 1 < l[k].length := by omega
            clear cont
            go_wp2_with fail
            go_meet
            exact ⟨rfl, rfl⟩
    obtain ⟨rfl, rfl⟩ := hcut
    have x6 := fun o => row_cell HG.out.cell o
    go_wp2_with fail
    have hN0 : w.heap.size + 1 + 1 + 1 + 1 ≤ wc.heap.size := by omega
    have hrb := HG.out.lt.2
    have HRB : Hid _ := hrb
    have hpl : ((fgS low l).take k).length = k := by rw [List.length_take, fgS_len]; omega
    have HPL : Hid _ := hpl
    have HGN2 : Hid (l[k].drop gn = fgC low l[k]) := by rw [Hid, HGN.out]; rfl
    have HB3 : Hid (VeRow 0 wc.heap.size wc a3 l[k]) := VeRow.wide R3.out (Nat.le_refl _) (by have := Q.out.size; omega)
    clear hrb hpl x0 x6 d0
    refine region_rel5 (n := 10) (k := 1) (by omega) (by kernel_rfl) (by kernel_rfl) (by kernel_rfl) (fun u => ⟨#[.agg #[.slice (some ⟨b, o, none⟩) l.length c, .int .i64 now], .int .i64 low, .pointer (some ⟨w.heap.size, 0, none⟩), undef, .pointer (some ⟨w.heap.size + 1, 0, none⟩), .int .i64 0, .pointer (some ⟨w.heap.size + 1 + 1 + 1, 0, none⟩), .int .i64 ((n : Int) + gn), .int .i64 k, .slice a3 l[k].length c3, .int .i64 gn, .slice (some ⟨w.heap.size + 1 + 1, 0, none⟩) 0 0, .pointer (some ⟨w.heap.size, 1, none⟩), .int .i64 now, .agg #[.slice (some ⟨w.heap.size + 1 + 1, 0, none⟩) 0 0, .int .i64 now], .int .i64 k, .bool true, u17, u18, .pointer (some ⟨w.heap.size, 0, none⟩), .slice (some ⟨b, o, none⟩) l.length c, .int .i64 k, .pointer (some ⟨b, o + k, none⟩), .slice a3 l[k].length c3, u24, u25, u26, u27, u28, u29, u30, u31, u32, u33, u34, u35, u36, u37, u38, u39, u40, .int .i64 n, .int .i64 gn, .int .i64 ((n : Int) + gn), u 44, u 45, u 46, u 47, u 48, u 49, u 50, u 51, u 52, u 53, undef, undef], []⟩) (fun n => match n with | 44 => u44 | 45 => u45 | 46 => u46 | 47 => u47 | 48 => u48 | 49 => u49 | 50 => u50 | 51 => u51 | 52 => u52 | 53 => u53 | _ => undef) (fun i => 44 + i) (fun i j _ _ h => by omega)
      (FgPv (w.heap.size + 1 + 1 + 1) wc.heap.size w.heap.size wc v a3 c3 gn l[k]) (GrJ 8 52 (w.heap.size + 1 + 1 + 1) now wc v vs ((fgS low l).take k) (l[k].drop gn)) (GrJ.start HG.out) ?step ?last
    case step =>
      intro L u W i hi hLs hLi hj hdep
      have hzW := hj.1.size
      have hcase : i = 0 ∨ i = 1 ∨ i = 2 ∨ i = 3 ∨ i = 4 ∨ i = 5 ∨ i = 6 ∨ i = 7 ∨ i = 8 ∨ i = 9 := by omega
      rcases hcase with rfl | rfl | rfl | rfl | rfl | rfl | rfl | rfl | rfl | rfl
      · refine wpOp_step rfl (fun K hK => ?_)
        clear hdep
        go_simp
        exact hK _ _ ⟨_, rfl, fun _ _ h => h, rfl, hj.step (Below.refl _ _) (by omega) (by omega)⟩
      · have d0 : u 44 = .pointer (some ⟨w.heap.size + 1 + 1 + 1, 0, none⟩) := (hdep _ rfl ⟨0, .data⟩ (by simp) rfl).2
        have x6 := fun o => row_cell ((hj.1.block _ HG.out.lt.1 (fun e => HG.out.off e.symm)).trans HG.out.cell) o
        refine wpOp_step rfl (fun K hK => ?_)
        clear hdep
        go_simp
        exact hK _ _ ⟨_, by simp [upd, d0], fun _ _ h => h, rfl, hj.step (Below.refl _ _) (by omega) (by omega)⟩
      · refine wpOp_step rfl (fun K hK => ?_)
        clear hdep
        go_simp
        exact hK _ _ ⟨_, rfl, fun j y h => FgPv.up (by simp) (fun k _ h2 => Below.heap_alloc _ _ _ h2) h, ⟨_, rfl⟩, hj.step ((Below.refl _ _).alloc (Nat.le_refl _) _) (by omega) (by omega)⟩
      · refine wpOp_step rfl (fun K hK => ?_)
        clear hdep
        go_simp
        exact hK _ _ ⟨_, rfl, fun _ _ h => h, rfl, hj.step (Below.refl _ _) (by omega) (by omega)⟩
      · refine wpOp_step rfl (fun K hK => ?_)
        clear hdep
        go_simp
        exact hK _ _ ⟨_, rfl, fun _ _ h => h, rfl, hj.step (Below.refl _ _) (by omega) (by omega)⟩
      · have d3 : u 47 = .slice a3 l[k].length c3 := (hdep _ rfl ⟨3, .data⟩ (by simp) rfl).2
        have d4 : u 48 = .int .i64 gn := (hdep _ rfl ⟨4, .data⟩ (by simp) rfl).2
        have hg1 : (gn : Int) ≤ l[k].length := by omega
        have HV5 : Hid _ := VeRow.cut R3.out gn
        by_cases hcg : c3 = gn
        · subst hcg
          refine wpOp_step rfl (fun K hK => ?_)
          clear hdep
          go_simp
          exact hK _ _ ⟨.slice a3 0 0, by simp [upd, d3, d4], fun _ _ h => h, ⟨a3, 0, by rw [show l[k].length - c3 = 0 by omega], .inl (List.drop_eq_nil_of_le (by omega))⟩, hj.step (Below.refl _ _) (by omega) (by omega)⟩
        · refine wpOp_step rfl (fun K hK => ?_)
          clear hdep
          go_simp
          exact hK _ _ ⟨.slice (a3.map (fun x => x.add (gn * 2))) (l[k].length - gn) (c3 - gn), by simp [upd, d3, d4], fun _ _ h => h, ⟨_, _, rfl, HV5.out⟩, hj.step (Below.refl _ _) (by omega) (by omega)⟩
      · obtain ⟨g2, d2⟩ : ∃ g, u 46 = .slice g 0 0 := (hdep _ rfl ⟨2, .data⟩ (by simp) rfl).2
        obtain ⟨a5, c5, d5, r5⟩ : ∃ a5 c5, u 49 = .slice a5 (l[k].length - gn) c5 ∧ VeRow 0 w.heap.size wc a5 (l[k].drop gn) := (hdep _ rfl ⟨5, .data⟩ (by simp) rfl).2
        have r5W : VeRow 0 W.heap.size W a5 (l[k].drop gn) := VeRow.wide (VeRow.keep r5 (fun g _ h2 => hj.1.block g (by omega) (fun e => by have := HRB.out g e.symm; omega))) (Nat.le_refl _) (by omega)
        obtain ⟨a6, c6, W6, hrun, h61, h62, h63⟩ := app_fresh (l[k].drop gn) a5 g2 c5 W r5W (by simp; omega)
        rw [List.length_drop] at hrun h61
        have HK6 : Hid (KidX v.ownBlock wc.heap.size W6 (.slice a6 (l[k].length - gn) c6) (l[k].drop gn)) := by
          refine ⟨a6, c6, by rw [List.length_drop], by rw [List.length_drop]; exact h61, ?_⟩
          rcases h62 with h | ⟨h, hv⟩
          · exact .inl h
          · exact .inr ⟨W.heap.size, h, hzW, hv.lt, fun e => by have := (HRB.out _ e.symm).2; omega, hv⟩
        have H63 : Hid _ := h63
        clear hdep r5 r5W h61 h62 h63
        refine wpOp_step rfl (fun K hK => ?_)
        refine wp_append_run (.tmp 46) (.tmp 49) _ rfl _ _ _ _ d2 d5 hrun ?_
        exact hK _ _ ⟨_, rfl, fun j y h => FgPv.up H63.out.size (fun k _ h2 => H63.out.block k h2) h, HK6.out, hj.step H63.out (by omega) (by omega)⟩
      · have d6 : KidX v.ownBlock wc.heap.size W (u 50) (l[k].drop gn) := (hdep _ rfl ⟨6, .data⟩ (by simp) rfl).2
        have H6 := d6
        obtain ⟨a6, c6, e6, _⟩ := d6
        rw [List.length_drop] at e6
        rw [e6] at H6
        have HK7 : Hid _ := H6
        clear hdep H6
        refine wpOp_step rfl (fun K hK => ?_)
        go_simp
        exact hK _ _ ⟨.slice (some ⟨W.heap.size, 0, none⟩) 1 1, by simp [upd, e6], fun j y h => FgPv.up (by simp) (fun k _ h2 => Below.heap_alloc _ _ _ h2) h, ⟨W.heap.size, _, rfl, hzW, heap_alloc_new _ _, KidX.keep (show KidX v.ownBlock wc.heap.size W (.slice a6 (l[k].length - gn) c6) (l[k].drop gn) from HK7.out) (by simp) (fun k _ h2 h3 => ⟨Below.heap_alloc _ _ _ h2, h3⟩)⟩, hj.step ((Below.refl _ _).alloc (Nat.le_refl _) _) (by omega) (by omega)⟩
      · obtain ⟨h, z, d7, h71, h72, h73⟩ : ∃ h z, u 51 = .slice (some ⟨h, 0, none⟩) 1 1 ∧ wc.heap.size ≤ h ∧ W.heap[h]? = some (.cells #[z] 58 (0, 0)) ∧ KidX v.ownBlock wc.heap.size W z (l[k].drop gn) := (hdep _ rfl ⟨7, .data⟩ (by simp) rfl).2
        have d1 : u 45 = v := (hdep _ rfl ⟨1, .data⟩ (by simp) rfl).2
        have hl8 : L.getD 8 false = false := by
          cases h8 : L.getD 8 false
          · rfl
          · rw [getD_both (by omega) h8] at hLi; cases hLi
        have hG := hj.2.1 hl8
        have ho := hG.own
        rw [HPL.out] at ho
        obtain ⟨g, cap, W8, hrun, q1, q2, q3, q4⟩ := app_row k v z vs _ h W ho h72 h73.one (by omega) (by omega)
        have HJ8 : Hid _ := GrJ.put hj (by omega) hl8 hN0 h73 (g := g) (cap := cap) (by rw [HPL.out]; exact q1) q2 q3
        rw [HPL.out] at HJ8
        have HQ2 : Hid _ := q2
        clear hdep ho hG q1 q2 q3 h73 h72
        refine wpOp_step rfl (fun K hK => ?_)
        refine wp_append_run (.tmp 45) (.tmp 51) _ rfl _ _ _ _ d1 d7 hrun ?_
        exact hK _ _ ⟨_, rfl, fun j y h => FgPv.up HQ2.out.size (fun k a1 h2 => HQ2.out.block k h2 (fun e => by have := (HRB.out _ e.symm).2; omega)) h, trivial, HJ8.out⟩
      · refine wpOp_step rfl (fun K hK => ?_)
        clear hdep
        go_simp
        exact hK _ _ ⟨_, rfl, fun _ _ h => h, rfl, hj.step (Below.refl _ _) (by omega) (by omega)⟩
    case last =>
      intro L u W hLs hL hj hp
      have d9 : u 53 = .pointer (some ⟨w.heap.size + 1 + 1 + 1, 0, none⟩) := hp 9 (by omega)
      obtain ⟨hc, vs', hG⟩ := hj.done HG.out (hL 8 (by omega)) (by omega)
      obtain ⟨a9, n9, c9, e9⟩ : ∃ a n c, u 52 = .slice a n c := by obtain ⟨a9, c9, e9, _⟩ := hG.row; exact ⟨a9, _, c9, e9⟩
      have q2 := fun o => row_cell hc o
      have f2 := fun o => row_frozen hc o
      have HG2 : Hid (Grow (w.heap.size + 1 + 1 + 1) now (W.setCell ⟨w.heap.size + 1 + 1 + 1, 0, none⟩ (u 52)) (u 52) vs' ((fgS low l).take (k + 1))) := by
        rw [Hid, List.take_succ_eq_append_getElem (by rw [fgS_len]; exact hlt)]
        have e : (fgS low l)[k]'(by rw [fgS_len]; exact hlt) = l[k].drop gn := by
          rw [HGN2.out]
          have := fgS_at (low := low) hlt
          rw [List.getElem?_eq_getElem (by rw [fgS_len]; exact hlt)] at this
          simpa using this
        rw [e]; exact hG
      have HBW : Hid (Below (w.heap.size + 1 + 1) V W) := HB.out.grown hj.1 (by omega) (fun g hg => by have := (HRB.out g hg).1; omega)
      rw [e9] at HG2
      have HN3 : Hid (n + gn = goS low (l.take (k + 1))) := by rw [Hid, goS_take hlt, HN.out, HGN.out]
      clear hp hj hc hG
      unfold wpTail
      refine wpOp_step rfl (fun K hK => ?_)
      go_simp
      refine hK _ _ ?_
      clear hK
      unfold wpTail
      go_wp2_with fail
      exact ⟨⟨k + 1, n + gn, _, vs', by omega, by go_num, by go_num, by omega, HN3, HBW.out.setCell (by first | omega | (simp <;> omega)) _, HG2⟩, by simp [intOf]; omega⟩
end Go.Proofs.Ytoahbfledamnnaa.G
namespace Go.Proofs.Ytoahbfledamnnaa.G
open Go.ChangeShapes Go.WideShapes Go.ChangeAt Go.RowKit
set_option linter.unusedVariables false

def NoCh (l : Chs) : Prop := l.length = 16 ∧ ∀ x ∈ l, x = []
theorem noCh : ∃ l, NoCh l := ⟨List.replicate 16 [], by simp, fun x hx => (List.mem_replicate.1 hx).2⟩
theorem NoCh.bd {l : Chs} (h : NoCh l) : ChsBd 1048576 l := ⟨by have := h.1; omega, fun x hx => by rw [h.2 x hx]; simp⟩
theorem NoCh.size {l : Chs} (h : NoCh l) : sizeN l = 0 := by
  unfold sizeN
  have : l.map List.length = List.replicate l.length 0 := by
    rw [List.eq_replicate_iff]
    exact ⟨by simp, fun b hb => by obtain ⟨x, hx, rfl⟩ := List.mem_map.1 hb; rw [h.2 x hx]; rfl⟩
  rw [this]; simp
theorem made_nil (i : Nat) (h : i < 16) : (madeCells #[Value.slice none 0 0] 16)[i]? = some (.slice none 0 0) := by
  have key : ∀ j : Fin 16, (madeCells #[Value.slice none 0 0] 16)[j.val]? = some (.slice none 0 0) := by
    intro j
    unfold madeCells
    rw [Array.getElem?_map, Array.getElem?_eq_getElem (by simp), Array.getElem_range]
    simp [Nat.mod_one]
  exact key ⟨i, h⟩
theorem NoCh.own {l : Chs} (h : NoCh l) {w : World} {b lo hi : Nat} (hh : w.heap[b]? = some (.cells (madeCells #[Value.slice none 0 0] 16) 58 (0, 0))) (h1 : lo ≤ b) (h2 : b < hi) : StOwn lo hi w (some ⟨b, 0, none⟩) l (fun _ => 0) := by
  refine ⟨b, _, rfl, h1, h2, hh, by rw [size_madeCells]; have := h.1; omega, fun i x hx => ?_, fun i j x y hx hy _ hxn _ => absurd (h.2 x (List.mem_of_getElem? hx)) hxn⟩
  have hi : i < 16 := by have := (List.getElem?_eq_some_iff.1 hx).1; have := h.1; omega
  have hx0 := h.2 x (List.mem_of_getElem? hx)
  subst hx0
  exact ⟨none, 0, made_nil i hi, by simp, fun hne => absurd rfl hne⟩
set_option maxHeartbeats 1000000 in
theorem spec_new (l : Chs) (hn : NoCh l) (w : World) :
    Calls Try.prog 43 #[] w fun e w' => ∃ a, e = .returned (.agg #[.slice a l.length 16, .int .i64 0]) ∧ StOwn w.heap.size w'.heap.size w' a l (fun _ => 0) ∧ Below w.heap.size w w' := by
  obtain ⟨i27, hi, hz, hsz, hby⟩ := info_Ch
  have hmk := fun W => run_make (P := Try.prog) W 23 58 i27 _ Try.underlying23 hi hz .i64 .i64 (16 : Int) (16 : Int) (by omega) (by omega) (by rw [hby]; omega) (by omega)
  rw [hsz] at hmk
  replace hmk : ∀ W : World, (Instr.makeSlice 23 (.int .i64 16) (.int .i64 16)).run Try.prog W = .ok (.slice (some ⟨W.heap.size, 0, none⟩) 16 16) (W.alloc (.cells (madeCells #[Value.slice none 0 0] 16) 58)) := hmk
  clear hi hz hsz hby
  have HG := fun (W : World) (b lo hi : Nat) => NoCh.own hn (w := W) (b := b) (lo := lo) (hi := hi)
  have HGG : Hid _ := HG
  have hl := hn.1
  have HL : Hid _ := hl
  clear HG hn hl
  generalize madeCells #[Value.slice none 0 0] 16 = cs0 at *
  go_enter Try.func43, Try.ntmps43
  go_wp2_with fail
  refine bodyPost_ret (v := .agg #[.slice (some ⟨w.heap.size + 1, 0, none⟩) 16 16, .int .i64 0]) (by simp [results, Try.results43, go_sem]) rfl ⟨some ⟨w.heap.size + 1, 0, none⟩, by rw [HL.out], ?_, ?_⟩
  · refine HGG.out _ _ _ _ ?_ (by omega) (by simp)
    have := heap_alloc_new (w.alloc (.cells #[.slice (some ⟨w.heap.size + 1, 0, none⟩) 16 16, .int .i64 0] 25)) (.cells cs0 58)
    simpa using this
  · repeat (first | exact Below.refl _ _ | refine Below.setCell ?_ (by first | omega | (simp <;> omega)) _ | refine Below.alloc ?_ (by first | omega | (simp <;> omega)) _)
end Go.Proofs.Ytoahbfledamnnaa.G
namespace Go.Proofs.Ytoahbfledamnnaa.G
open Go.ChangeShapes Go.WideShapes Go.ChangeAt Go.RowKit
set_option linter.unusedVariables false

set_option maxHeartbeats 1000000 in
theorem spec_write_nil (a pa : Option Addr) (m c pc : Nat) (now : Int) (w : World) :
    Calls Try.prog 46 #[.agg #[.slice a m c, .int .i64 now], .slice pa 0 pc] w fun e w' => e = .returned (.agg #[.slice a m c, .int .i64 now]) ∧ Below w.heap.size w w' := by
  go_enter Try.func46, Try.ntmps46
  go_wp2_with fail
  refine bodyPost_ret (v := .agg #[.slice a m c, .int .i64 now]) (by simp [results, Try.results46, go_sem]) rfl ⟨rfl, ?_⟩
  repeat (first | exact Below.refl _ _ | refine Below.setCell ?_ (by first | omega | (simp <;> omega)) _ | refine Below.alloc ?_ (by first | omega | (simp <;> omega)) _)
/-- A store's rows, beside the variable that holds it. -/
def Beside (lo X : Nat) (w : World) (a : Option Addr) (l : Chs) : Prop := ChRow lo X w a l ∨ ChRow (X + 1) w.heap.size w a l
theorem Beside.row {lo X : Nat} {w : World} {a : Option Addr} {l : Chs} (h : Beside lo X w a l) (hX : X ≤ w.heap.size) : ChRow 0 w.heap.size w a l := by
  rcases h with h | h
  · exact ChRow.wide h (Nat.zero_le _) hX
  · exact ChRow.wide h (Nat.zero_le _) (Nat.le_refl _)
theorem Beside.keep {lo X : Nat} {w w' : World} {a : Option Addr} {l : Chs} (h : Beside lo X w a l) (hX : X ≤ w.heap.size) (hlo : lo ≤ X) (hs : w.heap.size ≤ w'.heap.size) (hk : ∀ g, lo ≤ g → g < w.heap.size → g ≠ X → w'.heap[g]? = w.heap[g]?) : Beside lo X w' a l := by
  rcases h with h | h
  · exact .inl (ChRow.keep h (fun g h1 h2 => hk g h1 (by omega) (by omega)))
  · exact .inr (ChRow.wide (ChRow.keep h (fun g h1 h2 => hk g (by omega) h2 (by omega))) (Nat.le_refl _) hs)
theorem OwnK.chRow {lo : Nat} {w : World} {v : Value} {l : Chs} (h : OwnK lo w v l) : ∃ a c, v = .slice a l.length c ∧ ChRow lo w.heap.size w a l := by
  obtain ⟨vs, h1, h2⟩ := h
  exact Kids.row h1 h2
/-- The write of a drawn store, of whatever writes. -/
theorem write_any (a pa : Option Addr) (c pc : Nat) (l : Chs) (ps : List Ve) (now X lo : Nat) (w : World) (hb : Beside lo X w a l) (hX : X < w.heap.size) (hlo : lo ≤ X) (hp : VeRow 0 w.heap.size w pa ps) (hs : storeB l now = true) (hn : now ≤ 1000) (hpl : ps.length ≤ 4) (hpp : ∀ p ∈ ps, putB p.ts p.v = true) :
    Calls Try.prog 46 #[.agg #[.slice a l.length c, .int .i64 now], .slice pa ps.length pc] w fun e w' => (∃ (l2 : Chs) (a2 : Option Addr) (c2 now2 : Nat), e = .returned (.agg #[.slice a2 l2.length c2, .int .i64 now2]) ∧ Beside lo X w' a2 l2 ∧ storeB l2 now2 = true ∧ now2 ≤ now + 1) ∧ Below w.heap.size w w' := by
  by_cases h0 : ps.length = 0
  · rw [h0]
    refine (spec_write_nil a pa l.length c pc now w).mono ?_
    rintro e w' ⟨rfl, hbw⟩
    exact ⟨⟨l, a, c, now, rfl, hb.keep (by omega) hlo hbw.size (fun g h1 h2 h3 => hbw.block g h2), hs, by omega⟩, hbw⟩
  · obtain ⟨h1, h2, h3, h4⟩ := storeB_all hs
    have hlen := storeB_bd hs
    refine (spec_l06Write a pa c pc l ps now w (hb.row (by omega)) hp ⟨by omega, fun x hx => by have := hlen x hx; omega⟩ (by omega) (by omega) h1 (fun i hi => by
      have := hpp ps[i] (List.getElem_mem hi)
      simp only [putB, keyS, Bool.and_eq_true, decide_eq_true_eq] at this
      exact this.1) (by omega)).mono ?_
    rintro e w' ⟨v, rfl, ho, hbw⟩
    obtain ⟨a2, c2, rfl, hr⟩ := ho.chRow
    exact ⟨⟨_, a2, c2, now + 1, rfl, .inr (ChRow.wide hr (by omega) (Nat.le_refl _)), storeB_wr hs (by omega) hpp, Nat.le_refl _⟩, hbw⟩
end Go.Proofs.Ytoahbfledamnnaa.G
