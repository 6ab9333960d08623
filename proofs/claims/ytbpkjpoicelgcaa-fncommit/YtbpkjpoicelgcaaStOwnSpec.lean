/- The specification's copy of a store. -/
import Derived.Test.YtbpkjpoicelgcaaStKids
import Derived.Test.YtbpkjpoicelgcaaStCopy
import Derived.Test.YtbpkjpoicelgcaaStGrow
import Derived.Test.YtbpkjpoicelgcaaStSpecTwo
namespace Go.Proofs.Ytbpkjpoicelgcaa.G
open Go.ChangeShapes Go.WideShapes Go.ChangeAt Go.RowKit
set_option linter.unusedVariables false

/-- A row of chains that a call owns, its chains in blocks of their own. -/
def OwnK (lo : Nat) (w : World) (v : Value) (l : Chs) : Prop := ∃ vs, w.ownsRow lo 58 1 v l.length vs ∧ Kids v.ownBlock lo w vs l
/-- What each operation of the copying tells. -/
def OwPv (B N0 M0 S : Nat) (W0 : World) (v : Value) (A : Option Addr) (n c k : Nat) (pk : Value) (a3 : Option Addr) (c3 : Nat) (lc : List Ve) : Nat → Value → World → Prop
  | 0, y, _ => y = .pointer (some ⟨B, 0, none⟩)
  | 1, y, _ => y = v
  | 2, y, _ => ∃ g, y = .slice g 0 0
  | 3, y, _ => y = .pointer (some ⟨S, 0, none⟩)
  | 4, y, _ => y = .slice A n c
  | 5, y, _ => y = .int .i64 k
  | 6, y, _ => y = pk
  | 7, y, _ => y = .slice a3 lc.length c3
  | 8, y, W => KidX v.ownBlock N0 W y lc
  | 9, y, W => ∃ h z, y = .slice (some ⟨h, 0, none⟩) 1 1 ∧ N0 ≤ h ∧ W.heap[h]? = some (.cells #[z] 58 (0, 0)) ∧ KidX v.ownBlock N0 W z lc
  | 10, _, _ => True
  | _, y, _ => y = .pointer (some ⟨B, 0, none⟩)
theorem OwPv.up {B N0 M0 S : Nat} {W0 : World} {v : Value} {A : Option Addr} {n c k : Nat} {pk : Value} {a3 : Option Addr} {c3 : Nat} {lc : List Ve} {W W' : World} (hs : W.heap.size ≤ W'.heap.size) (hk : ∀ k, N0 ≤ k → k < W.heap.size → W'.heap[k]? = W.heap[k]?) {i : Nat} {y : Value} (h : OwPv B N0 M0 S W0 v A n c k pk a3 c3 lc i y W) : OwPv B N0 M0 S W0 v A n c k pk a3 c3 lc i y W' := by
  unfold OwPv at h ⊢
  split at h
  case h_9 => exact h.keep hs (fun k a1 a2 a3 => ⟨hk k a1 a2, a3⟩)
  case h_10 =>
    obtain ⟨h', z, h1, h2, h3, h4⟩ := h
    exact ⟨h', z, h1, h2, (hk _ h2 (Array.getElem?_eq_some_iff.1 h3).1).trans h3, h4.keep hs (fun k a1 a2 a3 => ⟨hk k a1 a2, a3⟩)⟩
  all_goals exact h
set_option maxHeartbeats 8000000 in
set_option maxRecDepth 40000 in
theorem spec_l06Own (a : Option Addr) (c : Nat) (l : Chs) (now : Int) (w : World) (hr : ChRow 0 w.heap.size w a l) (hbd : ChsBd 1048576 l) :
    Calls Try.prog 42 #[.agg #[.slice a l.length c, .int .i64 now]] w fun e w' => ∃ v, e = .returned (.agg #[v, .int .i64 now]) ∧ OwnK w.heap.size w' v l ∧ Below w.heap.size w w' := by
  have HR : Hid (ChRow 0 w.heap.size w a l) := hr
  have hl := hbd.1
  have HT : Hid (∀ x ∈ l, x.length ≤ 1048576) := hbd.2
  clear hr hbd
  go_enter Try.func42, Try.ntmps42
  go_wp2_with fail
  obtain ⟨V, hV⟩ : ∃ V : World, V = (((w.alloc (.cells #[.slice a l.length c, .int .i64 now] 25)).alloc (.cells #[.slice none 0 0, .int .i64 0] 25)).alloc (.cells #[] 58)).alloc (.cells #[.slice (some ⟨w.heap.size + 1 + 1, 0, none⟩) 0 0, .int .i64 now] 25) := ⟨_, rfl⟩
  have zV : V.heap.size = w.heap.size + 4 := by rw [hV]; simp
  have bV : Below w.heap.size w V := by
    rw [hV]
    repeat (first | exact Below.refl _ _ | refine Below.alloc ?_ (by first | omega | (simp <;> omega)) _)
  have c0 : V.heap[w.heap.size]? = some (.cells #[.slice a l.length c, .int .i64 now] 25 (0, 0)) := by
    rw [hV, Below.heap_alloc _ _ _ (by simp <;> omega), Below.heap_alloc _ _ _ (by simp <;> omega), Below.heap_alloc _ _ _ (by simp <;> omega)]; exact heap_alloc_new _ _
  have c1 : V.heap[w.heap.size + 1]? = some (.cells #[.slice none 0 0, .int .i64 0] 25 (0, 0)) := by
    rw [hV, Below.heap_alloc _ _ _ (by simp <;> omega), Below.heap_alloc _ _ _ (by simp <;> omega)]
    have := heap_alloc_new (w.alloc (.cells #[.slice a l.length c, .int .i64 now] 25)) (.cells #[.slice none 0 0, .int .i64 0] 25)
    simpa using this
  have gV : Grow (w.heap.size + 1 + 1 + 1) now V (.slice (some ⟨w.heap.size + 1 + 1, 0, none⟩) 0 0) [] [] := by
    refine ⟨?_, ⟨rfl, .inr ⟨w.heap.size + 1 + 1, 0, #[], rfl, by omega, ?_, Nat.le_refl _, Nat.zero_le _, rfl, rfl⟩⟩, by simp [Value.ownBlock], fun i x hx => by simp at hx⟩
    · rw [hV]
      have := heap_alloc_new (((w.alloc (.cells #[.slice a l.length c, .int .i64 now] 25)).alloc (.cells #[.slice none 0 0, .int .i64 0] 25)).alloc (.cells #[] 58)) (.cells #[.slice (some ⟨w.heap.size + 1 + 1, 0, none⟩) 0 0, .int .i64 now] 25)
      simpa using this
    · rw [hV, Below.heap_alloc _ _ _ (by simp <;> omega)]
      have := heap_alloc_new ((w.alloc (.cells #[.slice a l.length c, .int .i64 now] 25)).alloc (.cells #[.slice none 0 0, .int .i64 0] 25)) (.cells #[] 58)
      simpa using this
  rw [← hV]
  have GV : Hid _ := gV
  have CV : Hid (V.heap[w.heap.size]? = some (.cells #[.slice a l.length c, .int .i64 now] 25 (0, 0)) ∧ V.heap[w.heap.size + 1]? = some (.cells #[.slice none 0 0, .int .i64 0] 25 (0, 0)) ∧ Below w.heap.size w V) := ⟨c0, c1, bV⟩
  clear gV c0 c1 bV hV
  go_loopw [4] (fun i w' => ∃ (k : Nat) (v : Value) (vs : List Value), k ≤ l.length ∧ i = .int .i64 k ∧ Below (w.heap.size + 1 + 1) V w' ∧ Hid (Grow (w.heap.size + 1 + 1 + 1) now w' v vs (l.take k))) (fun i _ => l.length - (intOf i).toNat)
  case atStart => exact ⟨0, _, _, by omega, rfl, Below.refl _ _, by rw [List.take_zero]; exact GV⟩
  case round =>
    obtain ⟨wo, rfl⟩ : ∃ x, x = wr := ⟨_, rfl⟩
    obtain ⟨k, v, vs, hk, rfl, hb, HG⟩ := hrel
    have hz := hb.size
    have e0 : wo.heap[w.heap.size]? = some (.cells #[.slice a l.length c, .int .i64 now] 25 (0, 0)) := (hb.block _ (by omega)).trans CV.out.1
    have e1 : wo.heap[w.heap.size + 1]? = some (.cells #[.slice none 0 0, .int .i64 0] 25 (0, 0)) := (hb.block _ (by omega)).trans CV.out.2.1
    have Q : Hid (Below w.heap.size w wo) := CV.out.2.2.trans (hb.mono (by omega))
    by_cases hlt : k < l.length
    case neg =>
      obtain rfl : k = l.length := by omega
      have GE : Hid (Grow (w.heap.size + 1 + 1 + 1) now wo v vs l) := by have := HG.out; rw [List.take_length] at this; exact this
      have x0 := fun o => row_cell e0 o
      have xv := fun o => row_cell GE.out.cell o
      have x1 := fun o => row_cell e1 o
      have y1 := fun o => row_frozen e1 o
      obtain ⟨a9, c9, hv, _⟩ := GE.out.row
      have hlt' : ¬ (l.length : Int) < l.length := by omega
      have OW : Hid (wo.ownsRow w.heap.size 58 1 v l.length vs) := own_low GE.out.own (by omega)
      have KW : Hid (Kids v.ownBlock w.heap.size wo vs l) := GE.out.kids.low (by omega)
      have HL9 := GE.out.lt.2
      have HLT : Hid _ := HL9
      have KB9 : Hid (Kids v.ownBlock (w.heap.size + 1 + 1 + 1 + 1) wo vs l) := GE.out.kids
      subst hv
      clear e0 e1 HG HL9
      go_wp2_with fail
      refine bodyPost_ret (v := .agg #[.slice a9 l.length c9, .int .i64 now]) (by simp [results, Try.results42, go_sem, x1]) rfl ⟨_, rfl, ⟨vs, ?_, ?_⟩, ?_⟩
      · refine own_set OW.out (fun g hg => ?_)
        have := (HLT.out g hg).1
        rw [heap_set _ _ _ _ _ (by omega), heap_set _ _ _ _ _ (by omega)]
      · refine Kids.low (Kids.keep KB9.out (by simp) (fun g h1 h2 h3 => ⟨?_, h3⟩)) (by omega)
        rw [heap_set _ _ _ _ _ (by omega), heap_set _ _ _ _ _ (by omega)]
      · repeat (refine Below.setCell ?_ (by first | omega | (simp <;> omega)) _)
        exact Q.out
    obtain ⟨b, o, a3, c3, ha, _, hbl, d0, hcap, r3⟩ := ChRow.cells (ChRow.keep HR.out (agree Q.out (Nat.le_refl _))) k hlt
    subst ha
    have hX : l[k].length ≤ 1048576 := HT.out l[k] (List.getElem_mem hlt)
    have R3 : Hid (VeRow 0 w.heap.size wo a3 l[k]) := r3
    have x0 := fun o => row_cell e0 o
    have HB : Hid _ := hb
    have E1 : Hid _ := e1
    have E0 : Hid _ := e0
    have D0 : Hid (wo.cell? ⟨b, o + k, none⟩ = some (.slice a3 l[k].length c3)) := d0
    have hlt' : (k : Int) < l.length := by omega
    clear r3 e0 e1 hb
    go_wp2_with fail
    have hN0 : w.heap.size + 1 + 1 + 1 + 1 ≤ wo.heap.size := by omega
    have HRB : Hid _ := HG.out.lt.2
    have hpl : (l.take k).length = k := by rw [List.length_take]; omega
    have HPL : Hid _ := hpl
    clear hpl x0 d0
    refine region_rel5 (n := 12) (k := 1) (by omega) (by kernel_rfl) (by kernel_rfl) (by kernel_rfl) (fun u => ⟨#[.agg #[.slice (some ⟨b, o, none⟩) l.length c, .int .i64 now], .pointer (some ⟨w.heap.size, 0, none⟩), .pointer (some ⟨w.heap.size + 1, 0, none⟩), .pointer (some ⟨w.heap.size + 1 + 1 + 1, 0, none⟩), .int .i64 k, .slice (some ⟨w.heap.size + 1 + 1, 0, none⟩) 0 0, .pointer (some ⟨w.heap.size, 1, none⟩), .int .i64 now, .agg #[.slice (some ⟨w.heap.size + 1 + 1, 0, none⟩) 0 0, .int .i64 now], .int .i64 k, .pointer (some ⟨w.heap.size, 0, none⟩), .slice (some ⟨b, o, none⟩) l.length c, .int .i64 l.length, .bool true, u14, u15, u 16, u 17, u 18, u 19, u 20, u 21, u 22, u 23, u 24, u 25, u 26, u 27, undef], []⟩) (fun n => match n with | 16 => u16 | 17 => u17 | 18 => u18 | 19 => u19 | 20 => u20 | 21 => u21 | 22 => u22 | 23 => u23 | 24 => u24 | 25 => u25 | 26 => u26 | 27 => u27 | _ => undef) (fun i => 16 + i) (fun i j _ _ h => by omega)
      (OwPv (w.heap.size + 1 + 1 + 1) wo.heap.size w.heap.size w.heap.size wo v (some ⟨b, o, none⟩) l.length c k (.pointer (some ⟨b, o + k, none⟩)) a3 c3 l[k]) (GrJ 10 26 (w.heap.size + 1 + 1 + 1) now wo v vs (l.take k) l[k]) (GrJ.start HG.out) ?step ?last
    case step =>
      intro L u W i hi hLs hLi hj hdep
      have hzW := hj.1.size
      have oldb : ∀ g, g < w.heap.size + 1 + 1 → W.heap[g]? = wo.heap[g]? := fun g hg => hj.1.block g (by omega) (fun e => by have := (HRB.out g e.symm).1; omega)
      have hcase : i = 0 ∨ i = 1 ∨ i = 2 ∨ i = 3 ∨ i = 4 ∨ i = 5 ∨ i = 6 ∨ i = 7 ∨ i = 8 ∨ i = 9 ∨ i = 10 ∨ i = 11 := by omega
      rcases hcase with rfl | rfl | rfl | rfl | rfl | rfl | rfl | rfl | rfl | rfl | rfl | rfl
      · refine wpOp_step rfl (fun K hK => ?_)
        clear hdep
        go_simp
        exact hK _ _ ⟨_, rfl, fun _ _ h => h, rfl, hj.step (Below.refl _ _) (by omega) (by omega)⟩
      · have d0 : u 16 = .pointer (some ⟨w.heap.size + 1 + 1 + 1, 0, none⟩) := (hdep _ rfl ⟨0, .data⟩ (by simp) rfl).2
        have x6 := fun o => row_cell ((hj.1.block _ HG.out.lt.1 (fun e => HG.out.off e.symm)).trans HG.out.cell) o
        refine wpOp_step rfl (fun K hK => ?_)
        clear hdep
        go_simp
        exact hK _ _ ⟨_, by simp [upd, d0], fun _ _ h => h, rfl, hj.step (Below.refl _ _) (by omega) (by omega)⟩
      · refine wpOp_step rfl (fun K hK => ?_)
        clear hdep
        go_simp
        exact hK _ _ ⟨_, rfl, fun j y h => OwPv.up (by simp) (fun k _ h2 => Below.heap_alloc _ _ _ h2) h, ⟨_, rfl⟩, hj.step ((Below.refl _ _).alloc (Nat.le_refl _) _) (by omega) (by omega)⟩
      · refine wpOp_step rfl (fun K hK => ?_)
        clear hdep
        go_simp
        exact hK _ _ ⟨_, rfl, fun _ _ h => h, rfl, hj.step (Below.refl _ _) (by omega) (by omega)⟩
      · have d3 : u 19 = .pointer (some ⟨w.heap.size, 0, none⟩) := (hdep _ rfl ⟨3, .data⟩ (by simp) rfl).2
        have x6 := fun o => row_cell ((oldb _ (by omega)).trans E0.out) o
        refine wpOp_step rfl (fun K hK => ?_)
        clear hdep
        go_simp
        exact hK _ _ ⟨_, by simp [upd, d3], fun _ _ h => h, rfl, hj.step (Below.refl _ _) (by omega) (by omega)⟩
      · refine wpOp_step rfl (fun K hK => ?_)
        clear hdep
        go_simp
        exact hK _ _ ⟨_, rfl, fun _ _ h => h, rfl, hj.step (Below.refl _ _) (by omega) (by omega)⟩
      · have d4 : u 20 = .slice (some ⟨b, o, none⟩) l.length c := (hdep _ rfl ⟨4, .data⟩ (by simp) rfl).2
        have d5 : u 21 = .int .i64 k := (hdep _ rfl ⟨5, .data⟩ (by simp) rfl).2
        refine wpOp_step rfl (fun K hK => ?_)
        clear hdep
        go_simp
        exact hK _ _ ⟨_, by simp [upd, d4, d5], fun _ _ h => h, rfl, hj.step (Below.refl _ _) (by omega) (by omega)⟩
      · have d6 : u 22 = .pointer (some ⟨b, o + k, none⟩) := (hdep _ rfl ⟨6, .data⟩ (by simp) rfl).2
        have x7 := (World.cell?_of_block (a := ⟨b, o + k, none⟩) (w := wo) (w' := W) (oldb b (by omega))).trans D0.out
        refine wpOp_step rfl (fun K hK => ?_)
        clear hdep
        go_simp
        exact hK _ _ ⟨_, by simp [upd, d6], fun _ _ h => h, rfl, hj.step (Below.refl _ _) (by omega) (by omega)⟩
      · obtain ⟨g2, d2⟩ : ∃ g, u 18 = .slice g 0 0 := (hdep _ rfl ⟨2, .data⟩ (by simp) rfl).2
        have d7 : u 23 = .slice a3 l[k].length c3 := (hdep _ rfl ⟨7, .data⟩ (by simp) rfl).2
        have r5W : VeRow 0 W.heap.size W a3 l[k] := VeRow.wide (VeRow.keep R3.out (fun g _ h2 => oldb g (by omega))) (Nat.le_refl _) (by omega)
        obtain ⟨a6, c6, W6, hrun, h61, h62, h63⟩ := app_fresh l[k] a3 g2 c3 W r5W hX
        have HK6 : Hid (KidX v.ownBlock wo.heap.size W6 (.slice a6 l[k].length c6) l[k]) := by
          refine ⟨a6, c6, rfl, h61, ?_⟩
          rcases h62 with h | ⟨h, hv⟩
          · exact .inl h
          · exact .inr ⟨W.heap.size, h, hzW, hv.lt, fun e => by have := (HRB.out _ e.symm).2; omega, hv⟩
        have H63 : Hid _ := h63
        clear hdep r5W h61 h62 h63
        refine wpOp_step rfl (fun K hK => ?_)
        refine wp_append_run (.tmp 18) (.tmp 23) _ rfl _ _ _ _ d2 d7 hrun ?_
        exact hK _ _ ⟨_, rfl, fun j y h => OwPv.up H63.out.size (fun k _ h2 => H63.out.block k h2) h, HK6.out, hj.step H63.out (by omega) (by omega)⟩
      · have d6 : KidX v.ownBlock wo.heap.size W (u 24) l[k] := (hdep _ rfl ⟨8, .data⟩ (by simp) rfl).2
        have H6 := d6
        obtain ⟨a6, c6, e6, _⟩ := d6
        rw [e6] at H6
        have HK7 : Hid _ := H6
        clear hdep H6
        refine wpOp_step rfl (fun K hK => ?_)
        go_simp
        exact hK _ _ ⟨.slice (some ⟨W.heap.size, 0, none⟩) 1 1, by simp [upd, e6], fun j y h => OwPv.up (by simp) (fun k _ h2 => Below.heap_alloc _ _ _ h2) h, ⟨W.heap.size, _, rfl, hzW, heap_alloc_new _ _, KidX.keep (show KidX v.ownBlock wo.heap.size W (.slice a6 l[k].length c6) l[k] from HK7.out) (by simp) (fun k _ h2 h3 => ⟨Below.heap_alloc _ _ _ h2, h3⟩)⟩, hj.step ((Below.refl _ _).alloc (Nat.le_refl _) _) (by omega) (by omega)⟩
      · obtain ⟨h, z, d7, h71, h72, h73⟩ : ∃ h z, u 25 = .slice (some ⟨h, 0, none⟩) 1 1 ∧ wo.heap.size ≤ h ∧ W.heap[h]? = some (.cells #[z] 58 (0, 0)) ∧ KidX v.ownBlock wo.heap.size W z l[k] := (hdep _ rfl ⟨9, .data⟩ (by simp) rfl).2
        have d1 : u 17 = v := (hdep _ rfl ⟨1, .data⟩ (by simp) rfl).2
        have hl8 : L.getD 10 false = false := by
          cases h8 : L.getD 10 false
          · rfl
          · rw [getD_both (by omega) h8] at hLi; cases hLi
        have hG := hj.2.1 hl8
        have ho := hG.own
        rw [HPL.out] at ho
        obtain ⟨g, cap, W8, hrun, q1, q2, q3, q4⟩ := app_row k v z vs _ h W ho h72 h73.one (by omega) (by omega)
        have HJ8 : Hid _ := GrJ.put hj (by omega) hl8 hN0 h73 (g := g) (cap := cap) (by rw [HPL.out]; exact q1) q2 q3
        rw [HPL.out] at HJ8
        have HQ2 : Hid _ := q2
        clear hdep ho hG q1 q2 q3 h73 h72
        refine wpOp_step rfl (fun K hK => ?_)
        refine wp_append_run (.tmp 17) (.tmp 25) _ rfl _ _ _ _ d1 d7 hrun ?_
        exact hK _ _ ⟨_, rfl, fun j y h => OwPv.up HQ2.out.size (fun k a1 h2 => HQ2.out.block k h2 (fun e => by have := (HRB.out _ e.symm).2; omega)) h, trivial, HJ8.out⟩
      · refine wpOp_step rfl (fun K hK => ?_)
        clear hdep
        go_simp
        exact hK _ _ ⟨_, rfl, fun _ _ h => h, rfl, hj.step (Below.refl _ _) (by omega) (by omega)⟩
    case last =>
      intro L u W hLs hL hj hp
      have d9 : u 27 = .pointer (some ⟨w.heap.size + 1 + 1 + 1, 0, none⟩) := hp 11 (by omega)
      obtain ⟨hc, vs', hG⟩ := hj.done HG.out (hL 10 (by omega)) (by omega)
      obtain ⟨a9, n9, c9, e9⟩ : ∃ a n c, u 26 = .slice a n c := by obtain ⟨a9, c9, e9, _⟩ := hG.row; exact ⟨a9, _, c9, e9⟩
      have q2 := fun o => row_cell hc o
      have f2 := fun o => row_frozen hc o
      have HG2 : Hid (Grow (w.heap.size + 1 + 1 + 1) now (W.setCell ⟨w.heap.size + 1 + 1 + 1, 0, none⟩ (u 26)) (u 26) vs' (l.take (k + 1))) := by
        rw [Hid, List.take_succ_eq_append_getElem hlt]; exact hG
      have HBW : Hid (Below (w.heap.size + 1 + 1) V W) := HB.out.grown hj.1 (by omega) (fun g hg => by have := (HRB.out g hg).1; omega)
      rw [e9] at HG2
      clear hp hj hc hG
      unfold wpTail
      refine wpOp_step rfl (fun K hK => ?_)
      go_simp
      refine hK _ _ ?_
      clear hK
      unfold wpTail
      go_wp2_with fail
      exact ⟨⟨k + 1, _, vs', by omega, by go_num, HBW.out.setCell (by first | omega | (simp <;> omega)) _, HG2⟩, by simp [intOf]; omega⟩
end Go.Proofs.Ytbpkjpoicelgcaa.G
