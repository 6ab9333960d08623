/- Proved: at every schema and every document the law FnExactValidate returns true, and its arguments read afterwards as they read before. No conditions beyond the row's own. -/
import Derived.Test.YthbjihbpjajggaaGreatVaGrp
import Derived.Test.YthbjihbpjajggaaGreatSchSz
import Derived.Test.YthbjihbpjajggaaGreatSchTo
import Derived.Test.YthbjihbpjajggaaGreatSchEq
import Derived.Test.YthbjihbpjajggaaGreatDocSzTwo
import Derived.Test.YthbjihbpjajggaaGreatDocToTwo
import Derived.Test.YthbjihbpjajggaaGreatDocEq
import Derived.Test.YthbjihbpjajggaaGreatGRegionThree
import Derived.WalkKit
import Derived.ProofKit
import Derived.OpenShut
import Derived.ShutString
import Derived.ChangeOld
import Derived.Below
import Derived.Lib.SmallJoins
import Derived.Deep.RegionWith
import Derived.Deep.CutRange
namespace Go.Proofs.YthbjihbpjajggaaGreat.fnExactValidate
open Go.ChangeShapes Go.WideShapes Go.ChangeAt Go.RowKit
open Go.ChangeMaps (open_string shut_string)
set_option linter.unusedVariables false

theorem own : ownKnob Tryz.prog.godebug = none := by kernel_rfl
theorem laidOut : laidOutB Tryz.prog = true := by kernel_rfl

def PL (a : Option Addr) (n c : Nat) (a' : Option Addr) (n' c' : Nat) (S : List G.Td) (D : List De) (i : Nat) (v : Value) (wx : World) : Prop :=
  match i with
  | 0 => v = .agg #[.slice a n c]
  | 1 => ∃ a2 d2, v = .agg #[.slice a2 S.length d2] ∧ G.TdRow 0 wx.heap.size wx a2 S
  | 2 => v = .agg #[.slice a' n' c']
  | 3 => ∃ a2 d2, v = .agg #[.slice a2 D.length d2] ∧ DeRow 0 wx.heap.size wx a2 D
  | 4 => ∃ x y, v = .tuple #[.int .i64 x, .int .i64 y] ∧ VlR S D x y
  | 5 => ∃ x y, v = .tuple #[.int .i64 x, .int .i64 y] ∧ VlR S D x y
  | 6 => ∃ x y, v = .int .i64 x ∧ VlR S D x y
  | 7 => ∃ x y, v = .int .i64 y ∧ VlR S D x y
  | 8 => ∃ x y, v = .int .i64 x ∧ VlR S D x y
  | _ => True
theorem PL.up (a : Option Addr) (n c : Nat) (a' : Option Addr) (n' c' : Nat) (S : List G.Td) (D : List De) : ∀ i v w w', PL a n c a' n' c' S D i v w → Below w.heap.size w w' → PL a n c a' n' c' S D i v w' := by
  intro i v w w' h hb
  unfold PL at h ⊢
  split at h
  · exact h
  · obtain ⟨a2, d2, h1, h2⟩ := h; exact ⟨a2, d2, h1, G.TdRow.up h2 hb⟩
  · exact h
  · obtain ⟨a2, d2, h1, h2⟩ := h; exact ⟨a2, d2, h1, DeRow.up h2 hb⟩
  · exact h
  · exact h
  · exact h
  · exact h
  · exact h
  · trivial
def dstL (i : Nat) : Nat := if i < 5 then 23 + i else if i = 5 then 22 else if i = 8 then 6 else 22 + i
theorem dstL_one : ∀ i j, i < 9 → j < 9 → dstL i = dstL j → i = j := by
  intro i j hi hj h
  unfold dstL at h
  repeat' split at h
  all_goals omega

set_option maxHeartbeats 16000000 in
set_option maxRecDepth 60000 in


theorem walk (a : Option Addr) (c : Nat) (S : List G.Td) (a' : Option Addr) (c' : Nat) (D : List De) (w : World) (hS : G.TdRow 0 w.heap.size w a S) (hSB : G.TdsBd maxLen S) (hD : DeRow 0 w.heap.size w a' D) (hDB : DefsBd maxLen D) :
    Calls Tryz.prog 3 #[.agg #[.slice a S.length c], .agg #[.slice a' D.length c']] w fun e w' => e = .returned (.bool true) ∧ Below w.heap.size w w' := by
  have K0 : Hid (∀ W0, Below w.heap.size w W0 → G.TdRow 0 W0.heap.size W0 a S) := fun W0 hB => G.TdRow.up hS hB
  have K1 : Hid (∀ W0, Below w.heap.size w W0 → DeRow 0 W0.heap.size W0 a' D) := fun W0 hB => DeRow.up hD hB
  have HS : Hid (G.TdsBd maxLen S) := hSB
  have HD : Hid (DefsBd maxLen D) := hDB
  clear hS hSB hD hDB
  go_enter Tryz.func3, Tryz.ntmps3
  go_wp2_with fail
  obtain ⟨W, hW⟩ : ∃ W, W = (w.alloc (.cells #[.slice a S.length c] 24)).alloc (.cells #[.slice a' D.length c'] 27) := ⟨_, rfl⟩
  rw [← hW]
  have zW : W.heap.size = w.heap.size + 2 := by rw [hW]; simp
  have B0 : Hid (Below w.heap.size w W) := by rw [hW]; exact ((Below.refl _ _).alloc (Nat.le_refl _) _).alloc (by simp) _
  have A0 : Hid (W.heap[w.heap.size]? = some (.cells #[.slice a S.length c] 24 (0, 0))) := by rw [Hid, hW, Below.heap_alloc _ _ _ (by simp)]; exact heap_alloc_new _ _
  have A1 : Hid (W.heap[w.heap.size + 1]? = some (.cells #[.slice a' D.length c'] 27 (0, 0))) := by
    rw [Hid, hW]
    have := heap_alloc_new (w.alloc (.cells #[.slice a S.length c] 24)) (.cells #[.slice a' D.length c'] 27)
    simpa using this
  clear hW
  refine (G.sz_top a c S 1048576 _ (K0.out _ B0.out) HS.out (by omega) (by omega)).mono ?_
  rintro e w1 ⟨m, rfl, hm, hb1⟩
  have HM : Hid (G.Sz 1048576 m (G.TdsBd 1048576 S)) := hm
  have W1 : Hid (Below W.heap.size W w1) := hb1
  have z1 := hb1.size
  have q1 : Hid (Below w.heap.size w w1) := B0.out.trans (hb1.mono (by omega))
  have e1 := fun o => row_cell ((W1.out.block (w.heap.size + 1) (by omega)).trans A1.out) o
  clear hm hb1
  by_cases hneg : m < 0
  · go_wp2_with fail
    go_ret
    exact ⟨rfl, q1.out⟩
  have HE : Hid (G.TdsBd 1048576 S) := HM.out.2.2 (by omega)
  have hmm := HM.out.1
  clear HM
  go_wp2_with fail
  refine (sz_doc a' c' D m _ (K1.out _ q1.out) HD.out (by omega) (by omega)).mono ?_
  rintro e w2 ⟨m2, rfl, hm, hb2⟩
  have HM : Hid (Sz m m2 (DefsBd 1048576 D)) := hm
  have W2 : Hid (Below W.heap.size W w2) := W1.out.trans (hb2.mono (by omega))
  have z2 := W2.out.size
  have q2 : Hid (Below w.heap.size w w2) := B0.out.trans (W2.out.mono (by omega))
  clear hm hb2 e1
  by_cases hneg2 : m2 < 0
  · go_wp2_with fail
    go_ret
    exact ⟨rfl, q2.out⟩
  have HF : Hid (DefsBd 1048576 D) := HM.out.2.2 (by omega)
  clear HM
  go_wp2_with fail
  refine G.region_rel3 (n := 9) (by kernel_rfl) (by kernel_rfl) (by kernel_rfl) (fun u => ⟨#[.agg #[.slice a S.length c], .agg #[.slice a' D.length c'], .pointer (some ⟨w.heap.size, 0, none⟩), .pointer (some ⟨w.heap.size + 1, 0, none⟩), .bool false, .int .i64 m2, u 6, undef, undef, undef, undef, undef, .agg #[.slice a S.length c], .int .i64 1048576, .int .i64 m, .int .i64 m, .bool (decide (m < 0)), .agg #[.slice a' D.length c'], .int .i64 m, .int .i64 m2, .int .i64 m2, .bool (decide (m2 < 0)), u 22, u 23, u 24, u 25, u 26, u 27, u 28, u 29, undef, undef, undef, undef, undef, undef, undef, undef, undef, undef, undef, undef, undef, undef, undef, undef, undef, undef, undef, undef, undef, undef, undef, undef, undef, undef, undef, undef], []⟩) (fun _ => undef) dstL dstL_one (PL a S.length c a' D.length c' S D) (fun _ _ _ => True)  trivial ?step ?last
  case step =>
    intro L u wx i hi hLs hLi hbw _ hdep
    have zw2 := hbw.size
    have y0 := fun o => row_cell ((hbw.block w.heap.size (by omega)).trans ((W2.out.block w.heap.size (by omega)).trans A0.out)) o
    have y1 := fun o => row_cell ((hbw.block (w.heap.size + 1) (by omega)).trans ((W2.out.block (w.heap.size + 1) (by omega)).trans A1.out)) o
    have HBw : Hid (Below w.heap.size w wx) := q2.out.trans (hbw.mono (by omega))
    clear hbw
    have hcase : i = 0 ∨ i = 1 ∨ i = 2 ∨ i = 3 ∨ i = 4 ∨ i = 5 ∨ i = 6 ∨ i = 7 ∨ i = 8 := by omega
    rcases hcase with rfl | rfl | rfl | rfl | rfl | rfl | rfl | rfl | rfl
    · refine wpOp_step rfl (fun K hK => ?_)
      clear hdep
      go_simp
      exact hK _ _ ⟨_, rfl, Below.refl _ _, fun _ _ h => h, rfl, trivial⟩
    · have d0 : u 23 = .agg #[.slice a S.length c] := (hdep _ rfl ⟨0, .data⟩ (by simp) rfl).2
      refine wpOp_step rfl (fun K hK => ?_)
      clear hdep
      go_simp
      refine (G.to_top a c S _ (K0.out _ HBw.out) HE.out).mono ?_
      rintro e w8 ⟨a8, d8, rfl, r8, hb8⟩
      exact hK _ _ ⟨.agg #[.slice a8 S.length d8], by simp [G.upd, dstL, d0], hb8.mono zw2, fun j x h => PL.up _ _ _ _ _ _ _ _ j x _ _ h hb8, ⟨a8, d8, rfl, G.TdRow.wide r8 (Nat.zero_le _) (Nat.le_refl _)⟩, trivial⟩
    · refine wpOp_step rfl (fun K hK => ?_)
      clear hdep
      go_simp
      exact hK _ _ ⟨_, rfl, Below.refl _ _, fun _ _ h => h, rfl, trivial⟩
    · have d2 : u 25 = .agg #[.slice a' D.length c'] := (hdep _ rfl ⟨2, .data⟩ (by simp) rfl).2
      refine wpOp_step rfl (fun K hK => ?_)
      clear hdep
      go_simp
      refine (to_doc a' c' D _ (K1.out _ HBw.out) HF.out).mono ?_
      rintro e w8 ⟨a8, d8, rfl, r8, hb8⟩
      exact hK _ _ ⟨.agg #[.slice a8 D.length d8], by simp [G.upd, dstL, d2], hb8.mono zw2, fun j x h => PL.up _ _ _ _ _ _ _ _ j x _ _ h hb8, ⟨a8, d8, rfl, DeRow.wide r8 (Nat.zero_le _) (Nat.le_refl _)⟩, trivial⟩
    · have p1 : PL a S.length c a' D.length c' S D 1 (u 24) wx := (hdep _ rfl ⟨1, .data⟩ (by simp) rfl).2
      have p3 : PL a S.length c a' D.length c' S D 3 (u 26) wx := (hdep _ rfl ⟨3, .data⟩ (by simp) rfl).2
      obtain ⟨a8, d8, e8, r8⟩ := p1
      obtain ⟨a9, d9, e9, r9⟩ := p3
      refine wpOp_step rfl (fun K hK => ?_)
      clear hdep
      go_simp
      refine (spec_validate a8 d8 S a9 d9 D _ r8 HE.out r9 HF.out).mono ?_
      rintro e w8 ⟨⟨x, y, rfl, hxy⟩, hb8⟩
      exact hK _ _ ⟨.tuple #[.int .i64 x, .int .i64 y], by simp [G.upd, dstL, e8, e9], hb8.mono zw2, fun j x h => PL.up _ _ _ _ _ _ _ _ j x _ _ h hb8, ⟨x, y, rfl, hxy⟩, trivial⟩
    · have p4 : PL a S.length c a' D.length c' S D 4 (u 27) wx := (hdep _ rfl ⟨4, .data⟩ (by simp) rfl).2
      obtain ⟨x, y, e4, hxy⟩ := p4
      refine wpOp_step rfl (fun K hK => ?_)
      clear hdep
      go_simp
      exact hK _ _ ⟨.tuple #[.int .i64 x, .int .i64 y], by simp [G.upd, dstL, e4], Below.refl _ _, fun _ _ h => h, ⟨x, y, rfl, hxy⟩, trivial⟩
    · have p5 : PL a S.length c a' D.length c' S D 5 (u 22) wx := (hdep _ rfl ⟨5, .data⟩ (by simp) rfl).2
      obtain ⟨x, y, e5, hxy⟩ := p5
      refine wpOp_step rfl (fun K hK => ?_)
      clear hdep
      go_simp
      exact hK _ _ ⟨.int .i64 x, by simp [G.upd, dstL, e5], Below.refl _ _, fun _ _ h => h, ⟨x, y, rfl, hxy⟩, trivial⟩
    · have p5 : PL a S.length c a' D.length c' S D 5 (u 22) wx := (hdep _ rfl ⟨5, .data⟩ (by simp) rfl).2
      obtain ⟨x, y, e5, hxy⟩ := p5
      refine wpOp_step rfl (fun K hK => ?_)
      clear hdep
      go_simp
      exact hK _ _ ⟨.int .i64 y, by simp [G.upd, dstL, e5], Below.refl _ _, fun _ _ h => h, ⟨x, y, rfl, hxy⟩, trivial⟩
    · have p6 : PL a S.length c a' D.length c' S D 6 (u 28) wx := (hdep _ rfl ⟨6, .data⟩ (by simp) rfl).2
      obtain ⟨x, y, e6, hxy⟩ := p6
      refine wpOp_step rfl (fun K hK => ?_)
      clear hdep
      go_simp
      exact hK _ _ ⟨.int .i64 x, by simp [G.upd, dstL, e6], Below.refl _ _, fun _ _ h => h, ⟨x, y, rfl, hxy⟩, trivial⟩
  case last =>
    intro L u w3 hLs hdone hbw _ hp
    have p6 : PL a S.length c a' D.length c' S D 8 (u 6) w3 := hp 8 (by omega)
    have p7 : PL a S.length c a' D.length c' S D 7 (u 29) w3 := hp 7 (by omega)
    obtain ⟨x, y9, e6, hxy⟩ := p6
    obtain ⟨x9, y, e7, hxy9⟩ := p7
    obtain ⟨rfl, rfl⟩ := hxy.one hxy9
    have HXY : Hid (VlR S D x y9) := hxy
    have W3 : Hid (Below W.heap.size W w3) := W2.out.trans (hbw.mono (by omega))
    have z3 := W3.out.size
    have q3 : Hid (Below w.heap.size w w3) := B0.out.trans (W3.out.mono (by omega))
    have y0 := fun o => row_cell ((W3.out.block w.heap.size (by omega)).trans A0.out) o
    have y1 := fun o => row_cell ((W3.out.block (w.heap.size + 1) (by omega)).trans A1.out) o
    clear hp hbw hxy hxy9
    refine wpOp_step rfl (fun K hK => ?_)
    go_simp
    refine hK _ _ ?_
    clear hK K
    go_wp2_with fail
    refine (G.to_top a c S _ (K0.out _ q3.out) HE.out).mono ?_
    rintro e w4 ⟨a4, d4, rfl, r4, hb4⟩
    have O4 : Hid (∀ W0, Below w4.heap.size w4 W0 → G.TdRow 0 W0.heap.size W0 a4 S) := fun W0 hB => G.TdRow.up (G.TdRow.wide r4 (Nat.zero_le _) (Nat.le_refl _)) hB
    have W4 : Hid (Below W.heap.size W w4) := W3.out.trans (hb4.mono (by omega))
    have z4 := W4.out.size
    have q4 : Hid (Below w.heap.size w w4) := B0.out.trans (W4.out.mono (by omega))
    have p4 := fun ob o => (((Below.refl w4.heap.size w4).alloc (Nat.le_refl _) ob).cell (p := ⟨w.heap.size + 1, o, none⟩) (show w.heap.size + 1 < w4.heap.size by omega)).trans (row_cell ((W4.out.block (w.heap.size + 1) (by omega)).trans A1.out) o)
    clear r4 hb4 y0 y1
    go_wp2_with fail
    obtain ⟨V, hV⟩ : ∃ V, V = w4.alloc (.cells #[.slice a4 S.length d4] 34) := ⟨_, rfl⟩
    rw [← hV]
    have zV : V.heap.size = w4.heap.size + 1 := by rw [hV]; simp
    have BV : Hid (Below w4.heap.size w4 V) := by rw [hV]; exact (Below.refl _ _).alloc (Nat.le_refl _) _
    have CV : Hid (V.heap[w4.heap.size]? = some (.cells #[.slice a4 S.length d4] 34 (0, 0))) := by rw [Hid, hV]; exact heap_alloc_new _ _
    have qV : Hid (Below w.heap.size w V) := q4.out.trans (BV.out.mono (by omega))
    clear hV p4
    refine (to_doc a' c' D _ (K1.out _ qV.out) HF.out).mono ?_
    rintro e w5 ⟨a5, d5, rfl, r5, hb5⟩
    have O5 : Hid (∀ W0, Below w5.heap.size w5 W0 → DeRow 0 W0.heap.size W0 a5 D) := fun W0 hB => DeRow.up (DeRow.wide r5 (Nat.zero_le _) (Nat.le_refl _)) hB
    have V5 : Hid (Below V.heap.size V w5) := hb5
    have z5 := hb5.size
    have q5 : Hid (Below w.heap.size w w5) := qV.out.trans (hb5.mono (by omega))
    have s5 := fun ob o => (((Below.refl w5.heap.size w5).alloc (Nat.le_refl _) ob).cell (p := ⟨w4.heap.size, o, none⟩) (show w4.heap.size < w5.heap.size by omega)).trans (row_cell ((V5.out.block w4.heap.size (by omega)).trans CV.out) o)
    clear r5 hb5
    go_wp2_with fail
    obtain ⟨U, hU⟩ : ∃ U, U = w5.alloc (.cells #[.slice a5 D.length d5] 38) := ⟨_, rfl⟩
    rw [← hU]
    have zU : U.heap.size = w5.heap.size + 1 := by rw [hU]; simp
    have BU : Hid (Below w5.heap.size w5 U) := by rw [hU]; exact (Below.refl _ _).alloc (Nat.le_refl _) _
    have CU : Hid (U.heap[w5.heap.size]? = some (.cells #[.slice a5 D.length d5] 38 (0, 0))) := by rw [Hid, hU]; exact heap_alloc_new _ _
    have B4U : Hid (Below w4.heap.size w4 U) := (BV.out.trans (V5.out.mono (by omega))).trans (BU.out.mono (by omega))
    have CV2 : Hid (U.heap[w4.heap.size]? = some (.cells #[.slice a4 S.length d4] 34 (0, 0))) := ((BU.out.block _ (by omega)).trans (V5.out.block _ (by omega))).trans CV.out
    have qU : Hid (Below w.heap.size w U) := q5.out.trans (BU.out.mono (by omega))
    have AU0 : Hid (U.heap[w.heap.size]? = some (.cells #[.slice a S.length c] 24 (0, 0))) := ((B4U.out.block _ (by omega)).trans (W4.out.block _ (by omega))).trans A0.out
    have AU1 : Hid (U.heap[w.heap.size + 1]? = some (.cells #[.slice a' D.length c'] 27 (0, 0))) := ((B4U.out.block _ (by omega)).trans (W4.out.block _ (by omega))).trans A1.out
    clear hU s5
    refine (impl_validate a4 d4 S a5 d5 D _ (O4.out _ B4U.out) HE.out (O5.out _ BU.out) HF.out).mono ?_
    rintro e w6 ⟨⟨x', y', rfl, hxy'⟩, hb6⟩
    obtain ⟨rfl, rfl⟩ := HXY.out.one hxy'
    have U6 : Hid (Below U.heap.size U w6) := hb6
    have z6 := hb6.size
    have q6 : Hid (Below w.heap.size w w6) := qU.out.trans (hb6.mono (by omega))
    have x8 := fun o => row_cell ((U6.out.block w4.heap.size (by omega)).trans CV2.out) o
    have c8 := fun o => row_cell ((U6.out.block w.heap.size (by omega)).trans AU0.out) o
    have B46 : Hid (Below w4.heap.size w4 w6) := B4U.out.trans (hb6.mono (by omega))
    have B56 : Hid (Below w5.heap.size w5 w6) := BU.out.trans (hb6.mono (by omega))
    clear hb6 hxy'
    go_wp2_with fail
    go_cut [52] from 48 to 52 (fun v wx => v = .bool false ∧ Hid (Below w6.heap.size w6 wx))
    case first =>
      go_region_with (first
        | (go_at_call 7
           refine Calls.mono (G.to_top a c S _ (K0.out _ (q6.out.drew)) HE.out) ?_
           rintro e w9 ⟨a9, d9, rfl, r9, hb9⟩
           have x9 := fun o => (hb9.cell (p := ⟨w4.heap.size, o, none⟩) (show w4.heap.size < w6.heap.size by omega)).trans (x8 o)
           have R9 : Hid (G.TdRow 0 w9.heap.size w9 a9 S) := G.TdRow.wide r9 (Nat.zero_le _) (Nat.le_refl _)
           have p9 : Hid (Below w6.heap.size w6 w9) := (Below.refl _ _).drew.trans (hb9.mono (Nat.le_refl _))
           clear r9 hb9)
        | (go_at_call 10
           refine (G.eq_top a4 _ d4 _ S _ (O4.out _ (B46.out.trans (p9.out.mono (by omega)))) R9.out HE.out).mono ?_
           rintro e wa ⟨rfl, hba⟩
           have pa : Hid (Below w6.heap.size w6 wa) := p9.out.trans (hba.mono p9.out.size)))
      all_goals (try go_wp2_with fail)
      all_goals go_meet
      all_goals exact ⟨rfl, pa⟩
    obtain ⟨rfl, HWC⟩ := hcut
    have zc := HWC.out.size
    have qc : Hid (Below w.heap.size w wc) := q6.out.trans (HWC.out.mono (by have := q6.out.size; omega))
    have x9 := fun o => row_cell ((HWC.out.block w5.heap.size (by omega)).trans ((U6.out.block w5.heap.size (by omega)).trans CU.out)) o
    have c9 := fun o => row_cell ((HWC.out.block (w.heap.size + 1) (by omega)).trans ((U6.out.block (w.heap.size + 1) (by omega)).trans AU1.out)) o
    have B5C : Hid (Below w5.heap.size w5 wc) := B56.out.trans (HWC.out.mono (by omega))
    clear x8 c8
    go_wp2_with fail
    go_region_with (first
      | (go_at_call 8
         refine Calls.mono (to_doc a' c' D _ (K1.out _ (qc.out.drew)) HF.out) ?_
         rintro e wd ⟨ad, dd, rfl, rd, hbd⟩
         have xd := fun o => (hbd.cell (p := ⟨w5.heap.size, o, none⟩) (show w5.heap.size < wc.heap.size by omega)).trans (x9 o)
         have Rd : Hid (DeRow 0 wd.heap.size wd ad D) := DeRow.wide rd (Nat.zero_le _) (Nat.le_refl _)
         have Pd : Hid (Below wc.heap.size wc wd) := (Below.refl _ _).drew.trans (hbd.mono (Nat.le_refl _))
         clear rd hbd)
      | (go_at_call 11
         refine (eq_doc a5 _ d5 _ D _ (O5.out _ (B5C.out.trans (Pd.out.mono (by omega)))) Rd.out HF.out).mono ?_
         rintro e we ⟨rfl, hbe⟩
         have qe : Hid (Below w.heap.size w we) := (qc.out.trans (Pd.out.mono (by have := qc.out.size; omega))).trans (hbe.mono (by have := Pd.out.size; have := qc.out.size; omega))))
    all_goals
      go_wp2_with fail
      go_ret
      exact ⟨rfl, qe.out⟩

set_option maxRecDepth 100000 in
theorem lifted (os : Os) (started : os.Started) (H : Type) (enc : TypeId × Value → H) :
    ReturnsInHanded {} Tryz.checked os 3 .any (Rows.fnExactValidateSpec.pre6 enc Tryz.prog Tryz.f3 Rows.fnExactValidateRow.domain false) (Rows.fnExactValidateSpec.post enc Tryz.prog Tryz.f3 false true false false) := by
  refine returnsInHanded_of_change (C := Tryz.checked) own started (by kernel_rfl) Tryz.func3
    (ChangeSpec.witness6 (enc := enc) (C := Tryz.checked) false ⟨#[], #[.agg #[.slice none 0 0], .agg #[.slice none 0 0]], []⟩ 8 (by kernel_rfl) (by kernel_rfl) (by kernel_rfl) (by kernel_rfl)) ?_
  intro W base args ds gs before hval0 hW hcnd _
  have hval : ∀ (j : Nat) t v, Tryz.f3.params[j]? = some t → args[j]? = some v → Value.okWide Tryz.prog W .any base t v := hval0
  have hW' := hW
  obtain ⟨p, q, hA0, hV, rfl, hfz, hnd⟩ := hW
  have hA : DataW.TrodAll enc Tryz.prog W 0 (fun _ => true) true Tryz.f3.params.toList args.toList ds p := hA0
  rw [Tryz.params3] at hA hval
  obtain ⟨v0, vs0, d0, ds0, p0, q0, hargs, rfl, rfl, h0, r0⟩ := trodAll_cons hA
  obtain ⟨v1, vs1, d1, ds1, p1, q1, rfl, rfl, rfl, h1, r1⟩ := trodAll_cons r0
  obtain ⟨rfl, rfl, rfl⟩ := trodAll_nil r1
  obtain rfl : args = #[v0, v1] := by cases args; simp_all
  obtain ⟨rfl, rfl⟩ := trodVars_none hV
  have g0 := h0
  have lt0 : ∀ x ∈ p0, x.block < W.heap.size := by obtain ⟨m, hm⟩ := g0; exact DataW.trod_lt m _ _ _ hm
  obtain ⟨a0, c0, l0, rfl, hb0, hr0⟩ : ∃ a c, ∃ l : List G.Td, v0 = .agg #[.slice a l.length c] ∧ G.TdsBd maxLen l ∧ G.TdRow 0 W.heap.size W a l := by
    obtain ⟨cs, rfl, hsz⟩ := okWide_struct Tryz.underlying24 (hval 0 24 v0 rfl rfl)
    obtain ⟨fuel, hf⟩ := h0
    obtain ⟨y0, n, hx, hlen, h1⟩ := trod_struct1 Tryz.underlying24 hf
    have cd : Tryz.prog.cellsOf 24 = 1 := by kernel_rfl
    have c1 : Tryz.prog.cellsOf 22 = 1 := by kernel_rfl
    obtain ⟨u⟩ := cs
    have hu : u.length = 1 := by rw [cd] at hsz; simpa using hsz
    obtain ⟨q, rfl⟩ : ∃ q, u = [q] := List.length_eq_one_iff.1 hu
    obtain ⟨a, c, l, e, hb, hr⟩ := G.Tds_open (by simpa [Value.cells, c1] using h1)
    simp only [List.cons.injEq, and_true] at e
    subst e
    exact ⟨a, c, l, rfl, hb, hr⟩
  have g1 := h1
  have lt1 : ∀ x ∈ p1, x.block < W.heap.size := by obtain ⟨m, hm⟩ := g1; exact DataW.trod_lt m _ _ _ hm
  obtain ⟨a1, c1, l1, rfl, hb1, hr1⟩ : ∃ a c, ∃ l : List De, v1 = .agg #[.slice a l.length c] ∧ DefsBd maxLen l ∧ DeRow 0 W.heap.size W a l := by
    obtain ⟨cs, rfl, hsz⟩ := okWide_struct Tryz.underlying27 (hval 1 27 v1 rfl rfl)
    obtain ⟨fuel, hf⟩ := h1
    obtain ⟨y0, n, hx, hlen, h1⟩ := trod_struct1 Tryz.underlying27 hf
    have cd : Tryz.prog.cellsOf 27 = 1 := by kernel_rfl
    have c1 : Tryz.prog.cellsOf 25 = 1 := by kernel_rfl
    obtain ⟨u⟩ := cs
    have hu : u.length = 1 := by rw [cd] at hsz; simpa using hsz
    obtain ⟨q, rfl⟩ : ∃ q, u = [q] := List.length_eq_one_iff.1 hu
    obtain ⟨a, c, l, e, hb, hr⟩ := defs_open (by simpa [Value.cells, c1] using h1)
    simp only [List.cons.injEq, and_true] at e
    subst e
    exact ⟨a, c, l, rfl, hb, hr⟩
  clear hA0 hval0
  refine (walk a0 c0 l0 a1 c1 l1 W hr0 hb0 hr1 hb1).mono fun e W' ⟨he, bel⟩ => ?_
  subst he
  exact ⟨_, rfl, _, _, _, [], _, [], hW', trodAll_mk1 (shut_bool Tryz.underlying4 _), (trodAll_cons_mk (Below.trod laidOut (by kernel_rfl) (of_decide_eq_true (by kernel_rfl)) g0 bel lt0) (trodAll_cons_mk (Below.trod laidOut (by kernel_rfl) (of_decide_eq_true (by kernel_rfl)) g1 bel lt1) trodAll_mk0)), rfl, bel.frame _, fun h => by cases h⟩

theorem over : Rows.fnExactValidateRow.holds Tryz.pinned (OpenSpec.ofChange Rows.fnExactValidateSpec) :=
  OpenClaim.holds_of_wide 3 Tryz.f3 rfl rfl rfl rfl rfl rfl rfl ⟨rfl, rfl, rfl, rfl, rfl⟩ rfl rfl rfl rfl rfl (by kernel_rfl) Tryz.func3 (by kernel_rfl)
    (of_decide_eq_true (by kernel_rfl)) (by unfold Func.isWrapper; first | (rw [if_pos (by decide +kernel)]; kernel_rfl) | (rw [if_neg (by decide +kernel)]; exact ⟨rfl, rfl⟩))
    (fun os started H enc _ => lifted os started H enc)
end Go.Proofs.YthbjihbpjajggaaGreat.fnExactValidate
namespace Go.Proofs.YthbjihbpjajggaaGreat
theorem validate_holds : Rows.FnExactValidateSaid := fnExactValidate.over
#print axioms validate_holds
end Go.Proofs.YthbjihbpjajggaaGreat
