/- AnswerOf, the specification's side. -/
import Derived.Test.YtnkaoeijcdchiaaGreatDoorDtSpec
import Derived.Test.YtnkaoeijcdchiaaGreatDoorGRegion
import Derived.Test.YtnkaoeijcdchiaaGreatDoorRunWr
namespace Go.Proofs.YtnkaoeijcdchiaaGreatDoor.G
open Go.ChangeShapes Go.WideShapes Go.ChangeAt Go.RowKit
set_option linter.unusedVariables false

theorem spec_bit (b : Bool) (w : World) : Calls Tryz.prog 83 #[.bool b] w fun e w' => e = .returned (.int .i64 (if b then 1 else 0)) ∧ w' = w := by
  cases b
  · go_enter Tryz.func83, Tryz.ntmps83
    go_wp2_with fail
    go_ret
    exact ⟨rfl, rfl⟩
  · go_enter Tryz.func83, Tryz.ntmps83
    go_wp2_with fail
    go_ret
    exact ⟨rfl, rfl⟩
set_option maxHeartbeats 8000000 in
set_option maxRecDepth 40000 in
theorem spec_data (h : Oh) (sub : Ous) (a1 a2 a : Option Addr) (c1 c2 c : Nat) (ps : List ByteArray) (w : World) (r1 : KeRow 0 w.heap.size w a1 h.keys) (r2 : OuRow 0 w.heap.size w a2 sub) (ho : outB 20 h sub = true) (hp : KeRow 0 w.heap.size w a ps) (hl : ps.length ≤ 1048576) (hz : sumW ps ≤ 2097152) :
    Calls Tryz.prog 54 #[.agg #[.int .i64 h.k, .int .i64 h.n, .string h.t, .slice a1 h.keys.length c1, .slice a2 sub.len c2], .slice a ps.length c] w fun e w' => e = .returned (.string (dataT (outT h sub) ps)) ∧ Below w.heap.size w w' := by
  obtain ⟨V, hV⟩ : ∃ V, V = w.alloc (.cells #[.int .i64 h.k, .int .i64 h.n, .string h.t, .slice a1 h.keys.length c1, .slice a2 sub.len c2] 44) := ⟨_, rfl⟩
  have B0 : Below w.heap.size w V := by rw [hV]; exact (Below.refl _ _).alloc (Nat.le_refl _) _
  have c0 : V.heap[w.heap.size]? = some (.cells #[.int .i64 h.k, .int .i64 h.n, .string h.t, .slice a1 h.keys.length c1, .slice a2 sub.len c2] 44 (0, 0)) := by rw [hV]; exact heap_alloc_new _ _
  have x0 := fun o => row_cell c0 o
  have R1 : Hid _ := KeRow.up r1 B0
  have R2 : Hid _ := OuRow.up r2 B0
  have HZ : Hid ((outT h sub).size ≤ 480042) := outT_size ho
  have HO : Hid _ := ho
  have BV : Hid _ := B0
  have HP : Hid (∀ W, Below w.heap.size w W → KeRow 0 W.heap.size W a ps) := fun W hW => KeRow.up hp hW
  have HSZ : Hid (∀ k, k ≤ ps.length → (dtTo (outT h sub) ps k).size ≤ 20000000) := fun k hk => by
    have h1 := dtTo_size (outT h sub) ps k hk
    have h2 : sumW ps = sumW (ps.take k) + sumW (ps.drop k) := by rw [← sumW_app, List.take_append_drop]
    have := HZ.out
    omega
  clear r1 r2 B0 c0 ho hp
  go_enter Tryz.func54, Tryz.ntmps54
  go_upto_region 1 with fail
  rw [← hV]
  clear hV
  go_wp2_with fail
  refine (spec_text 20 (by omega) h sub a1 a2 c1 c2 _ R1.out R2.out HO.out).mono ?_
  rintro e w1 ⟨rfl, b1⟩
  have HB1 : Hid (Below w.heap.size w w1) := BV.out.trans (b1.mono BV.out.size)
  clear b1 x0 BV R1 R2
  have hsz := HZ.out
  obtain ⟨t, ht⟩ : ∃ t, t = outT h sub := ⟨_, rfl⟩
  have HT : Hid (outT h sub = t) := ht.symm
  rw [← ht] at HSZ hsz HZ ⊢
  clear ht
  have n1 : ¬ (9223372036854775807 < (⟨#[123, 34, 100, 97, 116, 97, 34, 58]⟩ : ByteArray).size + t.size) := by have : (⟨#[123, 34, 100, 97, 116, 97, 34, 58]⟩ : ByteArray).size = 8 := rfl; omega
  go_wp2_with fail
  go_loopw [5, 6] (fun s i w' => ∃ k : Nat, k ≤ ps.length ∧ i = .int .i64 k ∧ s = .string (dtTo t ps k) ∧ Hid (Below w.heap.size w w')) (fun _ i _ => ps.length - (intOf i).toNat)
  case atStart => exact ⟨0, by omega, rfl, rfl, HB1⟩
  case round =>
    obtain ⟨wo, rfl⟩ : ∃ x, x = wr := ⟨_, rfl⟩
    obtain ⟨k, hk, rfl, rfl, HB⟩ := hrel
    have hdz := HSZ.out k hk
    by_cases hlt : k < ps.length
    · obtain ⟨b, o, ha, _, hbl, ck⟩ := KeRow.cells (HP.out _ HB.out) k hlt
      have hdz2 := HSZ.out (k + 1) (by omega)
      have hg : ps.getD k ⟨#[]⟩ = ps[k] := by rw [List.getD_eq_getElem?_getD, List.getElem?_eq_getElem hlt]; rfl
      rw [dtTo, hg] at hdz2
      have HE : Hid (dtTo t ps (k + 1) = dtTo t ps k ++ (sepT k ++ ⟨#[34]⟩ ++ ps[k] ++ ⟨#[34]⟩)) := by rw [Hid, dtTo, hg]
      subst ha
      clear hg
      obtain ⟨A, hA⟩ : ∃ A, A = dtTo t ps k := ⟨_, rfl⟩
      obtain ⟨z, hzz⟩ : ∃ z, z = ps[k] := ⟨_, rfl⟩
      obtain ⟨S, hS⟩ : ∃ S, S = sepT k := ⟨_, rfl⟩
      rw [← hA] at HE hdz2 hdz ⊢
      rw [← hzz] at HE hdz2 ck
      rw [← hS] at HE hdz2
      go_upto_region 5 with fail
      obtain ⟨B, hB⟩ : ∃ B : Bool, B = decide (0 < k) := ⟨_, rfl⟩
      obtain ⟨bi, hbi⟩ : ∃ bi : Nat, bi = if 0 < k then 1 else 0 := ⟨_, rfl⟩
      have HBI : Hid ((if B = true then (1 : Int) else 0) = (bi : Int)) := by
        rw [Hid, hB, hbi]
        by_cases h0 : 0 < k
        · rw [if_pos h0, if_pos (by simp; omega)]; rfl
        · rw [if_neg h0, if_neg (by simp; omega)]; rfl
      have HSEL : Hid ((#[.string ⟨#[44, 34, 101, 114, 114, 111, 114, 115, 34, 58, 91]⟩, .string ⟨#[44]⟩] : Array Value)[bi]? = some (.string S)) := by
        rw [Hid, hbi, hS]
        unfold sepT
        split <;> rfl
      have hb2 : (bi : Int) < 2 := by rw [hbi]; split <;> decide
      have hb0 : 0 ≤ (bi : Int) := by omega
      have m1 : (⟨#[34]⟩ : ByteArray).size = 1 := rfl
      have hz1 : A.size + (S.size + 1 + z.size + 1) ≤ 20000000 := by
        rw [ByteArray.size_append, ByteArray.size_append, ByteArray.size_append, ByteArray.size_append, m1] at hdz2
        exact hdz2
      have KS : Hid (∀ W, Below wo.heap.size wo W → W.cell? ⟨b, o + k, none⟩ = some (.string z)) := fun W hW => (hW.cell (p := ⟨b, o + k, none⟩) hbl).trans ck
      have HHB : Hid (B = decide (0 < k)) := hB
      clear hA hzz hS hB hbi ck hdz2
      refine region_rel (n := 15) (by kernel_rfl) (by kernel_rfl) (by kernel_rfl) (fun u' => ⟨#[.agg #[.int .i64 h.k, .int .i64 h.n, .string h.t, .slice a1 h.keys.length c1, .slice a2 sub.len c2], .slice (some ⟨b, o, none⟩) ps.length c, .pointer (some ⟨w.heap.size, 0, none⟩), undef, .string ⟨#[]⟩, .string A, .int .i64 (k : Int), .agg #[.int .i64 h.k, .int .i64 h.n, .string h.t, .slice a1 h.keys.length c1, .slice a2 sub.len c2], .string t, .string (⟨#[123, 34, 100, 97, 116, 97, 34, 58]⟩ ++ t), .int .i64 (k : Int), .slice (some ⟨b, o, none⟩) ps.length c, .int .i64 (ps.length : Int), .bool true, u14, u15, u' 16, u' 17, u' 18, u' 19, u' 20, u' 21, u' 22, u' 23, u' 24, u' 25, u' 26, u' 27, u' 28, u' 29, u' 30, undef, undef, undef, undef, undef, undef, undef], []⟩) (fun i => match i with | 16 => u16 | 17 => u17 | 18 => u18 | 19 => u19 | 20 => u20 | 21 => u21 | 22 => u22 | 23 => u23 | 24 => u24 | 25 => u25 | 26 => u26 | 27 => u27 | 28 => u28 | 29 => u29 | 30 => u30 | _ => undef) (fun i => i + 16) (fun i j _ _ h => by omega) (fun i v w2 => match i with | 0 => v = .string A | 1 => ∃ N, v = .slice (some ⟨N, 0, none⟩) 2 2 ∧ w2.heap[N]? = some (.cells #[.string ⟨#[44, 34, 101, 114, 114, 111, 114, 115, 34, 58, 91]⟩, .string ⟨#[44]⟩] 9 (0, 0)) | 2 => v = .int .i64 (k : Int) | 3 => v = .bool B | 4 => v = .int .i64 (bi : Int) | 5 => ∃ N, v = .pointer (some ⟨N, bi, none⟩) ∧ w2.heap[N]? = some (.cells #[.string ⟨#[44, 34, 101, 114, 114, 111, 114, 115, 34, 58, 91]⟩, .string ⟨#[44]⟩] 9 (0, 0)) | 6 => v = .string S | 7 => v = .string (S ++ ⟨#[34]⟩) | 8 => v = .slice (some ⟨b, o, none⟩) ps.length c | 9 => v = .int .i64 (k : Int) | 10 => v = .pointer (some ⟨b, o + k, none⟩) | 11 => v = .string z | 12 => v = .string (S ++ ⟨#[34]⟩ ++ z) | 13 => v = .string (S ++ ⟨#[34]⟩ ++ z ++ ⟨#[34]⟩) | 14 => v = .string (A ++ (S ++ ⟨#[34]⟩ ++ z ++ ⟨#[34]⟩)) | _ => True) (fun _ _ => True) ?up trivial ?step ?last
      case up =>
        intro i v w2 w3 hv hbb
        split at hv
        all_goals first
          | exact hv
          | (obtain ⟨N, h1, h2⟩ := hv
             exact ⟨N, h1, (hbb.block _ (Array.getElem?_eq_some_iff.1 h2).1).trans h2⟩)
      case step =>
        intro u' w2 i hi hbw _ hdep
        have s1 := KS.out _ hbw
        have hcase : i = 0 ∨ i = 1 ∨ i = 2 ∨ i = 3 ∨ i = 4 ∨ i = 5 ∨ i = 6 ∨ i = 7 ∨ i = 8 ∨ i = 9 ∨ i = 10 ∨ i = 11 ∨ i = 12 ∨ i = 13 ∨ i = 14 := by omega
        clear hi hbw
        rcases hcase with rfl | rfl | rfl | rfl | rfl | rfl | rfl | rfl | rfl | rfl | rfl | rfl | rfl | rfl | rfl
        · refine wpOp_step rfl (fun K hK => ?_)
          clear hdep
          go_simp
          exact hK _ _ ⟨_, rfl, Below.refl _ _, rfl, trivial⟩
        · refine wpOp_step rfl (fun K hK => ?_)
          clear hdep
          go_simp
          exact hK _ _ ⟨_, rfl, (Below.refl _ _).alloc (Nat.le_refl _) _, ⟨_, rfl, heap_alloc_new _ _⟩, trivial⟩
        · refine wpOp_step rfl (fun K hK => ?_)
          clear hdep
          go_simp
          exact hK _ _ ⟨_, rfl, Below.refl _ _, rfl, trivial⟩
        · have d2 : u' 18 = .int .i64 (k : Int) := hdep _ rfl ⟨2, .data⟩ (by simp) rfl
          refine wpOp_step rfl (fun K hK => ?_)
          clear hdep
          go_simp
          rw [← HHB.out]
          exact hK _ _ ⟨_, by simp [upd, d2], Below.refl _ _, rfl, trivial⟩
        · have d3 : u' 19 = .bool B := hdep _ rfl ⟨3, .data⟩ (by simp) rfl
          refine wpOp_step rfl (fun K hK => ?_)
          clear hdep
          go_simp
          refine (spec_bit B w2).mono ?_
          rintro e w8 ⟨rfl, hw8⟩
          rw [hw8, HBI.out]
          exact hK _ _ ⟨_, by simp [upd, d3], Below.refl _ _, rfl, trivial⟩
        · obtain ⟨N, d1, hN⟩ := (hdep _ rfl ⟨1, .data⟩ (by simp) rfl : ∃ N, u' 17 = .slice (some ⟨N, 0, none⟩) 2 2 ∧ w2.heap[N]? = some (.cells #[.string ⟨#[44, 34, 101, 114, 114, 111, 114, 115, 34, 58, 91]⟩, .string ⟨#[44]⟩] 9 (0, 0)))
          have d4 : u' 20 = .int .i64 (bi : Int) := hdep _ rfl ⟨4, .data⟩ (by simp) rfl
          refine wpOp_step rfl (fun K hK => ?_)
          clear hdep
          go_simp
          exact hK _ _ ⟨_, by simp [upd, d1, d4], Below.refl _ _, ⟨N, rfl, hN⟩, trivial⟩
        · obtain ⟨N, d5, hN⟩ := (hdep _ rfl ⟨5, .data⟩ (by simp) rfl : ∃ N, u' 21 = .pointer (some ⟨N, bi, none⟩) ∧ w2.heap[N]? = some (.cells #[.string ⟨#[44, 34, 101, 114, 114, 111, 114, 115, 34, 58, 91]⟩, .string ⟨#[44]⟩] 9 (0, 0)))
          have sN : w2.cell? ⟨N, bi, none⟩ = some (.string S) := (row_cell hN bi).trans HSEL.out
          refine wpOp_step rfl (fun K hK => ?_)
          clear hdep
          go_simp
          exact hK _ _ ⟨_, by simp [upd, d5], Below.refl _ _, rfl, trivial⟩
        · have d6 : u' 22 = .string S := hdep _ rfl ⟨6, .data⟩ (by simp) rfl
          have n1 : ¬ (9223372036854775807 < S.size + (⟨#[34]⟩ : ByteArray).size) := by omega
          have n2 : ¬ (9223372036854775807 < S.size + 1) := by omega
          refine wpOp_step rfl (fun K hK => ?_)
          clear hdep
          clear m1
          go_simp
          exact hK _ _ ⟨_, by simp [upd, d6], Below.refl _ _, rfl, trivial⟩
        · refine wpOp_step rfl (fun K hK => ?_)
          clear hdep
          go_simp
          exact hK _ _ ⟨_, rfl, Below.refl _ _, rfl, trivial⟩
        · refine wpOp_step rfl (fun K hK => ?_)
          clear hdep
          go_simp
          exact hK _ _ ⟨_, rfl, Below.refl _ _, rfl, trivial⟩
        · have d8 : u' 24 = .slice (some ⟨b, o, none⟩) ps.length c := hdep _ rfl ⟨8, .data⟩ (by simp) rfl
          have d9 : u' 25 = .int .i64 (k : Int) := hdep _ rfl ⟨9, .data⟩ (by simp) rfl
          refine wpOp_step rfl (fun K hK => ?_)
          clear hdep
          go_simp
          exact hK _ _ ⟨_, by simp [upd, d8, d9], Below.refl _ _, rfl, trivial⟩
        · have d10 : u' 26 = .pointer (some ⟨b, o + k, none⟩) := hdep _ rfl ⟨10, .data⟩ (by simp) rfl
          refine wpOp_step rfl (fun K hK => ?_)
          clear hdep
          go_simp
          exact hK _ _ ⟨_, by simp [upd, d10], Below.refl _ _, rfl, trivial⟩
        · have d7 : u' 23 = .string (S ++ ⟨#[34]⟩) := hdep _ rfl ⟨7, .data⟩ (by simp) rfl
          have d11 : u' 27 = .string z := hdep _ rfl ⟨11, .data⟩ (by simp) rfl
          have n1 : ¬ (9223372036854775807 < (S ++ ⟨#[34]⟩).size + z.size) := by rw [ByteArray.size_append]; omega
          have n3 : ¬ (9223372036854775807 < S.size + 1 + z.size) := by omega
          refine wpOp_step rfl (fun K hK => ?_)
          clear hdep
          clear m1
          go_simp
          exact hK _ _ ⟨_, by simp [upd, d7, d11], Below.refl _ _, rfl, trivial⟩
        · have d12 : u' 28 = .string (S ++ ⟨#[34]⟩ ++ z) := hdep _ rfl ⟨12, .data⟩ (by simp) rfl
          have n2 : ¬ (9223372036854775807 < (S ++ ⟨#[34]⟩ ++ z).size + 1) := by rw [ByteArray.size_append, ByteArray.size_append]; omega
          have n1 : ¬ (9223372036854775807 < (S ++ ⟨#[34]⟩ ++ z).size + (⟨#[34]⟩ : ByteArray).size) := by rw [ByteArray.size_append, ByteArray.size_append]; omega
          have n3 : ¬ (9223372036854775807 < S.size + 1 + z.size + 1) := by omega
          refine wpOp_step rfl (fun K hK => ?_)
          clear hdep
          clear m1
          go_simp
          exact hK _ _ ⟨_, by simp [upd, d12], Below.refl _ _, rfl, trivial⟩
        · have d0 : u' 16 = .string A := hdep _ rfl ⟨0, .data⟩ (by simp) rfl
          have d13 : u' 29 = .string (S ++ ⟨#[34]⟩ ++ z ++ ⟨#[34]⟩) := hdep _ rfl ⟨13, .data⟩ (by simp) rfl
          have n1 : ¬ (9223372036854775807 < A.size + (S ++ ⟨#[34]⟩ ++ z ++ ⟨#[34]⟩).size) := by rw [ByteArray.size_append, ByteArray.size_append, ByteArray.size_append]; omega
          have n3 : ¬ (9223372036854775807 < A.size + (S.size + 1 + z.size + 1)) := by omega
          refine wpOp_step rfl (fun K hK => ?_)
          clear hdep
          clear m1
          go_simp
          exact hK _ _ ⟨_, by simp [upd, d0, d13], Below.refl _ _, rfl, trivial⟩
      case last =>
        intro u' w2 hbw _ hp2
        have d14 : u' 30 = .string (A ++ (S ++ ⟨#[34]⟩ ++ z ++ ⟨#[34]⟩)) := hp2 14 (by omega)
        have HBV : Hid (Below w.heap.size w w2) := HB.out.trans (hbw.mono HB.out.size)
        clear hp2 hbw
        refine wpOp_step rfl (fun K hK => ?_)
        go_simp
        refine hK _ _ ?_
        clear hK K
        go_wp2_with fail
        exact ⟨⟨k + 1, by omega, by first | rfl | go_num, by rw [HE.out], HBV⟩, by simp [intOf]; omega⟩
    · obtain rfl : k = ps.length := by omega
      have h1 : (⟨#[93]⟩ : ByteArray).size = 1 := rfl
      by_cases h0 : 0 < ps.length
      · have HF : Hid (dataT t ps = dtTo t ps ps.length ++ ⟨#[93]⟩ ++ ⟨#[125]⟩) := by unfold Hid dataT; rw [if_pos h0]
        have h0' : (0 : Int) < ps.length := by omega
        have n2 : ¬ (9223372036854775807 < (dtTo t ps ps.length).size + (⟨#[93]⟩ : ByteArray).size) := by omega
        have n3 : ¬ (9223372036854775807 < (dtTo t ps ps.length ++ ⟨#[93]⟩).size + (⟨#[125]⟩ : ByteArray).size) := by rw [ByteArray.size_append]; have : (⟨#[125]⟩ : ByteArray).size = 1 := rfl; omega
        clear h1
        go_wp2_with fail
        go_ret
        exact ⟨by rw [HT.out, HF.out]; rfl, HB.out⟩
      · have HF : Hid (dataT t ps = dtTo t ps ps.length ++ ⟨#[125]⟩) := by unfold Hid dataT; rw [if_neg h0, show ps.length = 0 by omega]
        have h0' : ¬ (0 : Int) < ps.length := by omega
        have n3 : ¬ (9223372036854775807 < (dtTo t ps ps.length).size + (⟨#[125]⟩ : ByteArray).size) := by have : (⟨#[125]⟩ : ByteArray).size = 1 := rfl; omega
        clear h1 h0
        go_wp2_with fail
        go_ret
        exact ⟨by rw [HT.out, HF.out]; rfl, HB.out⟩
end Go.Proofs.YtnkaoeijcdchiaaGreatDoor.G
namespace Go.Proofs.YtnkaoeijcdchiaaGreatDoor.G
open Go.ChangeShapes Go.WideShapes Go.ChangeAt Go.RowKit
set_option linter.unusedVariables false

/-- The document's one operation is a mutation. -/
def mutB (l : List De) : Bool := (opL l).k == 2
def ohZ : Oh := ⟨0, 0, ⟨#[]⟩, []⟩
/-- The text of a run's answer. -/
def ansT (l : List De) (r : Rn) : ByteArray := if (mutB l && decide (0 < r.es.length)) = true then dataT (outT ohZ .nil) r.es else dataT (outT r.h r.sub) r.es
def ansE (l : List De) (r : Rn) : Ending := if runC l r = 0 then .returned (.tuple #[.string (ansT l r), .int .i64 0]) else .returned (.tuple #[.string ⟨#[]⟩, .int .i64 (runC l r)])
theorem ohZ_ok : outB 20 ohZ .nil = true := by decide +kernel
theorem OpQ.one {l : List De} {x : De} {y : Int} (h : OpQ l x y) (h0 : opCode l = 0) : x = opL l := by
  have hy := h.code
  rw [h0] at hy
  rcases h with ⟨_, _, rfl⟩ | ⟨_, ⟨_, _, rfl⟩ | ⟨_, _, rfl⟩ | ⟨_, h2, _⟩⟩
  · cases hy
  · cases hy
  · cases hy
  · exact h2
set_option maxHeartbeats 2000000 in
theorem spec_mutates (a : Option Addr) (c : Nat) (l : List De) (w : World) (hd : DeRow 0 w.heap.size w a l) (hdb : DefsBd 1048576 l) (h0 : opCode l = 0) :
    Calls Tryz.prog 53 #[.agg #[.slice a l.length c]] w fun e w' => e = .returned (.bool (mutB l)) ∧ Below w.heap.size w w' := by
  obtain ⟨V, hV⟩ : ∃ V, V = w.alloc (.cells #[.slice a l.length c] 39) := ⟨_, rfl⟩
  have bV : Below w.heap.size w V := by rw [hV]; exact (Below.refl _ _).alloc (Nat.le_refl _) _
  have c0 : V.heap[w.heap.size]? = some (.cells #[.slice a l.length c] 39 (0, 0)) := by rw [hV]; exact heap_alloc_new _ _
  have HD : Hid _ := hd.up bV
  have HDB : Hid _ := hdb
  have HOP : Hid _ := h0
  have BV : Hid _ := bV
  have x0 := fun o => row_cell c0 o
  clear hd hdb bV c0 h0
  go_enter Tryz.func53, Tryz.ntmps53
  go_upto_region 1 with fail
  rw [← hV]
  clear hV
  go_wp2_with fail
  refine (spec_op_any a c l _ HD.out HDB.out).mono ?_
  rintro e w1 ⟨⟨dx, y, a3, c3, rfl, hop, _⟩, bq⟩
  have hx := OpQ.one hop HOP.out
  have HK : Hid (dx.k = (opL l).k) := by rw [hx]; rfl
  have B1 : Hid (Below w.heap.size w w1) := BV.out.trans (bq.mono BV.out.size)
  have B2 : Hid (Below w.heap.size w (w1.alloc (.cells #[.int .i64 dx.k, .string dx.nm, .string dx.on, .slice a3 dx.sels.len c3] 89))) := B1.out.alloc B1.out.size _
  clear bq x0 hop hx
  unfold deV
  cases hB : (dx.k == 2) with
  | true =>
    have HM : Hid (mutB l = true) := by unfold Hid mutB; rw [← HK.out]; exact hB
    go_wp2_with fail
    go_ret
    exact ⟨by rw [HM.out]; rfl, B2.out⟩
  | false =>
    have HM : Hid (mutB l = false) := by unfold Hid mutB; rw [← HK.out]; exact hB
    go_wp2_with fail
    go_ret
    exact ⟨by rw [HM.out]; rfl, B2.out⟩
set_option maxHeartbeats 4000000 in
theorem spec_ans (a : Option Addr) (c : Nat) (l : List De) (r : Rn) (p : RnA) (w : World) (hd : DeRow 0 w.heap.size w a l) (hdb : DefsBd 1048576 l) (hr : RunRow 0 w.heap.size w p r) (hrb : RnSm r) (hg : runGood l r = true) :
    Calls Tryz.prog 26 #[.agg #[.slice a l.length c], .agg #[.int .i64 r.need, .slice p.ra r.rs.length p.rc, .slice p.wa r.ws.length p.wc, .int .i64 r.h.k, .int .i64 r.h.n, .string r.h.t, .slice p.a1 r.h.keys.length p.c1, .slice p.a2 r.sub.len p.c2, .slice p.ea r.es.length p.ec]] w fun e w' => e = .returned (.string (ansT l r)) ∧ Below w.heap.size w w' := by
  have hg' := hg
  unfold runGood at hg'
  simp only [Bool.and_eq_true, beq_iff_eq] at hg'
  have HOP : Hid (opCode l = 0) := hg'.1.1.1.2
  have HOK : Hid (outB 20 r.h r.sub = true) := hg'.1.1.2
  clear hg hg'
  obtain ⟨V, hV⟩ : ∃ V, V = (w.alloc (.cells #[.slice a l.length c] 39)).alloc (.cells #[.int .i64 r.need, .slice p.ra r.rs.length p.rc, .slice p.wa r.ws.length p.wc, .int .i64 r.h.k, .int .i64 r.h.n, .string r.h.t, .slice p.a1 r.h.keys.length p.c1, .slice p.a2 r.sub.len p.c2, .slice p.ea r.es.length p.ec] 46) := ⟨_, rfl⟩
  have bV : Below w.heap.size w V := by
    rw [hV]
    repeat (first | exact Below.refl _ _ | refine Below.alloc ?_ (by first | omega | (simp <;> omega)) _)
  have c0 : V.heap[w.heap.size]? = some (.cells #[.slice a l.length c] 39 (0, 0)) := by
    rw [hV, Below.heap_alloc _ _ _ (by simp)]; exact heap_alloc_new _ _
  have c1 : V.heap[w.heap.size + 1]? = some (.cells #[.int .i64 r.need, .slice p.ra r.rs.length p.rc, .slice p.wa r.ws.length p.wc, .int .i64 r.h.k, .int .i64 r.h.n, .string r.h.t, .slice p.a1 r.h.keys.length p.c1, .slice p.a2 r.sub.len p.c2, .slice p.ea r.es.length p.ec] 46 (0, 0)) := by
    rw [hV]
    have := heap_alloc_new (w.alloc (.cells #[.slice a l.length c] 39)) (.cells #[.int .i64 r.need, .slice p.ra r.rs.length p.rc, .slice p.wa r.ws.length p.wc, .int .i64 r.h.k, .int .i64 r.h.n, .string r.h.t, .slice p.a1 r.h.keys.length p.c1, .slice p.a2 r.sub.len p.c2, .slice p.ea r.es.length p.ec] 46)
    simpa using this
  have z0 := (Array.getElem?_eq_some_iff.1 c0).1
  have z1 := (Array.getElem?_eq_some_iff.1 c1).1
  have T : Hid (∀ W, Below V.heap.size V W → W.heap[w.heap.size]? = some (.cells #[.slice a l.length c] 39 (0, 0)) ∧ W.heap[w.heap.size + 1]? = some (.cells #[.int .i64 r.need, .slice p.ra r.rs.length p.rc, .slice p.wa r.ws.length p.wc, .int .i64 r.h.k, .int .i64 r.h.n, .string r.h.t, .slice p.a1 r.h.keys.length p.c1, .slice p.a2 r.sub.len p.c2, .slice p.ea r.es.length p.ec] 46 (0, 0)) ∧ DeRow 0 W.heap.size W a l ∧ RunRow 0 W.heap.size W p r ∧ Below w.heap.size w W) := fun W hW =>
    have hw := bV.trans (hW.mono bV.size)
    ⟨(hW.block _ z0).trans c0, (hW.block _ z1).trans c1, hd.up hw, hr.up hw, hw⟩
  have HDB : Hid _ := hdb
  have HRB : Hid _ := hrb
  have x0 := fun o => row_cell c0 o
  have x1 := fun o => row_cell c1 o
  have zV := bV.size
  clear hd hr hdb hrb c0 c1 bV z0 z1
  go_enter Tryz.func26, Tryz.ntmps26
  go_upto_region 1 with fail
  rw [← hV]
  clear hV
  have T0 : Hid _ := T.out _ (Below.refl _ _)
  have hq := spec_mutates a c l _ T0.out.2.2.1 HDB.out HOP.out
  have hle : r.es.length ≤ 1048576 := HRB.out.1.2.2.2.1
  have hsm : sumW r.es ≤ 2097152 := by have := HRB.out.2.2; omega
  have HLE : Hid _ := hle
  have HSM : Hid _ := hsm
  clear hle hsm
  cases hM : mutB l with
  | true =>
    rw [hM] at hq
    have HQ : Hid _ := hq
    clear hq
    go_wp2_with fail
    refine Calls.mono HQ.out ?_
    rintro e w1 ⟨rfl, bq⟩
    have Q1 : Hid _ := bq
    have T1 : Hid _ := T.out _ bq
    clear bq x0 x1 T0
    have x1 := fun o => row_cell T1.out.2.1 o
    by_cases h0 : 0 < r.es.length
    · have h0' : (0 : Int) < r.es.length := by omega
      have HA : Hid (ansT l r = dataT (outT ohZ .nil) r.es) := by unfold Hid ansT; rw [hM, decide_eq_true h0]; rfl
      have hs := spec_data ohZ .nil none none p.ea 0 0 p.ec r.es w1 (.inl rfl) (.inl rfl) ohZ_ok T1.out.2.2.2.1.2.2.2.2 HLE.out HSM.out
      have HS : Hid (Calls Tryz.prog 54 #[.agg #[.int .i64 0, .int .i64 0, .string ⟨#[]⟩, .slice none 0 0, .slice none 0 0], .slice p.ea r.es.length p.ec] w1 fun e w' => e = .returned (.string (dataT (outT ohZ .nil) r.es)) ∧ Below w1.heap.size w1 w') := hs
      clear hs h0 hM
      go_wp2_with fail
      refine Calls.mono HS.out ?_
      rintro e w2 ⟨rfl, bq⟩
      have QB : Hid (Below w.heap.size w w2) := T1.out.2.2.2.2.trans (bq.mono T1.out.2.2.2.2.size)
      clear bq x1
      go_wp2_with fail
      go_ret
      exact ⟨by rw [HA.out]; rfl, QB.out⟩
    · have h0' : ¬ (0 : Int) < r.es.length := by omega
      have hd0 : decide ((0 : Int) < r.es.length) = false := decide_eq_false h0'
      have HA : Hid (ansT l r = dataT (outT r.h r.sub) r.es) := by unfold Hid ansT; rw [decide_eq_false h0]; simp
      have hs := spec_data r.h r.sub p.a1 p.a2 p.ea p.c1 p.c2 p.ec r.es w1 T1.out.2.2.2.1.2.2.1 T1.out.2.2.2.1.2.2.2.1 HOK.out T1.out.2.2.2.1.2.2.2.2 HLE.out HSM.out
      have HS : Hid _ := hs
      clear hs h0 hM
      go_wp2_with fail
      refine Calls.mono HS.out ?_
      rintro e w2 ⟨rfl, bq⟩
      have QB : Hid (Below w.heap.size w w2) := T1.out.2.2.2.2.trans (bq.mono T1.out.2.2.2.2.size)
      clear bq x1
      go_wp2_with fail
      go_ret
      exact ⟨by rw [HA.out]; rfl, QB.out⟩
  | false =>
    rw [hM] at hq
    have HQ : Hid _ := hq
    have HA : Hid (ansT l r = dataT (outT r.h r.sub) r.es) := by unfold Hid ansT; rw [hM]; rfl
    clear hq hM
    go_wp2_with fail
    refine Calls.mono HQ.out ?_
    rintro e w1 ⟨rfl, bq⟩
    have Q1 : Hid _ := bq
    have T1 : Hid _ := T.out _ bq
    clear bq x0 x1 T0
    have x1 := fun o => row_cell T1.out.2.1 o
    have hs := spec_data r.h r.sub p.a1 p.a2 p.ea p.c1 p.c2 p.ec r.es w1 T1.out.2.2.2.1.2.2.1 T1.out.2.2.2.1.2.2.2.1 HOK.out T1.out.2.2.2.1.2.2.2.2 HLE.out HSM.out
    have HS : Hid _ := hs
    clear hs
    go_wp2_with fail
    refine Calls.mono HS.out ?_
    rintro e w2 ⟨rfl, bq⟩
    have QB : Hid (Below w.heap.size w w2) := T1.out.2.2.2.2.trans (bq.mono T1.out.2.2.2.2.size)
    clear bq x1
    go_wp2_with fail
    go_ret
    exact ⟨by rw [HA.out]; rfl, QB.out⟩
set_option maxHeartbeats 4000000 in
theorem spec_answerOf (a : Option Addr) (c : Nat) (l : List De) (r : Rn) (p : RnA) (w : World) (hd : DeRow 0 w.heap.size w a l) (hdb : DefsBd 1048576 l) (hr : RunRow 0 w.heap.size w p r) (hc : r.h.keys.length ≤ p.c1) (hrb : RnSm r) :
    Calls Tryz.prog 7 #[.agg #[.slice a l.length c], .agg #[.int .i64 r.need, .slice p.ra r.rs.length p.rc, .slice p.wa r.ws.length p.wc, .int .i64 r.h.k, .int .i64 r.h.n, .string r.h.t, .slice p.a1 r.h.keys.length p.c1, .slice p.a2 r.sub.len p.c2, .slice p.ea r.es.length p.ec]] w fun e w' => e = ansE l r ∧ Below w.heap.size w w' := by
  obtain ⟨V, hV⟩ : ∃ V, V = (w.alloc (.cells #[.slice a l.length c] 39)).alloc (.cells #[.int .i64 r.need, .slice p.ra r.rs.length p.rc, .slice p.wa r.ws.length p.wc, .int .i64 r.h.k, .int .i64 r.h.n, .string r.h.t, .slice p.a1 r.h.keys.length p.c1, .slice p.a2 r.sub.len p.c2, .slice p.ea r.es.length p.ec] 46) := ⟨_, rfl⟩
  have bV : Below w.heap.size w V := by
    rw [hV]
    repeat (first | exact Below.refl _ _ | refine Below.alloc ?_ (by first | omega | (simp <;> omega)) _)
  have c0 : V.heap[w.heap.size]? = some (.cells #[.slice a l.length c] 39 (0, 0)) := by
    rw [hV, Below.heap_alloc _ _ _ (by simp)]; exact heap_alloc_new _ _
  have c1 : V.heap[w.heap.size + 1]? = some (.cells #[.int .i64 r.need, .slice p.ra r.rs.length p.rc, .slice p.wa r.ws.length p.wc, .int .i64 r.h.k, .int .i64 r.h.n, .string r.h.t, .slice p.a1 r.h.keys.length p.c1, .slice p.a2 r.sub.len p.c2, .slice p.ea r.es.length p.ec] 46 (0, 0)) := by
    rw [hV]
    have := heap_alloc_new (w.alloc (.cells #[.slice a l.length c] 39)) (.cells #[.int .i64 r.need, .slice p.ra r.rs.length p.rc, .slice p.wa r.ws.length p.wc, .int .i64 r.h.k, .int .i64 r.h.n, .string r.h.t, .slice p.a1 r.h.keys.length p.c1, .slice p.a2 r.sub.len p.c2, .slice p.ea r.es.length p.ec] 46)
    simpa using this
  have z0 := (Array.getElem?_eq_some_iff.1 c0).1
  have z1 := (Array.getElem?_eq_some_iff.1 c1).1
  have T : Hid (∀ W, Below V.heap.size V W → W.heap[w.heap.size]? = some (.cells #[.slice a l.length c] 39 (0, 0)) ∧ W.heap[w.heap.size + 1]? = some (.cells #[.int .i64 r.need, .slice p.ra r.rs.length p.rc, .slice p.wa r.ws.length p.wc, .int .i64 r.h.k, .int .i64 r.h.n, .string r.h.t, .slice p.a1 r.h.keys.length p.c1, .slice p.a2 r.sub.len p.c2, .slice p.ea r.es.length p.ec] 46 (0, 0)) ∧ DeRow 0 W.heap.size W a l ∧ RunRow 0 W.heap.size W p r ∧ Below w.heap.size w W) := fun W hW =>
    have hw := bV.trans (hW.mono bV.size)
    ⟨(hW.block _ z0).trans c0, (hW.block _ z1).trans c1, hd.up hw, hr.up hw, hw⟩
  have HDB : Hid _ := hdb
  have HRB : Hid _ := hrb
  have x0 := fun o => row_cell c0 o
  have x1 := fun o => row_cell c1 o
  have zV := bV.size
  clear hd hr hdb hrb c0 c1 bV z0 z1
  go_enter Tryz.func7, Tryz.ntmps7
  go_upto_region 1 with fail
  rw [← hV]
  clear hV
  have T0 : Hid _ := T.out _ (Below.refl _ _)
  go_wp2_with fail
  refine (spec_end a c l r p _ T0.out.2.2.1 HDB.out T0.out.2.2.2.1 hc HRB.out).mono ?_
  rintro e w1 ⟨rfl, bq⟩
  have Q1 : Hid _ := bq
  have T1 : Hid _ := T.out _ bq
  clear bq x0 x1 T0
  generalize hRC : runC l r = rc
  have HRC : Hid (runC l r = rc) := hRC
  clear hRC
  cases hb0 : (rc != 0) with
  | true =>
    have HW : Hid (ansE l r = .returned (.tuple #[.string ⟨#[]⟩, .int .i64 rc])) := by unfold Hid ansE; rw [HRC.out, if_neg (by simpa [bne] using hb0)]
    go_wp2_with fail
    go_ret2
    exact ⟨HW.out.symm, T1.out.2.2.2.2⟩
  | false =>
  have hz : rc = 0 := by simpa [bne] using hb0
  subst hz
  have HW : Hid (ansE l r = .returned (.tuple #[.string (ansT l r), .int .i64 0])) := by unfold Hid ansE; rw [if_pos HRC.out]
  have HG : Hid (runGood l r = true) := (runC_zero HRC.out).1
  have x0 := fun o => row_cell T1.out.1 o
  have x1 := fun o => row_cell T1.out.2.1 o
  go_wp2_with fail
  refine (spec_ans a c l r p _ T1.out.2.2.1 HDB.out T1.out.2.2.2.1 HRB.out HG.out).mono ?_
  rintro e w2 ⟨rfl, bq⟩
  have QB : Hid (Below w.heap.size w w2) := T1.out.2.2.2.2.trans (bq.mono T1.out.2.2.2.2.size)
  clear bq x0 x1
  go_wp2_with fail
  go_ret2
  exact ⟨HW.out.symm, QB.out⟩
end Go.Proofs.YtnkaoeijcdchiaaGreatDoor.G
