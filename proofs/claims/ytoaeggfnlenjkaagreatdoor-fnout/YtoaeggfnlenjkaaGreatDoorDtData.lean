/- The specification's text of an answer with its errors. -/
import Derived.Test.YtoaeggfnlenjkaaGreatDoorDtSpec
import Derived.Test.YtoaeggfnlenjkaaGreatDoorOuOwnMath
namespace Go.Proofs.YtoaeggfnlenjkaaGreatDoor.G
open Go.ChangeShapes Go.WideShapes Go.ChangeAt Go.RowKit
set_option linter.unusedVariables false

theorem spec_bit (b : Bool) (w : World) : Calls Tryz.prog 88 #[.bool b] w fun e w' => e = .returned (.int .i64 (if b then 1 else 0)) ∧ w' = w := by
  cases b
  · go_enter Tryz.func88, Tryz.ntmps88
    go_wp2_with fail
    go_ret
    exact ⟨rfl, rfl⟩
  · go_enter Tryz.func88, Tryz.ntmps88
    go_wp2_with fail
    go_ret
    exact ⟨rfl, rfl⟩
set_option maxHeartbeats 8000000 in
set_option maxRecDepth 40000 in
theorem spec_data (h : Oh) (sub : Ous) (a1 a2 a : Option Addr) (c1 c2 c : Nat) (ps : List ByteArray) (w : World) (r1 : KeRow 0 w.heap.size w a1 h.keys) (r2 : OuRow 0 w.heap.size w a2 sub) (ho : outB 20 h sub = true) (hp : KeRow 0 w.heap.size w a ps) (hl : ps.length ≤ 1048576) (hz : sumW ps ≤ 2097152) :
    Calls Tryz.prog 43 #[.agg #[.int .i64 h.k, .int .i64 h.n, .string h.t, .slice a1 h.keys.length c1, .slice a2 sub.len c2], .slice a ps.length c] w fun e w' => e = .returned (.string (dataT (outT h sub) ps)) ∧ Below w.heap.size w w' := by
  obtain ⟨V, hV⟩ : ∃ V, V = w.alloc (.cells #[.int .i64 h.k, .int .i64 h.n, .string h.t, .slice a1 h.keys.length c1, .slice a2 sub.len c2] 26) := ⟨_, rfl⟩
  have B0 : Below w.heap.size w V := by rw [hV]; exact (Below.refl _ _).alloc (Nat.le_refl _) _
  have c0 : V.heap[w.heap.size]? = some (.cells #[.int .i64 h.k, .int .i64 h.n, .string h.t, .slice a1 h.keys.length c1, .slice a2 sub.len c2] 26 (0, 0)) := by rw [hV]; exact heap_alloc_new _ _
  have x0 := fun o => row_cell c0 o
  have R1 : Hid _ := KeRow.up r1 B0
  have R2 : Hid _ := OuRow.up r2 B0
  have HZ : Hid ((outT h sub).size ≤ 480042) := outT_size ho
  have HO : Hid _ := ho
  have BV : Hid _ := B0
  have HP : Hid (∀ W, Below w.heap.size w W → KeRow 0 W.heap.size W a ps) := fun W hW => KeRow.up hp hW
  have HSZ : Hid (∀ k, k ≤ ps.length → (dtTo (outT h sub) ps k).size ≤ 20000000) := fun k hk => by
    have h1 := dtTo_size (outT h sub) ps k hk
    have h2 : sumW ps = sumW (ps.take k) + sumW (ps.drop k) := by rw [← sumW_app, List.take_append_drop]
    have := HZ.out
    omega
  clear r1 r2 B0 c0 ho hp
  go_enter Tryz.func43, Tryz.ntmps43
  go_upto_region 1 with fail
  rw [← hV]
  clear hV
  go_wp2_with fail
  refine (spec_text 20 (by omega) h sub a1 a2 c1 c2 _ R1.out R2.out HO.out).mono ?_
  rintro e w1 ⟨rfl, b1⟩
  have HB1 : Hid (Below w.heap.size w w1) := BV.out.trans (b1.mono BV.out.size)
  clear b1 x0 BV R1 R2
  have hsz := HZ.out
  obtain ⟨t, ht⟩ : ∃ t, t = outT h sub := ⟨_, rfl⟩
  have HT : Hid (outT h sub = t) := ht.symm
  rw [← ht] at HSZ hsz HZ ⊢
  clear ht
  have n1 : ¬ (9223372036854775807 < (⟨#[123, 34, 100, 97, 116, 97, 34, 58]⟩ : ByteArray).size + t.size) := by have : (⟨#[123, 34, 100, 97, 116, 97, 34, 58]⟩ : ByteArray).size = 8 := rfl; omega
  go_wp2_with fail
  go_loopw [5, 6] (fun s i w' => ∃ k : Nat, k ≤ ps.length ∧ i = .int .i64 k ∧ s = .string (dtTo t ps k) ∧ Hid (Below w.heap.size w w')) (fun _ i _ => ps.length - (intOf i).toNat)
  case atStart => exact ⟨0, by omega, rfl, rfl, HB1⟩
  case round =>
    obtain ⟨wo, rfl⟩ : ∃ x, x = wr := ⟨_, rfl⟩
    obtain ⟨k, hk, rfl, rfl, HB⟩ := hrel
    have hdz := HSZ.out k hk
    by_cases hlt : k < ps.length
    · obtain ⟨b, o, ha, _, hbl, ck⟩ := KeRow.cells (HP.out _ HB.out) k hlt
      have hdz2 := HSZ.out (k + 1) (by omega)
      have hg : ps.getD k ⟨#[]⟩ = ps[k] := by rw [List.getD_eq_getElem?_getD, List.getElem?_eq_getElem hlt]; rfl
      rw [dtTo, hg] at hdz2
      have HE : Hid (dtTo t ps (k + 1) = dtTo t ps k ++ (sepT k ++ ⟨#[34]⟩ ++ ps[k] ++ ⟨#[34]⟩)) := by rw [Hid, dtTo, hg]
      subst ha
      clear hg
      obtain ⟨A, hA⟩ : ∃ A, A = dtTo t ps k := ⟨_, rfl⟩
      obtain ⟨z, hzz⟩ : ∃ z, z = ps[k] := ⟨_, rfl⟩
      obtain ⟨S, hS⟩ : ∃ S, S = sepT k := ⟨_, rfl⟩
      rw [← hA] at HE hdz2 hdz ⊢
      rw [← hzz] at HE hdz2 ck
      rw [← hS] at HE hdz2
      go_upto_region 5 with fail
      obtain ⟨B, hB⟩ : ∃ B : Bool, B = decide (0 < k) := ⟨_, rfl⟩
      obtain ⟨bi, hbi⟩ : ∃ bi : Nat, bi = if 0 < k then 1 else 0 := ⟨_, rfl⟩
      have HBI : Hid ((if B = true then (1 : Int) else 0) = (bi : Int)) := by
        rw [Hid, hB, hbi]
        by_cases h0 : 0 < k
        · rw [if_pos h0, if_pos (by simp; omega)]; rfl
        · rw [if_neg h0, if_neg (by simp; omega)]; rfl
      have HSEL : Hid ((#[.string ⟨#[44, 34, 101, 114, 114, 111, 114, 115, 34, 58, 91]⟩, .string ⟨#[44]⟩] : Array Value)[bi]? = some (.string S)) := by
        rw [Hid, hbi, hS]
        unfold sepT
        split <;> rfl
      have hb2 : (bi : Int) < 2 := by rw [hbi]; split <;> decide
      have hb0 : 0 ≤ (bi : Int) := by omega
      have m1 : (⟨#[34]⟩ : ByteArray).size = 1 := rfl
      have hz1 : A.size + (S.size + 1 + z.size + 1) ≤ 20000000 := by
        rw [ByteArray.size_append, ByteArray.size_append, ByteArray.size_append, ByteArray.size_append, m1] at hdz2
        exact hdz2
      have KS : Hid (∀ W, Below wo.heap.size wo W → W.cell? ⟨b, o + k, none⟩ = some (.string z)) := fun W hW => (hW.cell (p := ⟨b, o + k, none⟩) hbl).trans ck
      have HHB : Hid (B = decide (0 < k)) := hB
      clear hA hzz hS hB hbi ck hdz2
      refine region_rel (n := 15) (by kernel_rfl) (by kernel_rfl) (by kernel_rfl) (fun u' => ⟨#[.agg #[.int .i64 h.k, .int .i64 h.n, .string h.t, .slice a1 h.keys.length c1, .slice a2 sub.len c2], .slice (some ⟨b, o, none⟩) ps.length c, .pointer (some ⟨w.heap.size, 0, none⟩), undef, .string ⟨#[]⟩, .string A, .int .i64 (k : Int), .agg #[.int .i64 h.k, .int .i64 h.n, .string h.t, .slice a1 h.keys.length c1, .slice a2 sub.len c2], .string t, .string (⟨#[123, 34, 100, 97, 116, 97, 34, 58]⟩ ++ t), .int .i64 (k : Int), .slice (some ⟨b, o, none⟩) ps.length c, .int .i64 (ps.length : Int), .bool true, u14, u15, u' 16, u' 17, u' 18, u' 19, u' 20, u' 21, u' 22, u' 23, u' 24, u' 25, u' 26, u' 27, u' 28, u' 29, u' 30, undef, undef, undef, undef, undef, undef, undef], []⟩) (fun i => match i with | 16 => u16 | 17 => u17 | 18 => u18 | 19 => u19 | 20 => u20 | 21 => u21 | 22 => u22 | 23 => u23 | 24 => u24 | 25 => u25 | 26 => u26 | 27 => u27 | 28 => u28 | 29 => u29 | 30 => u30 | _ => undef) (fun i => i + 16) (fun i j _ _ h => by omega) (fun i v w2 => match i with | 0 => v = .string A | 1 => ∃ N, v = .slice (some ⟨N, 0, none⟩) 2 2 ∧ w2.heap[N]? = some (.cells #[.string ⟨#[44, 34, 101, 114, 114, 111, 114, 115, 34, 58, 91]⟩, .string ⟨#[44]⟩] 9 (0, 0)) | 2 => v = .int .i64 (k : Int) | 3 => v = .bool B | 4 => v = .int .i64 (bi : Int) | 5 => ∃ N, v = .pointer (some ⟨N, bi, none⟩) ∧ w2.heap[N]? = some (.cells #[.string ⟨#[44, 34, 101, 114, 114, 111, 114, 115, 34, 58, 91]⟩, .string ⟨#[44]⟩] 9 (0, 0)) | 6 => v = .string S | 7 => v = .string (S ++ ⟨#[34]⟩) | 8 => v = .slice (some ⟨b, o, none⟩) ps.length c | 9 => v = .int .i64 (k : Int) | 10 => v = .pointer (some ⟨b, o + k, none⟩) | 11 => v = .string z | 12 => v = .string (S ++ ⟨#[34]⟩ ++ z) | 13 => v = .string (S ++ ⟨#[34]⟩ ++ z ++ ⟨#[34]⟩) | 14 => v = .string (A ++ (S ++ ⟨#[34]⟩ ++ z ++ ⟨#[34]⟩)) | _ => True) (fun _ _ => True) ?up trivial ?step ?last
      case up =>
        intro i v w2 w3 hv hbb
        split at hv
        all_goals first
          | exact hv
          | (obtain ⟨N, h1, h2⟩ := hv
             exact ⟨N, h1, (hbb.block _ (Array.getElem?_eq_some_iff.1 h2).1).trans h2⟩)
      case step =>
        intro u' w2 i hi hbw _ hdep
        have s1 := KS.out _ hbw
        have hcase : i = 0 ∨ i = 1 ∨ i = 2 ∨ i = 3 ∨ i = 4 ∨ i = 5 ∨ i = 6 ∨ i = 7 ∨ i = 8 ∨ i = 9 ∨ i = 10 ∨ i = 11 ∨ i = 12 ∨ i = 13 ∨ i = 14 := by omega
        clear hi hbw
        rcases hcase with rfl | rfl | rfl | rfl | rfl | rfl | rfl | rfl | rfl | rfl | rfl | rfl | rfl | rfl | rfl
        · refine wpOp_step rfl (fun K hK => ?_)
          clear hdep
          go_simp
          exact hK _ _ ⟨_, rfl, Below.refl _ _, rfl, trivial⟩
        · refine wpOp_step rfl (fun K hK => ?_)
          clear hdep
          go_simp
          exact hK _ _ ⟨_, rfl, (Below.refl _ _).alloc (Nat.le_refl _) _, ⟨_, rfl, heap_alloc_new _ _⟩, trivial⟩
        · refine wpOp_step rfl (fun K hK => ?_)
          clear hdep
          go_simp
          exact hK _ _ ⟨_, rfl, Below.refl _ _, rfl, trivial⟩
        · have d2 : u' 18 = .int .i64 (k : Int) := hdep _ rfl ⟨2, .data⟩ (by simp) rfl
          refine wpOp_step rfl (fun K hK => ?_)
          clear hdep
          go_simp
          rw [← HHB.out]
          exact hK _ _ ⟨_, by simp [upd, d2], Below.refl _ _, rfl, trivial⟩
        · have d3 : u' 19 = .bool B := hdep _ rfl ⟨3, .data⟩ (by simp) rfl
          refine wpOp_step rfl (fun K hK => ?_)
          clear hdep
          go_simp
          refine (spec_bit B w2).mono ?_
          rintro e w8 ⟨rfl, hw8⟩
          rw [hw8, HBI.out]
          exact hK _ _ ⟨_, by simp [upd, d3], Below.refl _ _, rfl, trivial⟩
        · obtain ⟨N, d1, hN⟩ := (hdep _ rfl ⟨1, .data⟩ (by simp) rfl : ∃ N, u' 17 = .slice (some ⟨N, 0, none⟩) 2 2 ∧ w2.heap[N]? = some (.cells #[.string ⟨#[44, 34, 101, 114, 114, 111, 114, 115, 34, 58, 91]⟩, .string ⟨#[44]⟩] 9 (0, 0)))
          have d4 : u' 20 = .int .i64 (bi : Int) := hdep _ rfl ⟨4, .data⟩ (by simp) rfl
          refine wpOp_step rfl (fun K hK => ?_)
          clear hdep
          go_simp
          exact hK _ _ ⟨_, by simp [upd, d1, d4], Below.refl _ _, ⟨N, rfl, hN⟩, trivial⟩
        · obtain ⟨N, d5, hN⟩ := (hdep _ rfl ⟨5, .data⟩ (by simp) rfl : ∃ N, u' 21 = .pointer (some ⟨N, bi, none⟩) ∧ w2.heap[N]? = some (.cells #[.string ⟨#[44, 34, 101, 114, 114, 111, 114, 115, 34, 58, 91]⟩, .string ⟨#[44]⟩] 9 (0, 0)))
          have sN : w2.cell? ⟨N, bi, none⟩ = some (.string S) := (row_cell hN bi).trans HSEL.out
          refine wpOp_step rfl (fun K hK => ?_)
          clear hdep
          go_simp
          exact hK _ _ ⟨_, by simp [upd, d5], Below.refl _ _, rfl, trivial⟩
        · have d6 : u' 22 = .string S := hdep _ rfl ⟨6, .data⟩ (by simp) rfl
          have n1 : ¬ (9223372036854775807 < S.size + (⟨#[34]⟩ : ByteArray).size) := by omega
          have n2 : ¬ (9223372036854775807 < S.size + 1) := by omega
          refine wpOp_step rfl (fun K hK => ?_)
          clear hdep
          clear m1
          go_simp
          exact hK _ _ ⟨_, by simp [upd, d6], Below.refl _ _, rfl, trivial⟩
        · refine wpOp_step rfl (fun K hK => ?_)
          clear hdep
          go_simp
          exact hK _ _ ⟨_, rfl, Below.refl _ _, rfl, trivial⟩
        · refine wpOp_step rfl (fun K hK => ?_)
          clear hdep
          go_simp
          exact hK _ _ ⟨_, rfl, Below.refl _ _, rfl, trivial⟩
        · have d8 : u' 24 = .slice (some ⟨b, o, none⟩) ps.length c := hdep _ rfl ⟨8, .data⟩ (by simp) rfl
          have d9 : u' 25 = .int .i64 (k : Int) := hdep _ rfl ⟨9, .data⟩ (by simp) rfl
          refine wpOp_step rfl (fun K hK => ?_)
          clear hdep
          go_simp
          exact hK _ _ ⟨_, by simp [upd, d8, d9], Below.refl _ _, rfl, trivial⟩
        · have d10 : u' 26 = .pointer (some ⟨b, o + k, none⟩) := hdep _ rfl ⟨10, .data⟩ (by simp) rfl
          refine wpOp_step rfl (fun K hK => ?_)
          clear hdep
          go_simp
          exact hK _ _ ⟨_, by simp [upd, d10], Below.refl _ _, rfl, trivial⟩
        · have d7 : u' 23 = .string (S ++ ⟨#[34]⟩) := hdep _ rfl ⟨7, .data⟩ (by simp) rfl
          have d11 : u' 27 = .string z := hdep _ rfl ⟨11, .data⟩ (by simp) rfl
          have n1 : ¬ (9223372036854775807 < (S ++ ⟨#[34]⟩).size + z.size) := by rw [ByteArray.size_append]; omega
          have n3 : ¬ (9223372036854775807 < S.size + 1 + z.size) := by omega
          refine wpOp_step rfl (fun K hK => ?_)
          clear hdep
          clear m1
          go_simp
          exact hK _ _ ⟨_, by simp [upd, d7, d11], Below.refl _ _, rfl, trivial⟩
        · have d12 : u' 28 = .string (S ++ ⟨#[34]⟩ ++ z) := hdep _ rfl ⟨12, .data⟩ (by simp) rfl
          have n2 : ¬ (9223372036854775807 < (S ++ ⟨#[34]⟩ ++ z).size + 1) := by rw [ByteArray.size_append, ByteArray.size_append]; omega
          have n1 : ¬ (9223372036854775807 < (S ++ ⟨#[34]⟩ ++ z).size + (⟨#[34]⟩ : ByteArray).size) := by rw [ByteArray.size_append, ByteArray.size_append]; omega
          have n3 : ¬ (9223372036854775807 < S.size + 1 + z.size + 1) := by omega
          refine wpOp_step rfl (fun K hK => ?_)
          clear hdep
          clear m1
          go_simp
          exact hK _ _ ⟨_, by simp [upd, d12], Below.refl _ _, rfl, trivial⟩
        · have d0 : u' 16 = .string A := hdep _ rfl ⟨0, .data⟩ (by simp) rfl
          have d13 : u' 29 = .string (S ++ ⟨#[34]⟩ ++ z ++ ⟨#[34]⟩) := hdep _ rfl ⟨13, .data⟩ (by simp) rfl
          have n1 : ¬ (9223372036854775807 < A.size + (S ++ ⟨#[34]⟩ ++ z ++ ⟨#[34]⟩).size) := by rw [ByteArray.size_append, ByteArray.size_append, ByteArray.size_append]; omega
          have n3 : ¬ (9223372036854775807 < A.size + (S.size + 1 + z.size + 1)) := by omega
          refine wpOp_step rfl (fun K hK => ?_)
          clear hdep
          clear m1
          go_simp
          exact hK _ _ ⟨_, by simp [upd, d0, d13], Below.refl _ _, rfl, trivial⟩
      case last =>
        intro u' w2 hbw _ hp2
        have d14 : u' 30 = .string (A ++ (S ++ ⟨#[34]⟩ ++ z ++ ⟨#[34]⟩)) := hp2 14 (by omega)
        have HBV : Hid (Below w.heap.size w w2) := HB.out.trans (hbw.mono HB.out.size)
        clear hp2 hbw
        refine wpOp_step rfl (fun K hK => ?_)
        go_simp
        refine hK _ _ ?_
        clear hK K
        go_wp2_with fail
        exact ⟨⟨k + 1, by omega, by first | rfl | go_num, by rw [HE.out], HBV⟩, by simp [intOf]; omega⟩
    · obtain rfl : k = ps.length := by omega
      have h1 : (⟨#[93]⟩ : ByteArray).size = 1 := rfl
      by_cases h0 : 0 < ps.length
      · have HF : Hid (dataT t ps = dtTo t ps ps.length ++ ⟨#[93]⟩ ++ ⟨#[125]⟩) := by unfold Hid dataT; rw [if_pos h0]
        have h0' : (0 : Int) < ps.length := by omega
        have n2 : ¬ (9223372036854775807 < (dtTo t ps ps.length).size + (⟨#[93]⟩ : ByteArray).size) := by omega
        have n3 : ¬ (9223372036854775807 < (dtTo t ps ps.length ++ ⟨#[93]⟩).size + (⟨#[125]⟩ : ByteArray).size) := by rw [ByteArray.size_append]; have : (⟨#[125]⟩ : ByteArray).size = 1 := rfl; omega
        clear h1
        go_wp2_with fail
        go_ret
        exact ⟨by rw [HT.out, HF.out]; rfl, HB.out⟩
      · have HF : Hid (dataT t ps = dtTo t ps ps.length ++ ⟨#[125]⟩) := by unfold Hid dataT; rw [if_neg h0, show ps.length = 0 by omega]
        have h0' : ¬ (0 : Int) < ps.length := by omega
        have n3 : ¬ (9223372036854775807 < (dtTo t ps ps.length).size + (⟨#[125]⟩ : ByteArray).size) := by have : (⟨#[125]⟩ : ByteArray).size = 1 := rfl; omega
        clear h1 h0
        go_wp2_with fail
        go_ret
        exact ⟨by rw [HT.out, HF.out]; rfl, HB.out⟩
end Go.Proofs.YtoaeggfnlenjkaaGreatDoor.G
