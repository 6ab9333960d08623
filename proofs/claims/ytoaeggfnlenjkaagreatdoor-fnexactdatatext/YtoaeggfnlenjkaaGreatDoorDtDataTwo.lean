/- The specification's DataText. -/
import Derived.Test.YtoaeggfnlenjkaaGreatDoorDtData
namespace Go.Proofs.YtoaeggfnlenjkaaGreatDoor.G
open Go.ChangeShapes Go.WideShapes Go.ChangeAt Go.RowKit
set_option linter.unusedVariables false

theorem allP_drop {ps : List ByteArray} {k : Nat} (h : k < ps.length) : (ps.drop k).all pathB = (pathB ps[k] && (ps.drop (k + 1)).all pathB) := by
  rw [List.drop_eq_getElem_cons h, List.all_cons]
theorem dataE_long {h : Oh} {sub : Ous} {ps : List ByteArray} (h1 : 4096 < ps.length) : dataE h sub ps = .returned (.tuple #[.string ⟨#[]⟩, .int .i64 2]) := by unfold dataE; rw [if_pos h1]
theorem dataE_bad {h : Oh} {sub : Ous} {ps : List ByteArray} (h1 : ¬ 4096 < ps.length) (h2 : outB 20 h sub = false) : dataE h sub ps = .returned (.tuple #[.string ⟨#[]⟩, .int .i64 1]) := by unfold dataE; rw [if_neg h1, if_pos h2]
theorem dataE_form {h : Oh} {sub : Ous} {ps : List ByteArray} (h1 : ¬ 4096 < ps.length) (h2 : outB 20 h sub = true) (h3 : pathsB ps = false) : dataE h sub ps = .returned (.tuple #[.string ⟨#[]⟩, .int .i64 3]) := by
  unfold dataE; rw [if_neg h1, if_neg (by rw [h2]; simp), if_pos h3]
theorem dataE_ok {h : Oh} {sub : Ous} {ps : List ByteArray} (h1 : ¬ 4096 < ps.length) (h2 : outB 20 h sub = true) (h3 : pathsB ps = true) : dataE h sub ps = .returned (.tuple #[.string (dataT (outT h sub) ps), .int .i64 0]) := by
  unfold dataE; rw [if_neg h1, if_neg (by rw [h2]; simp), if_neg (by rw [h3]; simp)]
set_option maxHeartbeats 4000000 in
theorem spec_dataText (h : Oh) (sub : Ous) (a1 a2 a : Option Addr) (c1 c2 c : Nat) (ps : List ByteArray) (w : World) (r1 : KeRow 0 w.heap.size w a1 h.keys) (hc : h.keys.length ≤ c1) (r2 : OuRow 0 w.heap.size w a2 sub) (hb : OhBd 1048576 h) (hl : sub.len ≤ 1048576) (hs : OusBd 1048576 sub)
    (hp : KeRow 0 w.heap.size w a ps) (hz : sumW ps ≤ 1048576) :
    Calls Tryz.prog 12 #[.agg #[.int .i64 h.k, .int .i64 h.n, .string h.t, .slice a1 h.keys.length c1, .slice a2 sub.len c2], .slice a ps.length c] w fun e w' => e = dataE h sub ps ∧ Below w.heap.size w w' := by
  obtain ⟨V, hV⟩ : ∃ V, V = w.alloc (.cells #[.int .i64 h.k, .int .i64 h.n, .string h.t, .slice a1 h.keys.length c1, .slice a2 sub.len c2] 26) := ⟨_, rfl⟩
  have B0 : Below w.heap.size w V := by rw [hV]; exact (Below.refl _ _).alloc (Nat.le_refl _) _
  have c0 : V.heap[w.heap.size]? = some (.cells #[.int .i64 h.k, .int .i64 h.n, .string h.t, .slice a1 h.keys.length c1, .slice a2 sub.len c2] 26 (0, 0)) := by rw [hV]; exact heap_alloc_new _ _
  have x0 := fun o => row_cell c0 o
  have zV := (Array.getElem?_eq_some_iff.1 c0).1
  have KV : Hid (∀ W, Below V.heap.size V W → KeRow 0 W.heap.size W a1 h.keys ∧ OuRow 0 W.heap.size W a2 sub ∧ Below w.heap.size w W ∧ W.heap[w.heap.size]? = some (.cells #[.int .i64 h.k, .int .i64 h.n, .string h.t, .slice a1 h.keys.length c1, .slice a2 sub.len c2] 26 (0, 0)) ∧ KeRow 0 W.heap.size W a ps) := fun W hW =>
    have hw := B0.trans (hW.mono B0.size)
    ⟨KeRow.up r1 hw, OuRow.up r2 hw, hw, (hW.block _ zV).trans c0, KeRow.up hp hw⟩
  have HB : Hid _ := hb
  have HS : Hid _ := hs
  have HZ : Hid _ := hz
  have hln := len_sumW ps
  have hln2 : ps.length ≤ 1048576 := by omega
  clear r1 r2 hb hs c0 B0 hp hz hln
  go_enter Tryz.func12, Tryz.ntmps12
  go_upto_region 1 with fail
  rw [← hV]
  clear hV
  by_cases hlong : 4096 < ps.length
  · have HF : Hid (Ending.returned (.tuple #[.string ⟨#[]⟩, .int .i64 2]) = dataE h sub ps) := (dataE_long hlong).symm
    have hlong' : (4096 : Int) < ps.length := by omega
    have HBW : Hid (Below w.heap.size w V) := (KV.out _ (Below.refl _ _)).2.2.1
    clear hlong
    go_wp2_with fail
    go_ret2
    exact ⟨HF.out, HBW.out⟩
  have hlong' : ¬ (4096 : Int) < ps.length := by omega
  have HL : Hid (¬ 4096 < ps.length) := hlong
  go_wp2_with fail
  refine (spec_outOK h sub a1 a2 c1 c2 _ (KV.out _ (Below.refl _ _)).1 hc (KV.out _ (Below.refl _ _)).2.1 HB.out hl HS.out).mono ?_
  rintro e w1 ⟨rfl, hb1⟩
  have HB1 : Hid (Below V.heap.size V w1) := hb1
  have HBW : Hid (Below w.heap.size w w1) := (KV.out _ hb1).2.2.1
  clear hb1 x0
  cases ho : outB 20 h sub
  · have HF : Hid (Ending.returned (.tuple #[.string ⟨#[]⟩, .int .i64 1]) = dataE h sub ps) := (dataE_bad hlong ho).symm
    clear hlong
    go_wp2_with fail
    go_ret2
    exact ⟨HF.out, HBW.out⟩
  have HO : Hid (outB 20 h sub = true) := ho
  clear ho hlong hlong' HBW
  go_wp2_with fail
  go_loopw [6] (fun i w' => ∃ k : Nat, k ≤ ps.length ∧ i = .int .i64 k ∧ Hid (Below V.heap.size V w') ∧ Hid (pathsB ps = (ps.drop k).all pathB)) (fun i _ => ps.length - (intOf i).toNat)
  case atStart => exact ⟨0, by omega, rfl, HB1, rfl⟩
  case round =>
    obtain ⟨wo, rfl⟩ : ∃ x, x = wr := ⟨_, rfl⟩
    obtain ⟨k, hk, rfl, HBo, HD⟩ := hrel
    obtain ⟨q1, q2, q3, q4, q5⟩ := KV.out _ HBo.out
    by_cases hlt : k < ps.length
    · obtain ⟨b, o, ha, _, hbl, ck⟩ := KeRow.cells q5 k hlt
      have hkz : ps[k].size ≤ 1048576 := by have := mem_sumW (List.getElem_mem hlt); have := HZ.out; omega
      have HD1 : Hid (pathsB ps = (pathB ps[k] && (ps.drop (k + 1)).all pathB)) := by rw [Hid, HD.out]; exact allP_drop hlt
      subst ha
      clear q1 q2 q3 q4 q5 HD
      go_wp2_with fail
      refine (spec_path ps[k] _ hkz).mono ?_
      rintro e w2 ⟨rfl, hb2⟩
      have HB2 : Hid (Below V.heap.size V w2) := HBo.out.trans (hb2.mono HBo.out.size)
      clear hb2
      cases hpk : pathB ps[k]
      · have HF : Hid (Ending.returned (.tuple #[.string ⟨#[]⟩, .int .i64 3]) = dataE h sub ps) := (dataE_form HL.out HO.out (by rw [HD1.out, hpk]; rfl)).symm
        have HBW : Hid (Below w.heap.size w w2) := (KV.out _ HB2.out).2.2.1
        go_wp2_with fail
        go_ret2
        exact ⟨HF.out, HBW.out⟩
      · have HF : Hid (pathsB ps = (ps.drop (k + 1)).all pathB) := by rw [Hid, HD1.out, hpk]; rfl
        go_wp2_with fail
        exact ⟨⟨k + 1, by omega, by go_num, HB2, HF⟩, by simp [intOf]; omega⟩
    · obtain rfl : k = ps.length := by omega
      have HE : Hid (Ending.returned (.tuple #[.string (dataT (outT h sub) ps), .int .i64 0]) = dataE h sub ps) := (dataE_ok HL.out HO.out (by rw [HD.out, List.drop_length]; rfl)).symm
      have Q1 : Hid _ := q1
      have Q2 : Hid _ := q2
      have Q3 : Hid _ := q3
      have Q5 : Hid _ := q5
      have x1 := fun o => row_cell q4 o
      clear q1 q2 q3 q4 q5
      go_wp2_with fail
      refine (spec_data h sub a1 a2 a c1 c2 c ps _ Q1.out Q2.out HO.out Q5.out (by have := HL.out; omega) (by have := HZ.out; omega)).mono ?_
      rintro e w2 ⟨rfl, hb2⟩
      have HBW : Hid (Below w.heap.size w w2) := Q3.out.trans (hb2.mono Q3.out.size)
      clear hb2 x1
      go_wp2_with fail
      go_ret2
      exact ⟨HE.out, HBW.out⟩
end Go.Proofs.YtoaeggfnlenjkaaGreatDoor.G
