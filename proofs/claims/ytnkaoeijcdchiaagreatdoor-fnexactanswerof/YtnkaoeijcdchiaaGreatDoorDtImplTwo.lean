/- The program's DataText. -/
import Derived.Test.YtnkaoeijcdchiaaGreatDoorRunAns
import Derived.Test.YtnkaoeijcdchiaaGreatDoorDtImpl
namespace Go.Proofs.YtnkaoeijcdchiaaGreatDoor.G
open Go.ChangeShapes Go.WideShapes Go.ChangeAt Go.RowKit
set_option linter.unusedVariables false

theorem allP_drop {ps : List ByteArray} {k : Nat} (h : k < ps.length) : (ps.drop k).all pathB = (pathB ps[k] && (ps.drop (k + 1)).all pathB) := by
  rw [List.drop_eq_getElem_cons h, List.all_cons]
theorem dataE_long {h : Oh} {sub : Ous} {ps : List ByteArray} (h1 : 4096 < ps.length) : dataE h sub ps = .returned (.tuple #[.string ⟨#[]⟩, .int .i64 2]) := by unfold dataE; rw [if_pos h1]
theorem dataE_bad {h : Oh} {sub : Ous} {ps : List ByteArray} (h1 : ¬ 4096 < ps.length) (h2 : outB 20 h sub = false) : dataE h sub ps = .returned (.tuple #[.string ⟨#[]⟩, .int .i64 1]) := by unfold dataE; rw [if_neg h1, if_pos h2]
theorem dataE_form {h : Oh} {sub : Ous} {ps : List ByteArray} (h1 : ¬ 4096 < ps.length) (h2 : outB 20 h sub = true) (h3 : pathsB ps = false) : dataE h sub ps = .returned (.tuple #[.string ⟨#[]⟩, .int .i64 3]) := by
  unfold dataE; rw [if_neg h1, if_neg (by rw [h2]; simp), if_pos h3]
theorem dataE_ok {h : Oh} {sub : Ous} {ps : List ByteArray} (h1 : ¬ 4096 < ps.length) (h2 : outB 20 h sub = true) (h3 : pathsB ps = true) : dataE h sub ps = .returned (.tuple #[.string (dataT (outT h sub) ps), .int .i64 0]) := by
  unfold dataE; rw [if_neg h1, if_neg (by rw [h2]; simp), if_neg (by rw [h3]; simp)]
end Go.Proofs.YtnkaoeijcdchiaaGreatDoor.G
namespace Go.Proofs.YtnkaoeijcdchiaaGreatDoor.G
open Go.ChangeShapes Go.WideShapes Go.ChangeAt Go.RowKit
set_option linter.unusedVariables false

def dN : ByteArray := ⟨#[100, 97, 116, 97]⟩
def eN : ByteArray := ⟨#[101, 114, 114, 111, 114, 115]⟩
theorem map_getD (ps : List ByteArray) (k : Nat) (h : k < ps.length) : (ps.map qd).getD k ⟨#[]⟩ = qd (ps.getD k ⟨#[]⟩) := by
  rw [List.getD_eq_getElem?_getD, List.getD_eq_getElem?_getD, List.getElem?_map, List.getElem?_eq_getElem h]; rfl
theorem dtTo_list (t : ByteArray) (ps : List ByteArray) : ∀ k, k ≤ ps.length → (dtTo t ps k).data.toList = [123, 34, 100, 97, 116, 97, 34, 58] ++ t.data.toList ++ (if 0 < k then [44, 34, 101, 114, 114, 111, 114, 115, 34, 58, 91] ++ (cjTo (ps.map qd) k).data.toList else [])
  | 0, _ => by rw [dtTo]; simp
  | k + 1, hk => by
    have ih := dtTo_list t ps k (by omega)
    have hm := map_getD ps k (by omega)
    rw [dtTo, cjTo, hm, if_pos (by omega)]
    by_cases h0 : 0 < k
    · rw [if_pos h0] at ih ⊢
      simp [ih, sepT, h0, qd]
    · obtain rfl : k = 0 := by omega
      simp at ih
      simp [ih, sepT, qd, cjTo]
theorem data_none (t : ByteArray) {ps : List ByteArray} (h : ps.length = 0) : objT [pr dN t] = dataT t ps := by
  apply bytes_same
  unfold dataT
  rw [if_neg (by omega)]
  have := dtTo_list t ps 0 (by omega)
  simp at this
  simp [this, objT, cj, cjTo, pr, qd, dN]
theorem data_some (t : ByteArray) {ps : List ByteArray} (h : 0 < ps.length) : objT [pr dN t, pr eN (lisT (ps.map qd))] = dataT t ps := by
  apply bytes_same
  unfold dataT
  rw [if_pos h]
  have := dtTo_list t ps ps.length (Nat.le_refl _)
  rw [if_pos h] at this
  have e : cj (ps.map qd) = cjTo (ps.map qd) ps.length := by unfold cj; rw [List.length_map]
  unfold objT lisT
  rw [e]
  simp [this, cj, cjTo, pr, qd, dN, eN]
theorem sumW_qd : ∀ ps : List ByteArray, sumW (ps.map qd) = sumW ps + 2 * ps.length
  | [] => rfl
  | x :: ps => by rw [List.map_cons, sumW_cons, sumW_cons, sumW_qd ps, qd_size, List.length_cons]; omega
theorem row_list (ss : List ByteArray) (cs : Array Value) (w : World) (hcs : cs = (ss.map Value.string).toArray) : KeRow 0 (w.alloc (.cells cs 9)).heap.size (w.alloc (.cells cs 9)) (some ⟨w.heap.size, 0, none⟩) ss := by
  refine .inr ⟨w.heap.size, 0, rfl, Nat.zero_le _, by simp, fun i x hx => ?_⟩
  show rdOf _ _ (0 + i * 1) = _
  rw [row_rd (heap_alloc_new w (.cells cs 9 (0, 0))), hcs, Nat.zero_add, Nat.mul_one]
  simp [hx]
set_option maxHeartbeats 2000000 in
theorem impl_pathsText (a : Option Addr) (c : Nat) (ps : List ByteArray) (w : World) (hp : KeRow 0 w.heap.size w a ps) (hl : ps.length ≤ 1048576) (hz : sumW ps ≤ 1048576) :
    Calls Tryz.prog 67 #[.slice a ps.length c] w fun e w' => e = .returned (.string (lisT (ps.map qd))) ∧ Below w.heap.size w w' := by
  have HV : Hid (∀ W, Below w.heap.size w W → KeRow 0 W.heap.size W a ps) := fun W hW => KeRow.up hp hW
  have HZ : Hid _ := hz
  have HWL : Hid ((ps.map qd).length = ps.length) := by simp [Hid]
  have HSZ : Hid (sumW (ps.map qd) ≤ 1073741824) := by rw [Hid, sumW_qd]; omega
  clear hp hz
  obtain ⟨i9, hi, hz, hsz, hby⟩ := info_parts info9s
  have hmk := run_make (P := Tryz.prog) w 27 9 i9 _ Tryz.underlying27 hi hz .i64 .i64 (ps.length : Int) (ps.length : Int) (by omega) (by omega) (by rw [hby]; omega) (by omega)
  rw [hsz, Int.toNat_natCast] at hmk
  clear hi hz hsz hby
  have hs0 := size_madeCells (Value.string ⟨#[]⟩).cells (ps.length * 1)
  generalize madeCells (Value.string ⟨#[]⟩).cells (ps.length * 1) = cs0 at *
  go_enter Tryz.func67, Tryz.ntmps67
  go_wp2_with fail
  go_loopw [11] (fun i w' => ∃ (k : Nat) (cs : Array Value), k ≤ ps.length ∧ i = .int .i64 k ∧ Hid (Below w.heap.size w w') ∧ Hid (w'.heap[w.heap.size]? = some (.cells cs 9 (0, 0))) ∧ cs.size = ps.length ∧ Hid (LaidW cs (ps.map qd) k)) (fun i _ => ps.length - (intOf i).toNat)
  case atStart => exact ⟨0, cs0, by omega, rfl, (Below.refl _ _).alloc (Nat.le_refl _) _, heap_alloc_new _ _, by omega, fun i t h => by omega⟩
  case round =>
    obtain ⟨wo, rfl⟩ : ∃ x, x = wr := ⟨_, rfl⟩
    obtain ⟨k, cs, hk, rfl, HB, HH, hcs, HL⟩ := hrel
    clear hmk hs0
    have hbz := HB.out.size
    by_cases hlt : k < ps.length
    · obtain ⟨b, o, ha, _, hbl, ck⟩ := KeRow.cells (HV.out _ HB.out) k hlt
      have hkz : ps[k].size ≤ 1048576 := by have := mem_sumW (List.getElem_mem hlt); have := HZ.out; omega
      have HN : Hid ((ps.map qd)[k]? = some (qd ps[k])) := by rw [Hid, List.getElem?_map, List.getElem?_eq_getElem hlt]; rfl
      have hlt' : (k : Int) < ps.length := by omega
      subst ha
      obtain ⟨v0, hv0⟩ : ∃ v, wo.cell? ⟨w.heap.size, k, none⟩ = some v := ⟨_, (row_cell HH.out _).trans (Array.getElem?_eq_getElem (show k < cs.size by omega))⟩
      have hf0 := row_frozen HH.out k
      go_wp2_with fail
      refine (impl_quoted ps[k] _ (by omega)).mono ?_
      rintro e w1 ⟨rfl, rfl⟩
      go_wp2_with fail
      exact ⟨⟨k + 1, _, by omega, by first | rfl | go_num, HB.out.setCell (Nat.le_refl _) _, row_set HH.out _ _, by simp [hcs], LaidW.put HL.out (by omega) HN.out⟩, by simp [intOf]; omega⟩
    · obtain rfl : k = ps.length := by omega
      have HFIN : Hid (KeRow 0 wo.heap.size wo (some ⟨w.heap.size, 0, none⟩) (ps.map qd)) := by
        have := HL.out
        rw [← HWL.out] at this
        exact this.row HH.out
      go_wp2_with fail
      rw [← HWL.out]
      refine (impl_list _ _ (ps.map qd) _ HFIN.out (Nat.le_refl _) HSZ.out).mono ?_
      rintro e w2 ⟨rfl, hb2⟩
      have HB2 : Hid (Below w.heap.size w w2) := HB.out.trans (hb2.mono hbz)
      clear hb2
      go_wp2_with fail
      go_ret
      exact ⟨rfl, HB2.out⟩
theorem Vars.pow {w : World} (h : Vars w) : Pow w := h.1
set_option maxHeartbeats 4000000 in
theorem impl_dataTextIn (h : Oh) (sub : Ous) (a1 a2 a : Option Addr) (c1 c2 c : Nat) (ps : List ByteArray) (w : World) (r1 : KeRow 0 w.heap.size w a1 h.keys) (hc : h.keys.length ≤ c1) (r2 : OuRow 0 w.heap.size w a2 sub) (ho : outB 20 h sub = true)
    (hp : KeRow 0 w.heap.size w a ps) (hn : ps.length ≤ 1048576) (hz : sumW ps ≤ 1048576) (hv : Vars w) :
    Calls Tryz.prog 33 #[.agg #[.int .i64 h.k, .int .i64 h.n, .string h.t, .slice a1 h.keys.length c1, .slice a2 sub.len c2], .slice a ps.length c] w fun e w' => e = .returned (.string (dataT (outT h sub) ps)) ∧ Below w.heap.size w w' := by
  obtain ⟨V, hV⟩ : ∃ V, V = w.alloc (.cells #[.int .i64 h.k, .int .i64 h.n, .string h.t, .slice a1 h.keys.length c1, .slice a2 sub.len c2] 44) := ⟨_, rfl⟩
  have B0 : Below w.heap.size w V := by rw [hV]; exact (Below.refl _ _).alloc (Nat.le_refl _) _
  have c0 : V.heap[w.heap.size]? = some (.cells #[.int .i64 h.k, .int .i64 h.n, .string h.t, .slice a1 h.keys.length c1, .slice a2 sub.len c2] 44 (0, 0)) := by rw [hV]; exact heap_alloc_new _ _
  have x2 := fun o => row_cell c0 o
  have zV := (Array.getElem?_eq_some_iff.1 c0).1
  have KV : Hid (∀ W, Below V.heap.size V W → KeRow 0 W.heap.size W a1 h.keys ∧ OuRow 0 W.heap.size W a2 sub ∧ Below w.heap.size w W ∧ W.heap[w.heap.size]? = some (.cells #[.int .i64 h.k, .int .i64 h.n, .string h.t, .slice a1 h.keys.length c1, .slice a2 sub.len c2] 44 (0, 0)) ∧ KeRow 0 W.heap.size W a ps ∧ Vars W) := fun W hW =>
    have hw := B0.trans (hW.mono B0.size)
    ⟨KeRow.up r1 hw, OuRow.up r2 hw, hw, (hW.block _ zV).trans c0, KeRow.up hp hw, hv.up hw⟩
  have HZ : Hid _ := hz
  have HN : Hid _ := hn
  have HO : Hid (outB 20 h sub = true) := ho
  have HTZ : Hid ((outT h sub).size ≤ 480042) := outT_size ho
  clear r1 r2 c0 B0 hp hz hv ho hn
  obtain ⟨E, HE⟩ : ∃ E, Hid (E = dataT (outT h sub) ps) := ⟨_, rfl⟩
  rw [← HE.out]
  go_enter Tryz.func33, Tryz.ntmps33
  go_upto_region 1 with fail
  rw [← hV]
  clear hV
  obtain ⟨q1, q2, q3, q4, q5, q6⟩ := KV.out _ (Below.refl _ _)
  have Q1 : Hid _ := q1
  have Q2 : Hid _ := q2
  have Q6 : Hid _ := q6
  clear q1 q2 q3 q4 q5 q6
  go_wp2_with fail
  refine (impl_textI 20 (by omega) h sub a1 a2 c1 c2 _ Q1.out Q2.out hc HO.out (Vars.pow Q6.out)).mono ?_
  rintro e w3 ⟨rfl, hb3⟩
  have HB3 : Hid (Below V.heap.size V w3) := hb3
  clear hb3 x2 Q1 Q2 Q6
  have htz := HTZ.out
  obtain ⟨t, ht⟩ : ∃ t, t = outT h sub := ⟨_, rfl⟩
  rw [← ht] at HE htz ⊢
  clear ht HTZ
  go_wp2_with fail
  refine (impl_pair dN t _ (by decide) (by omega)).mono ?_
  rintro e w4 ⟨rfl, rfl⟩
  have hpz := pr_size dN t
  have hd4 : dN.size = 4 := rfl
  obtain ⟨x, hx⟩ : ∃ x, x = pr dN t := ⟨_, rfl⟩
  rw [← hx] at hpz ⊢
  obtain ⟨g1, g2, g3, g4, g5, g6⟩ := KV.out _ HB3.out
  have G3 : Hid _ := g3
  have G5 : Hid _ := g5
  clear g1 g2 g3 g4 g5 g6
  by_cases h0 : ps.length = 0
  · have HF : Hid (objT [x] = dataT t ps) := by rw [Hid, hx]; exact data_none t h0
    obtain ⟨U, hU⟩ : ∃ X, X = w4.alloc (.cells #[.string x] 9) := ⟨_, rfl⟩
    have BU : Below w4.heap.size w4 U := by rw [hU]; exact (Below.refl _ _).alloc (Nat.le_refl _) _
    have HR : Hid (KeRow 0 U.heap.size U (some ⟨w4.heap.size, 0, none⟩) [x]) := by rw [Hid, hU]; exact row_list [x] _ _ rfl
    have HSW : Hid (sumW [x] ≤ 1073741824) := by rw [Hid, sumW_cons, sumW_nil]; omega
    have HBU : Hid (Below w.heap.size w U) := G3.out.trans (BU.mono G3.out.size)
    have h0' : ((ps.length : Int) == 0) = true := by rw [h0]; rfl
    rw [h0]
    clear BU hx hpz
    go_wp2_with fail
    rw [← hU]
    refine (impl_object (some ⟨w4.heap.size, 0, none⟩) 1 [x] U HR.out (by simp) HSW.out).mono ?_
    rintro e w5 ⟨rfl, hb5⟩
    have HB5 : Hid (Below w.heap.size w w5) := HBU.out.trans (hb5.mono HBU.out.size)
    rw [HF.out]
    clear hb5 hU
    go_wp2_with fail
    go_ret
    exact ⟨by rw [HE.out]; rfl, HB5.out⟩
  · have HF0 : Hid (objT [x, pr eN (lisT (ps.map qd))] = dataT t ps) := by rw [Hid, hx]; exact data_some t (by omega)
    have h0' : ((ps.length : Int) == 0) = false := by rw [beq_eq_false_iff_ne]; omega
    clear hx
    go_wp2_with fail
    refine (impl_pathsText a c ps _ G5.out HN.out HZ.out).mono ?_
    rintro e w5 ⟨rfl, hb5⟩
    have HB5 : Hid (Below w.heap.size w w5) := G3.out.trans (hb5.mono G3.out.size)
    clear hb5
    have hlz : (lisT (ps.map qd)).size ≤ 4000000 := by
      unfold lisT
      have h1 := cj_size (ps.map qd)
      have h2 := sumW_qd ps
      have h3 := HZ.out
      have hn3 := HN.out
      have h4 : (⟨#[91]⟩ : ByteArray).size = 1 := rfl
      have h5 : (⟨#[93]⟩ : ByteArray).size = 1 := rfl
      rw [ByteArray.size_append, ByteArray.size_append]; omega
    generalize lisT (ps.map qd) = L at *
    go_wp2_with fail
    refine (impl_pair eN L _ (by decide) (by omega)).mono ?_
    rintro e w6 ⟨rfl, rfl⟩
    have hyz := pr_size eN L
    have he6 : eN.size = 6 := rfl
    generalize pr eN L = y at *
    obtain ⟨U, hU⟩ : ∃ X, X = w6.alloc (.cells #[.string x, .string y] 9) := ⟨_, rfl⟩
    have BU : Below w6.heap.size w6 U := by rw [hU]; exact (Below.refl _ _).alloc (Nat.le_refl _) _
    have HR : Hid (KeRow 0 U.heap.size U (some ⟨w6.heap.size, 0, none⟩) [x, y]) := by rw [Hid, hU]; exact row_list [x, y] _ _ rfl
    have HSW : Hid (sumW [x, y] ≤ 1073741824) := by rw [Hid, sumW_cons, sumW_cons, sumW_nil]; omega
    have HBU : Hid (Below w.heap.size w U) := HB5.out.trans (BU.mono HB5.out.size)
    clear BU hpz hyz he6 hlz
    go_wp2_with fail
    rw [← hU]
    refine (impl_object (some ⟨w6.heap.size, 0, none⟩) 2 [x, y] U HR.out (by simp) HSW.out).mono ?_
    rintro e w7 ⟨rfl, hb7⟩
    have HB7 : Hid (Below w.heap.size w w7) := HBU.out.trans (hb7.mono HBU.out.size)
    rw [HF0.out]
    clear hb7 hU
    go_wp2_with fail
    go_ret
    exact ⟨by rw [HE.out]; rfl, HB7.out⟩
end Go.Proofs.YtnkaoeijcdchiaaGreatDoor.G
