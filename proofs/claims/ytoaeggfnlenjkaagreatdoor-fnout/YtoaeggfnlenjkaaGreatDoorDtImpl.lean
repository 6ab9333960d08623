/- The program's paths. -/
import Derived.Test.YtoaeggfnlenjkaaGreatDoorDtData
import Derived.Test.YtoaeggfnlenjkaaGreatDoorDtNum
import Derived.Test.YtoaeggfnlenjkaaGreatDoorShelf
import Derived.Test.YtoaeggfnlenjkaaGreatDoorDigitsD
import Derived.Test.YtoaeggfnlenjkaaGreatDoorDtSpec
import Derived.Test.YtoaeggfnlenjkaaGreatDoorOuTextBoth
namespace Go.Proofs.YtoaeggfnlenjkaaGreatDoor.G
open Go.ChangeShapes Go.WideShapes Go.ChangeAt Go.RowKit
set_option linter.unusedVariables false

theorem allP_drop {ps : List ByteArray} {k : Nat} (h : k < ps.length) : (ps.drop k).all pathB = (pathB ps[k] && (ps.drop (k + 1)).all pathB) := by
  rw [List.drop_eq_getElem_cons h, List.all_cons]
theorem dataE_long {h : Oh} {sub : Ous} {ps : List ByteArray} (h1 : 4096 < ps.length) : dataE h sub ps = .returned (.tuple #[.string ⟨#[]⟩, .int .i64 2]) := by unfold dataE; rw [if_pos h1]
theorem dataE_bad {h : Oh} {sub : Ous} {ps : List ByteArray} (h1 : ¬ 4096 < ps.length) (h2 : outB 20 h sub = false) : dataE h sub ps = .returned (.tuple #[.string ⟨#[]⟩, .int .i64 1]) := by unfold dataE; rw [if_neg h1, if_pos h2]
theorem dataE_form {h : Oh} {sub : Ous} {ps : List ByteArray} (h1 : ¬ 4096 < ps.length) (h2 : outB 20 h sub = true) (h3 : pathsB ps = false) : dataE h sub ps = .returned (.tuple #[.string ⟨#[]⟩, .int .i64 3]) := by
  unfold dataE; rw [if_neg h1, if_neg (by rw [h2]; simp), if_pos h3]
theorem dataE_ok {h : Oh} {sub : Ous} {ps : List ByteArray} (h1 : ¬ 4096 < ps.length) (h2 : outB 20 h sub = true) (h3 : pathsB ps = true) : dataE h sub ps = .returned (.tuple #[.string (dataT (outT h sub) ps), .int .i64 0]) := by
  unfold dataE; rw [if_neg h1, if_neg (by rw [h2]; simp), if_neg (by rw [h3]; simp)]
set_option maxHeartbeats 4000000 in
theorem spec_dataText (h : Oh) (sub : Ous) (a1 a2 a : Option Addr) (c1 c2 c : Nat) (ps : List ByteArray) (w : World) (r1 : KeRow 0 w.heap.size w a1 h.keys) (hc : h.keys.length ≤ c1) (r2 : OuRow 0 w.heap.size w a2 sub) (hb : OhBd 1048576 h) (hl : sub.len ≤ 1048576) (hs : OusBd 1048576 sub)
    (hp : KeRow 0 w.heap.size w a ps) (hz : sumW ps ≤ 1048576) :
    Calls Tryz.prog 12 #[.agg #[.int .i64 h.k, .int .i64 h.n, .string h.t, .slice a1 h.keys.length c1, .slice a2 sub.len c2], .slice a ps.length c] w fun e w' => e = dataE h sub ps ∧ Below w.heap.size w w' := by
  obtain ⟨V, hV⟩ : ∃ V, V = w.alloc (.cells #[.int .i64 h.k, .int .i64 h.n, .string h.t, .slice a1 h.keys.length c1, .slice a2 sub.len c2] 26) := ⟨_, rfl⟩
  have B0 : Below w.heap.size w V := by rw [hV]; exact (Below.refl _ _).alloc (Nat.le_refl _) _
  have c0 : V.heap[w.heap.size]? = some (.cells #[.int .i64 h.k, .int .i64 h.n, .string h.t, .slice a1 h.keys.length c1, .slice a2 sub.len c2] 26 (0, 0)) := by rw [hV]; exact heap_alloc_new _ _
  have x0 := fun o => row_cell c0 o
  have zV := (Array.getElem?_eq_some_iff.1 c0).1
  have KV : Hid (∀ W, Below V.heap.size V W → KeRow 0 W.heap.size W a1 h.keys ∧ OuRow 0 W.heap.size W a2 sub ∧ Below w.heap.size w W ∧ W.heap[w.heap.size]? = some (.cells #[.int .i64 h.k, .int .i64 h.n, .string h.t, .slice a1 h.keys.length c1, .slice a2 sub.len c2] 26 (0, 0)) ∧ KeRow 0 W.heap.size W a ps) := fun W hW =>
    have hw := B0.trans (hW.mono B0.size)
    ⟨KeRow.up r1 hw, OuRow.up r2 hw, hw, (hW.block _ zV).trans c0, KeRow.up hp hw⟩
  have HB : Hid _ := hb
  have HS : Hid _ := hs
  have HZ : Hid _ := hz
  have hln := len_sumW ps
  have hln2 : ps.length ≤ 1048576 := by omega
  clear r1 r2 hb hs c0 B0 hp hz hln
  go_enter Tryz.func12, Tryz.ntmps12
  go_upto_region 1 with fail
  rw [← hV]
  clear hV
  by_cases hlong : 4096 < ps.length
  · have HF : Hid (Ending.returned (.tuple #[.string ⟨#[]⟩, .int .i64 2]) = dataE h sub ps) := (dataE_long hlong).symm
    have hlong' : (4096 : Int) < ps.length := by omega
    have HBW : Hid (Below w.heap.size w V) := (KV.out _ (Below.refl _ _)).2.2.1
    clear hlong
    go_wp2_with fail
    go_ret2
    exact ⟨HF.out, HBW.out⟩
  have hlong' : ¬ (4096 : Int) < ps.length := by omega
  have HL : Hid (¬ 4096 < ps.length) := hlong
  go_wp2_with fail
  refine (spec_outOK h sub a1 a2 c1 c2 _ (KV.out _ (Below.refl _ _)).1 hc (KV.out _ (Below.refl _ _)).2.1 HB.out hl HS.out).mono ?_
  rintro e w1 ⟨rfl, hb1⟩
  have HB1 : Hid (Below V.heap.size V w1) := hb1
  have HBW : Hid (Below w.heap.size w w1) := (KV.out _ hb1).2.2.1
  clear hb1 x0
  cases ho : outB 20 h sub
  · have HF : Hid (Ending.returned (.tuple #[.string ⟨#[]⟩, .int .i64 1]) = dataE h sub ps) := (dataE_bad hlong ho).symm
    clear hlong
    go_wp2_with fail
    go_ret2
    exact ⟨HF.out, HBW.out⟩
  have HO : Hid (outB 20 h sub = true) := ho
  clear ho hlong hlong' HBW
  go_wp2_with fail
  go_loopw [6] (fun i w' => ∃ k : Nat, k ≤ ps.length ∧ i = .int .i64 k ∧ Hid (Below V.heap.size V w') ∧ Hid (pathsB ps = (ps.drop k).all pathB)) (fun i _ => ps.length - (intOf i).toNat)
  case atStart => exact ⟨0, by omega, rfl, HB1, rfl⟩
  case round =>
    obtain ⟨wo, rfl⟩ : ∃ x, x = wr := ⟨_, rfl⟩
    obtain ⟨k, hk, rfl, HBo, HD⟩ := hrel
    obtain ⟨q1, q2, q3, q4, q5⟩ := KV.out _ HBo.out
    by_cases hlt : k < ps.length
    · obtain ⟨b, o, ha, _, hbl, ck⟩ := KeRow.cells q5 k hlt
      have hkz : ps[k].size ≤ 1048576 := by have := mem_sumW (List.getElem_mem hlt); have := HZ.out; omega
      have HD1 : Hid (pathsB ps = (pathB ps[k] && (ps.drop (k + 1)).all pathB)) := by rw [Hid, HD.out]; exact allP_drop hlt
      subst ha
      clear q1 q2 q3 q4 q5 HD
      go_wp2_with fail
      refine (spec_path ps[k] _ hkz).mono ?_
      rintro e w2 ⟨rfl, hb2⟩
      have HB2 : Hid (Below V.heap.size V w2) := HBo.out.trans (hb2.mono HBo.out.size)
      clear hb2
      cases hpk : pathB ps[k]
      · have HF : Hid (Ending.returned (.tuple #[.string ⟨#[]⟩, .int .i64 3]) = dataE h sub ps) := (dataE_form HL.out HO.out (by rw [HD1.out, hpk]; rfl)).symm
        have HBW : Hid (Below w.heap.size w w2) := (KV.out _ HB2.out).2.2.1
        go_wp2_with fail
        go_ret2
        exact ⟨HF.out, HBW.out⟩
      · have HF : Hid (pathsB ps = (ps.drop (k + 1)).all pathB) := by rw [Hid, HD1.out, hpk]; rfl
        go_wp2_with fail
        exact ⟨⟨k + 1, by omega, by go_num, HB2, HF⟩, by simp [intOf]; omega⟩
    · obtain rfl : k = ps.length := by omega
      have HE : Hid (Ending.returned (.tuple #[.string (dataT (outT h sub) ps), .int .i64 0]) = dataE h sub ps) := (dataE_ok HL.out HO.out (by rw [HD.out, List.drop_length]; rfl)).symm
      have Q1 : Hid _ := q1
      have Q2 : Hid _ := q2
      have Q3 : Hid _ := q3
      have Q5 : Hid _ := q5
      have x1 := fun o => row_cell q4 o
      clear q1 q2 q3 q4 q5
      go_wp2_with fail
      refine (spec_data h sub a1 a2 a c1 c2 c ps _ Q1.out Q2.out HO.out Q5.out (by have := HL.out; omega) (by have := HZ.out; omega)).mono ?_
      rintro e w2 ⟨rfl, hb2⟩
      have HBW : Hid (Below w.heap.size w w2) := Q3.out.trans (hb2.mono Q3.out.size)
      clear hb2 x1
      go_wp2_with fail
      go_ret2
      exact ⟨HE.out, HBW.out⟩
end Go.Proofs.YtoaeggfnlenjkaaGreatDoor.G
namespace Go.Proofs.YtoaeggfnlenjkaaGreatDoor
open Go.ChangeShapes Go.WideShapes Go.ChangeAt Go.RowKit Go.Proofs.YtoaeggfnlenjkaaGreatDoor.G
set_option linter.unusedVariables false

/-- What the library's variables that are read hold. -/
def Vars (w : World) : Prop := Lib.TabIs Tryz.prog w "internal/strconv.uint64pow10" .u64 Lib.pow10Tab ∧ (∃ tp p, w.var? Tryz.prog "strconv.ErrSyntax" = some #[.iface tp p]) ∧ ∃ tp p, w.var? Tryz.prog "strconv.ErrRange" = some #[.iface tp p]
theorem var_up {w w' : World} {n : String} {cs : Array Value} (h : w.var? Tryz.prog n = some cs) (hb : Below w.heap.size w w') : w'.var? Tryz.prog n = some cs := by
  unfold World.var? at h ⊢
  cases hg : Tryz.prog.globalNamed n with
  | none => rw [hg] at h; cases h
  | some g =>
    rw [hg] at h
    simp only [Option.bind_some] at h ⊢
    have pos : g < w.heap.size := by
      split at h
      · rename_i hh; exact (Array.getElem?_eq_some_iff.1 hh).1
      · cases h
    rw [hb.block g pos]
    exact h
theorem Vars.up {w w' : World} (h : Vars w) (hb : Below w.heap.size w w') : Vars w' := by
  obtain ⟨h1, ⟨t2, p2, h2⟩, ⟨t3, p3, h3⟩⟩ := h
  exact ⟨var_up h1 hb, ⟨t2, p2, var_up h2 hb⟩, ⟨t3, p3, var_up h3 hb⟩⟩
theorem atoi_any (T : ByteArray) (w : World) (hs : T.size ≤ 1048576) (hv : Vars w) :
    Calls Tryz.prog 157 #[.string T] w fun e w' => ((∃ v, Lib.atoiAll T.toList = .ok v ∧ e = .returned (.tuple #[.int .i64 v, .nilIface])) ∨ ((∀ v, Lib.atoiAll T.toList ≠ .ok v) ∧ ∃ n N, e = .returned (.tuple #[.int .i64 n, .iface 241 (.pointer (some ⟨N, 0, none⟩))]))) ∧ Below w.heap.size w w' := by
  obtain ⟨h1, ⟨t2, p2, h2⟩, ⟨t3, p3, h3⟩⟩ := hv
  rw [ByteArray.toList_eq]
  cases h : Lib.atoiAll T.data.toList
  · rename_i v
    refine (Tryz.strconv_Atoi_ok T (by omega) v h w).mono ?_
    rintro e w1 ⟨rfl, hw⟩
    refine ⟨.inl ⟨v, rfl, rfl⟩, ?_⟩
    rcases hw with rfl | ⟨t, rfl⟩
    · exact Below.refl _ _
    · exact Lib.bytesWorld_below _ _ _
  · refine (Any.strconv_Atoi_syntax_var Tryz.laysC172 T (by omega) h t2 p2 w h2).mono ?_
    rintro e w1 ⟨N, rfl, _, _, hb⟩
    exact ⟨.inr ⟨fun v hv => by (cases hv), 0, N, rfl⟩, hb⟩
  · refine (Tryz.strconv_Atoi_range_var T (by omega) h t3 p3 w h3).mono ?_
    rintro e w1 ⟨N, rfl, _, _, hb⟩
    exact ⟨.inr ⟨fun v hv => by (cases hv), _, N, rfl⟩, hb⟩

theorem grow_below (w : World) (k : Nat) (os : Array Obj) : Below w.heap.size w (Sort.grow (w.drewN k) os) := by
  refine ⟨rfl, rfl, rfl, ?_, ?_⟩
  · show w.heap.size ≤ ((w.drewN k).heap ++ os).size
    have : (w.drewN k).heap = w.heap := rfl
    rw [this]; simp
  · intro i hi
    show ((w.drewN k).heap ++ os)[i]? = w.heap[i]?
    have : (w.drewN k).heap = w.heap := rfl
    rw [this, Array.getElem?_append_left hi]
theorem itoa_any (n : Int) (w : World) (h0 : -9223372036854775808 ≤ n) (h1 : n ≤ 9223372036854775807) (hp : Vars w) :
    Calls Tryz.prog 74 #[.int .i64 n] w fun e w' => e = .returned (.string ⟨(Lib.itoa n).toArray⟩) ∧ Below w.heap.size w w' := by
  refine (Tryz.strconv_Itoa n h0 h1 w hp.1).mono ?_
  rintro e w1 ⟨rfl, k, os, rfl⟩
  exact ⟨rfl, grow_below w k os⟩

/-- What the program makes of a text that begins as a number. -/
def numTok (l : List UInt8) : Tk := match Lib.atoiAll l with
  | .ok n => if Lib.itoa n = l then ⟨2, n, ⟨#[]⟩⟩ else ⟨0, 0, ⟨#[]⟩⟩
  | _ => ⟨0, 0, ⟨#[]⟩⟩
theorem numTok_ok {l : List UInt8} {v : Int} (h : Lib.atoiAll l = .ok v) (he : Lib.itoa v = l) : numTok l = ⟨2, v, ⟨#[]⟩⟩ := by unfold numTok; rw [h]; simp [he]
theorem numTok_no {l : List UInt8} {v : Int} (h : Lib.atoiAll l = .ok v) (he : ¬ Lib.itoa v = l) : numTok l = ⟨0, 0, ⟨#[]⟩⟩ := by unfold numTok; rw [h]; simp [he]
theorem numTok_bad {l : List UInt8} (h : ∀ v, Lib.atoiAll l ≠ .ok v) : numTok l = ⟨0, 0, ⟨#[]⟩⟩ := by
  unfold numTok
  split
  · rename_i v hv; exact absurd hv (h v)
  · rfl
theorem tok_num (l : List UInt8) : (tokB (numTok l).k (numTok l).n (numTok l).t = true → numT l = some (numTok l).n ∧ (numTok l).k = 2 ∧ (numTok l).t = ⟨#[]⟩) ∧ (tokB (numTok l).k (numTok l).n (numTok l).t = false → numT l = none) := by
  have e0 : tokB 0 0 ⟨#[]⟩ = false := by decide
  have e2 : ∀ v, tokB 2 v ⟨#[]⟩ = intB v := by
    intro v; unfold tokB
    rw [if_neg (by omega), if_pos rfl]
    simp [ByteArray.toList_eq]
  by_cases h : ∃ v, Lib.atoiAll l = .ok v
  · obtain ⟨v, hv⟩ := h
    by_cases he : Lib.itoa v = l
    · rw [numTok_ok hv he]
      simp only [e2]
      unfold numT
      rw [hv]
      constructor
      · intro hi; simp [he, hi]
      · intro hi; simp [hi]
    · rw [numTok_no hv he]
      simp only [e0]
      refine ⟨fun h => by (cases h), fun _ => ?_⟩
      unfold numT; rw [hv]; simp [he]
  · have hb : ∀ v, Lib.atoiAll l ≠ .ok v := fun v hv => h ⟨v, hv⟩
    rw [numTok_bad hb]
    simp only [e0]
    refine ⟨fun h => by (cases h), fun _ => ?_⟩
    unfold numT
    split
    · rename_i v hv; exact absurd hv (hb v)
    · rfl
theorem results35_row (tmps : Array Value) (W : World) (N : Nat) (cs : Array Value) (h2 : tmps.getD 2 undef = .pointer (some ⟨N, 0, none⟩)) (hrow : W.heap[N]? = some (.cells cs 174 (0, 0))) (hsz : cs.size = 3) :
    (results Tryz.f136 tmps).run Tryz.prog W = .ok (.agg cs) W := by
  have c39 : (Tryz.prog.info? 174).map (·.size) = some 3 := by kernel_rfl
  exact results_cell_row Tryz.results136 tmps W N 174 cs (0, 0) _ h2 hrow Tryz.underlying174 rfl (by rw [hsz]; exact c39)

set_option maxHeartbeats 1000000 in
theorem number_tok (T : ByteArray) (w : World) (hs : T.size ≤ 1048576) (hv : Vars w) :
    Calls Tryz.prog 136 #[.string T] w fun e w' => e = .returned (.agg #[.int .i64 (numTok T.toList).k, .int .i64 (numTok T.toList).n, .string (numTok T.toList).t]) ∧ Below w.heap.size w w' := by
  have HV : Hid (Vars w) := hv
  clear hv
  go_enter Tryz.func136, Tryz.ntmps136
  go_wp2_with fail
  have HV1 : Hid (Vars (w.alloc (.cells #[.int .i64 0, .int .i64 0, .string ⟨#[]⟩] 174))) := HV.out.up ((Below.refl _ _).alloc (Nat.le_refl _) _)
  refine (atoi_any T _ hs HV1.out).mono ?_
  rintro e w1 ⟨hcase, hb1⟩
  have hz1 : w.heap.size + 1 ≤ w1.heap.size := by have := hb1.size; simpa using this
  have hrow : Hid (w1.heap[w.heap.size]? = some (.cells #[.int .i64 0, .int .i64 0, .string ⟨#[]⟩] 174 (0, 0))) := (hb1.block _ (by simp)).trans (heap_alloc_new _ _)
  have q1 : Below w.heap.size w w1 := ((Below.refl _ _).alloc (Nat.le_refl _) _).trans (hb1.mono (by simp))
  rcases hcase with ⟨v, hv, rfl⟩ | ⟨hbad, n, N, rfl⟩
  · have hb := Lib.atoiAll_bounds hv
    have HV2 : Hid (Vars w1) := HV.out.up q1
    by_cases he : Lib.itoa v = T.toList
    · have HT : Hid (numTok T.toList = ⟨2, v, ⟨#[]⟩⟩) := numTok_ok hv he
      have he' : ((⟨(Lib.itoa v).toArray⟩ : ByteArray).toList == T.toList) = true := by rw [ByteArray.toList_mk, he]; simp
      have HI : Hid (Calls Tryz.prog 74 #[.int .i64 v] w1 fun e w' => e = .returned (.string ⟨(Lib.itoa v).toArray⟩) ∧ Below w1.heap.size w1 w') := itoa_any v w1 hb.1 hb.2 HV2.out
      clear hv he
      generalize (⟨(Lib.itoa v).toArray⟩ : ByteArray) = S at *
      go_wp2_with fail
      refine HI.out.mono ?_
      rintro e w2 ⟨rfl, hb2⟩
      have hrow2 : Hid (w2.heap[w.heap.size]? = some (.cells #[.int .i64 0, .int .i64 0, .string ⟨#[]⟩] 174 (0, 0))) := (hb2.block _ (by omega)).trans hrow.out
      have d0 := row_cell hrow2.out 0
      have d1 := row_cell hrow2.out 1
      have d2 := row_cell hrow2.out 2
      have g0 := row_frozen hrow2.out 0
      have g1 := row_frozen hrow2.out 1
      have g2 := row_frozen hrow2.out 2
      simp at d0 d1 d2
      have q2 := q1.trans (hb2.mono q1.size)
      go_wp2_with fail
      refine bodyPost_ret (v := .agg #[.int .i64 2, .int .i64 v, .string ⟨#[]⟩]) (results35_row _ _ w.heap.size _ rfl (row_set (row_set (row_set hrow2.out _ _) _ _) _ _) rfl) rfl ⟨by rw [HT.out], ?_⟩
      refine Below.setCell ?_ (by simp) _
      refine Below.setCell ?_ (by simp) _
      refine Below.setCell ?_ (by simp) _
      exact q2
    · have HT : Hid (numTok T.toList = ⟨0, 0, ⟨#[]⟩⟩) := numTok_no hv he
      have he' : ((⟨(Lib.itoa v).toArray⟩ : ByteArray).toList == T.toList) = false := by rw [ByteArray.toList_mk]; simpa using he
      have HI : Hid (Calls Tryz.prog 74 #[.int .i64 v] w1 fun e w' => e = .returned (.string ⟨(Lib.itoa v).toArray⟩) ∧ Below w1.heap.size w1 w') := itoa_any v w1 hb.1 hb.2 HV2.out
      clear hv he
      generalize (⟨(Lib.itoa v).toArray⟩ : ByteArray) = S at *
      go_wp2_with fail
      refine HI.out.mono ?_
      rintro e w2 ⟨rfl, hb2⟩
      have hrow2 : Hid (w2.heap[w.heap.size]? = some (.cells #[.int .i64 0, .int .i64 0, .string ⟨#[]⟩] 174 (0, 0))) := (hb2.block _ (by omega)).trans hrow.out
      have d0 := row_cell hrow2.out 0
      have d1 := row_cell hrow2.out 1
      have d2 := row_cell hrow2.out 2
      have g0 := row_frozen hrow2.out 0
      have g1 := row_frozen hrow2.out 1
      have g2 := row_frozen hrow2.out 2
      simp at d0 d1 d2
      have q2 := q1.trans (hb2.mono q1.size)
      go_wp2_with fail
      refine bodyPost_ret (v := .agg #[.int .i64 0, .int .i64 0, .string ⟨#[]⟩]) (results35_row _ _ w.heap.size _ rfl (row_set (row_set (row_set hrow2.out _ _) _ _) _ _) rfl) rfl ⟨by rw [HT.out], ?_⟩
      refine Below.setCell ?_ (by simp) _
      refine Below.setCell ?_ (by simp) _
      refine Below.setCell ?_ (by simp) _
      exact q2
  · have HT : Hid (numTok T.toList = ⟨0, 0, ⟨#[]⟩⟩) := numTok_bad hbad
    clear hbad
    have d0 := row_cell hrow.out 0
    have d1 := row_cell hrow.out 1
    have d2 := row_cell hrow.out 2
    have g0 := row_frozen hrow.out 0
    have g1 := row_frozen hrow.out 1
    have g2 := row_frozen hrow.out 2
    simp at d0 d1 d2
    go_wp2_with fail
    refine bodyPost_ret (v := .agg #[.int .i64 0, .int .i64 0, .string ⟨#[]⟩]) (results35_row _ _ w.heap.size _ rfl (row_set (row_set (row_set hrow.out _ _) _ _) _ _) rfl) rfl ⟨by rw [HT.out], ?_⟩
    refine Below.setCell ?_ (by simp) _
    refine Below.setCell ?_ (by simp) _
    refine Below.setCell ?_ (by simp) _
    exact q1
end Go.Proofs.YtoaeggfnlenjkaaGreatDoor
namespace Go.Proofs.YtoaeggfnlenjkaaGreatDoor.G
open Go.ChangeShapes Go.WideShapes Go.ChangeAt Go.RowKit
set_option linter.unusedVariables false

/-- Where the first point lies: none, or at i, and none ahead of it. -/
theorem index_at : ∀ l : List UInt8, (Lib.indexByte l 46 = -1 ∧ ∀ c ∈ l, c ≠ 46) ∨ ∃ p r, l = p ++ 46 :: r ∧ Lib.indexByte l 46 = p.length ∧ ∀ c ∈ p, c ≠ 46
  | [] => .inl ⟨rfl, by simp⟩
  | b :: l => by
    rw [Lib.indexByte]
    by_cases hb : b = 46
    · subst hb
      exact .inr ⟨[], l, rfl, by simp, by simp⟩
    · rw [if_neg (by simpa using hb)]
      rcases index_at l with ⟨h1, h2⟩ | ⟨p, r, rfl, h2, h3⟩
      · refine .inl ⟨by rw [h1]; rfl, ?_⟩
        intro c hc
        rcases List.mem_cons.1 hc with rfl | hc
        · exact hb
        · exact h2 c hc
      · refine .inr ⟨b :: p, r, rfl, ?_, ?_⟩
        · rw [h2, if_neg (by simp)]; simp
        · intro c hc
          rcases List.mem_cons.1 hc with rfl | hc
          · exact hb
          · exact h3 c hc
/-- What strings.Cut at a point answers. -/
def CutV (s part rest : ByteArray) (more : Bool) : Prop := (more = false ∧ part = s ∧ pathB s = partB s) ∨ (more = true ∧ pathB s = (partB part && pathB rest) ∧ rest.size < s.size ∧ part.size ≤ s.size)
theorem path_none {s : ByteArray} (h : ∀ c ∈ s.toList, c ≠ 46) : pathB s = partB s := by
  unfold pathB; rw [splitL_none h]; simp [partL_of]
theorem path_cut {s : ByteArray} {i : Nat} {p r : List UInt8} (hs : s.toList = p ++ 46 :: r) (hi : i = p.length) (hp : ∀ c ∈ p, c ≠ 46) : pathB s = (partB (s.extract 0 i) && pathB (s.extract (i + 1) s.size)) := by
  have hlen : s.size = p.length + (r.length + 1) := by have := congrArg List.length hs; rw [toList_len] at this; simpa using this
  have e1 : (s.extract 0 i).toList = p := by rw [toList_extract, hs, hi]; simp
  have e2 : (s.extract (i + 1) s.size).toList = r := by
    rw [toList_extract, hs, hi, show p ++ 46 :: r = (p ++ [46]) ++ r by simp, List.drop_left' (by simp), List.take_of_length_le (by omega)]
  unfold pathB
  rw [e2, hs, splitL_cut hp, List.all_cons, ← partL_of, e1]
set_option maxHeartbeats 2000000 in
theorem lite_cut (s : ByteArray) (w : World) (hs : s.size ≤ 1048576) :
    Calls Tryz.prog 133 #[.string s, .string ⟨#[46]⟩] w fun e w' => ∃ part rest more, e = .returned (.tuple #[.string part, .string rest, .bool more]) ∧ CutV s part rest more ∧ Below w.heap.size w w' := by
  have key := index_at s.toList
  rw [ByteArray.toList_eq] at key
  rcases key with ⟨h1, h2⟩ | ⟨p, r, h1, h2, h3⟩
  · have HC : Hid (pathB s = partB s) := path_none (by rw [ByteArray.toList_eq]; exact h2)
    have HI := Tryz.stringslite_Index_one s 46
    rw [h1] at HI
    clear h1 h2
    go_enter Tryz.func133, Tryz.ntmps133
    go_wp2_with fail
    refine (HI _).mono ?_
    rintro e w1 ⟨rfl, rfl⟩
    clear HI
    go_wp2_with fail
    go_ret3
    exact ⟨s, ⟨#[]⟩, false, rfl, .inl ⟨rfl, rfl, HC.out⟩, Below.refl _ _⟩
  · have hlen : s.size = p.length + (r.length + 1) := by have := congrArg List.length h1; simpa using this
    obtain ⟨i, hi⟩ : ∃ i, i = p.length := ⟨_, rfl⟩
    have HC : Hid (pathB s = (partB (s.extract 0 i) && pathB (s.extract (i + 1) s.size))) := path_cut (by rw [ByteArray.toList_eq]; exact h1) hi h3
    have HI := Tryz.stringslite_Index_one s 46
    rw [h2, ← hi] at HI
    have HII : Hid _ := HI
    have hi1 : i + 1 ≤ s.size := by omega
    have hi2 : (i : Int) + 1 ≤ s.size := by omega
    have hi3 : (i : Int) ≤ s.size := by omega
    have m1 : (⟨#[46]⟩ : ByteArray).size = 1 := rfl
    clear h1 h2 h3 HI hlen hi
    go_enter Tryz.func133, Tryz.ntmps133
    go_wp2_with fail
    refine (HII.out _).mono ?_
    rintro e w1 ⟨rfl, rfl⟩
    go_upto_region 3 with fail
    go_quiet (fail)
    go_wp2_with fail
    go_ret3
    refine ⟨s.extract 0 i, s.extract (i + 1) s.size, true, rfl, .inr ⟨rfl, HC.out, ?_, ?_⟩, ?_⟩
    · rw [ByteArray.size_extract]; omega
    · rw [ByteArray.size_extract]; omega
    · exact ⟨rfl, rfl, rfl, Nat.le_refl _, fun _ _ => rfl⟩
set_option maxHeartbeats 1000000 in
theorem str_cut (s : ByteArray) (w : World) (hs : s.size ≤ 1048576) :
    Calls Tryz.prog 112 #[.string s, .string ⟨#[46]⟩] w fun e w' => ∃ part rest more, e = .returned (.tuple #[.string part, .string rest, .bool more]) ∧ CutV s part rest more ∧ Below w.heap.size w w' := by
  go_enter Tryz.func112, Tryz.ntmps112
  go_wp2_with fail
  refine (lite_cut s _ hs).mono ?_
  rintro e w1 ⟨part, rest, more, rfl, hc, hb⟩
  have HC : Hid _ := hc
  have HB : Hid _ := hb
  clear hc hb
  go_wp2_with fail
  go_ret3
  exact ⟨part, rest, more, rfl, HC.out, HB.out⟩
theorem place_of (l : List UInt8) : placeB l = (decide (0 ≤ (numTok l).n) && tokB (numTok l).k (numTok l).n (numTok l).t) := by
  obtain ⟨h1, h2⟩ := tok_num l
  unfold placeB
  cases ht : tokB (numTok l).k (numTok l).n (numTok l).t
  · rw [h2 ht]; simp
  · rw [(h1 ht).1]; simp
theorem numTok_t (l : List UInt8) : (numTok l).t = ⟨#[]⟩ := by
  unfold numTok
  split
  · split <;> rfl
  · rfl
set_option maxHeartbeats 2000000 in
theorem impl_place (s : ByteArray) (w : World) (hs : s.size ≤ 1048576) (hv : Vars w) :
    Calls Tryz.prog 114 #[.string s] w fun e w' => e = .returned (.bool (placeB s.toList)) ∧ Below w.heap.size w w' := by
  have HV : Hid _ := hv
  have HP : Hid (placeB s.toList = (decide (0 ≤ (numTok s.toList).n) && tokB (numTok s.toList).k (numTok s.toList).n (numTok s.toList).t)) := place_of s.toList
  have htz : (numTok s.toList).t.size ≤ maxLen := by rw [numTok_t]; decide
  clear hv
  go_enter Tryz.func114, Tryz.ntmps114
  go_wp2_with fail
  refine (number_tok s _ hs HV.out).mono ?_
  rintro e w1 ⟨rfl, hb1⟩
  have HB1 : Hid _ := hb1
  clear hb1 HV
  generalize numTok s.toList = q at *
  obtain ⟨U, hU⟩ : ∃ X, X = w1.alloc (.cells #[.int .i64 q.k, .int .i64 q.n, .string q.t] 174) := ⟨_, rfl⟩
  have BU : Below w1.heap.size w1 U := by rw [hU]; exact (Below.refl _ _).alloc (Nat.le_refl _) _
  have c0 : U.heap[w1.heap.size]? = some (.cells #[.int .i64 q.k, .int .i64 q.n, .string q.t] 174 (0, 0)) := by rw [hU]; exact heap_alloc_new _ _
  have x0 := fun o => row_cell c0 o
  have HBU : Hid (Below w.heap.size w U) := HB1.out.trans (BU.mono HB1.out.size)
  clear BU c0
  by_cases hn : 0 ≤ q.n
  · have HF : Hid (tokB q.k q.n q.t = placeB s.toList) := by rw [Hid, HP.out, decide_eq_true hn]; rfl
    go_upto_region 2 with fail
    rw [← hU]
    clear hU
    go_wp2_with fail
    refine (impl_tokOK q.k q.n q.t _ htz).mono ?_
    rintro e w2 ⟨rfl, hb2⟩
    have HB2 : Hid (Below w.heap.size w w2) := HBU.out.trans (hb2.mono HBU.out.size)
    clear hb2 x0
    go_wp2_with fail
    go_ret
    exact ⟨ret_bool HF.out, HB2.out⟩
  · have HF : Hid (false = placeB s.toList) := by rw [Hid, HP.out, decide_eq_false hn]; rfl
    go_upto_region 2 with fail
    rw [← hU]
    clear hU
    go_wp2_with fail
    go_ret
    exact ⟨ret_bool HF.out, HBU.out⟩
def szV : Value → Nat | .string r => r.size | _ => 0
set_option maxHeartbeats 4000000 in
theorem impl_path (s : ByteArray) (w : World) (hs : s.size ≤ 1048576) (hv : Vars w) :
    Calls Tryz.prog 83 #[.string s] w fun e w' => e = .returned (.bool (pathB s)) ∧ Below w.heap.size w w' := by
  have HV : Hid (∀ W, Below w.heap.size w W → Vars W) := fun W hW => hv.up hW
  clear hv
  go_enter Tryz.func83, Tryz.ntmps83
  go_wp2_with fail
  go_loopw [0] (fun v w' => ∃ r : ByteArray, v = .string r ∧ r.size ≤ s.size ∧ Hid (Below w.heap.size w w') ∧ Hid (pathB s = pathB r)) (fun v _ => szV v)
  case atStart => exact ⟨s, rfl, Nat.le_refl _, Below.refl _ _, rfl⟩
  case round =>
    obtain ⟨wo, rfl⟩ : ∃ x, x = wr := ⟨_, rfl⟩
    obtain ⟨r, rfl, hr, HB, HD⟩ := hrel
    go_wp2_with fail
    refine (str_cut r _ (by omega)).mono ?_
    rintro e w1 ⟨part, rest, more, rfl, hc, hb1⟩
    have HB1 : Hid (Below w.heap.size w w1) := HB.out.trans (hb1.mono HB.out.size)
    clear hb1
    rcases hc with ⟨rfl, rfl, hcc⟩ | ⟨rfl, hcc, hlt, hpz⟩
    · cases hnb : nameB part
      · go_wp2_with fail
        refine (impl_nameOK part _ (by unfold maxLen; omega)).mono ?_
        rintro e w2 ⟨rfl, hb2⟩
        have HB2 : Hid (Below w.heap.size w w2) := HB1.out.trans (hb2.mono HB1.out.size)
        clear hb2
        rw [hnb]
        cases hpl : placeB part.toList
        · have HF : Hid (false = pathB s) := by rw [Hid, HD.out, hcc]; unfold partB; rw [hnb, hpl]; rfl
          go_wp2_with fail
          refine (impl_place part _ (by omega) (HV.out _ HB2.out)).mono ?_
          rintro e w3 ⟨rfl, hb3⟩
          have HB3 : Hid (Below w.heap.size w w3) := HB2.out.trans (hb3.mono HB2.out.size)
          clear hb3
          rw [hpl]
          go_wp2_with fail
          go_ret
          exact ⟨ret_bool HF.out, HB3.out⟩
        · have HF : Hid (true = pathB s) := by rw [Hid, HD.out, hcc]; unfold partB; rw [hnb, hpl]; rfl
          go_wp2_with fail
          refine (impl_place part _ (by omega) (HV.out _ HB2.out)).mono ?_
          rintro e w3 ⟨rfl, hb3⟩
          have HB3 : Hid (Below w.heap.size w w3) := HB2.out.trans (hb3.mono HB2.out.size)
          clear hb3
          rw [hpl]
          go_wp2_with fail
          go_ret
          exact ⟨ret_bool HF.out, HB3.out⟩
      · have HF : Hid (true = pathB s) := by rw [Hid, HD.out, hcc]; unfold partB; rw [hnb]; rfl
        go_wp2_with fail
        refine (impl_nameOK part _ (by unfold maxLen; omega)).mono ?_
        rintro e w2 ⟨rfl, hb2⟩
        have HB2 : Hid (Below w.heap.size w w2) := HB1.out.trans (hb2.mono HB1.out.size)
        clear hb2
        rw [hnb]
        go_wp2_with fail
        go_ret
        exact ⟨ret_bool HF.out, HB2.out⟩
    · cases hnb : nameB part
      · go_wp2_with fail
        refine (impl_nameOK part _ (by unfold maxLen; omega)).mono ?_
        rintro e w2 ⟨rfl, hb2⟩
        have HB2 : Hid (Below w.heap.size w w2) := HB1.out.trans (hb2.mono HB1.out.size)
        clear hb2
        rw [hnb]
        cases hpl : placeB part.toList
        · have HF : Hid (false = pathB s) := by rw [Hid, HD.out, hcc]; unfold partB; rw [hnb, hpl]; rfl
          go_wp2_with fail
          refine (impl_place part _ (by omega) (HV.out _ HB2.out)).mono ?_
          rintro e w3 ⟨rfl, hb3⟩
          have HB3 : Hid (Below w.heap.size w w3) := HB2.out.trans (hb3.mono HB2.out.size)
          clear hb3
          rw [hpl]
          go_wp2_with fail
          go_ret
          exact ⟨ret_bool HF.out, HB3.out⟩
        · have HF : Hid (pathB s = pathB rest) := by rw [Hid, HD.out, hcc]; unfold partB; rw [hnb, hpl]; rfl
          go_wp2_with fail
          refine (impl_place part _ (by omega) (HV.out _ HB2.out)).mono ?_
          rintro e w3 ⟨rfl, hb3⟩
          have HB3 : Hid (Below w.heap.size w w3) := HB2.out.trans (hb3.mono HB2.out.size)
          clear hb3
          rw [hpl]
          go_wp2_with fail
          exact ⟨⟨rest, rfl, by omega, HB3, HF⟩, hlt⟩
      · have HF : Hid (pathB s = pathB rest) := by rw [Hid, HD.out, hcc]; unfold partB; rw [hnb]; rfl
        go_wp2_with fail
        refine (impl_nameOK part _ (by unfold maxLen; omega)).mono ?_
        rintro e w2 ⟨rfl, hb2⟩
        have HB2 : Hid (Below w.heap.size w w2) := HB1.out.trans (hb2.mono HB1.out.size)
        clear hb2
        rw [hnb]
        go_wp2_with fail
        exact ⟨⟨rest, rfl, by omega, HB2, HF⟩, hlt⟩
set_option maxHeartbeats 2000000 in
theorem impl_paths (a : Option Addr) (c : Nat) (ps : List ByteArray) (w : World) (hp : KeRow 0 w.heap.size w a ps) (hz : sumW ps ≤ 1048576) (hv : Vars w) :
    Calls Tryz.prog 40 #[.slice a ps.length c] w fun e w' => e = .returned (.bool (pathsB ps)) ∧ Below w.heap.size w w' := by
  have HV : Hid (∀ W, Below w.heap.size w W → Vars W ∧ KeRow 0 W.heap.size W a ps) := fun W hW => ⟨hv.up hW, KeRow.up hp hW⟩
  have HZ : Hid _ := hz
  have hln := len_sumW ps
  have hln2 : ps.length ≤ 1048576 := by omega
  clear hv hp hz hln
  go_enter Tryz.func40, Tryz.ntmps40
  go_wp2_with fail
  go_loopw [7] (fun i w' => ∃ k : Nat, k ≤ ps.length ∧ i = .int .i64 k ∧ Hid (Below w.heap.size w w') ∧ Hid (pathsB ps = (ps.drop k).all pathB)) (fun i _ => ps.length - (intOf i).toNat)
  case atStart => exact ⟨0, by omega, rfl, Below.refl _ _, rfl⟩
  case round =>
    obtain ⟨wo, rfl⟩ : ∃ x, x = wr := ⟨_, rfl⟩
    obtain ⟨k, hk, rfl, HB, HD⟩ := hrel
    obtain ⟨q1, q5⟩ := HV.out _ HB.out
    by_cases hlt : k < ps.length
    · obtain ⟨b, o, ha, _, hbl, ck⟩ := KeRow.cells q5 k hlt
      have hkz : ps[k].size ≤ 1048576 := by have := mem_sumW (List.getElem_mem hlt); have := HZ.out; omega
      have HD1 : Hid (pathsB ps = (pathB ps[k] && (ps.drop (k + 1)).all pathB)) := by rw [Hid, HD.out, List.drop_eq_getElem_cons hlt, List.all_cons]
      have Q1 : Hid _ := q1
      have hlt' : (k : Int) < ps.length := by omega
      subst ha
      clear q1 q5 HD
      go_wp2_with fail
      refine (impl_path ps[k] _ hkz Q1.out).mono ?_
      rintro e w2 ⟨rfl, hb2⟩
      have HB2 : Hid (Below w.heap.size w w2) := HB.out.trans (hb2.mono HB.out.size)
      clear hb2
      cases hpk : pathB ps[k]
      · have HF : Hid (false = pathsB ps) := by rw [Hid, HD1.out, hpk]; rfl
        go_wp2_with fail
        go_ret
        exact ⟨ret_bool HF.out, HB2.out⟩
      · have HF : Hid (pathsB ps = (ps.drop (k + 1)).all pathB) := by rw [Hid, HD1.out, hpk]; rfl
        go_wp2_with fail
        exact ⟨⟨k + 1, by omega, by go_num, HB2, HF⟩, by simp [intOf]; omega⟩
    · obtain rfl : k = ps.length := by omega
      have HE : Hid (true = pathsB ps) := by rw [Hid, HD.out, List.drop_length]; rfl
      clear q1 q5
      go_wp2_with fail
      go_ret
      exact ⟨ret_bool HE.out, HB.out⟩
end Go.Proofs.YtoaeggfnlenjkaaGreatDoor.G
