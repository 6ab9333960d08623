/- The program's reader: numbers. -/
import Derived.Test.YtnfoinmccigdfaaGreatDoorLexImplD
namespace Go.Proofs.YtnfoinmccigdfaaGreatDoor
open Go.ChangeShapes Go.WideShapes Go.ChangeAt Go.RowKit
set_option linter.unusedVariables false

/-- What the library's variables that are read hold. -/
def Vars (w : World) : Prop := Lib.TabIs Tryz.prog w "internal/strconv.uint64pow10" .u64 Lib.pow10Tab ∧ (∃ tp p, w.var? Tryz.prog "strconv.ErrSyntax" = some #[.iface tp p]) ∧ ∃ tp p, w.var? Tryz.prog "strconv.ErrRange" = some #[.iface tp p]
theorem gPow : Tryz.prog.globalNamed "internal/strconv.uint64pow10" = some 2 := by kernel_rfl
theorem gSyn : Tryz.prog.globalNamed "strconv.ErrSyntax" = some 0 := by kernel_rfl
theorem gRan : Tryz.prog.globalNamed "strconv.ErrRange" = some 1 := by kernel_rfl
theorem Vars.lt {w : World} (h : Vars w) : 2 < w.heap.size := by
  have h := h.1
  unfold Lib.TabIs World.var? at h
  rw [gPow] at h
  simp only [Option.bind_some] at h
  split at h
  · rename_i hh; exact (Array.getElem?_eq_some_iff.1 hh).1
  · cases h
theorem Vars.keep {w w' : World} (h : Vars w) (hk : ∀ g, g ≤ 2 → w'.heap[g]? = w.heap[g]?) : Vars w' := by
  obtain ⟨h1, ⟨t2, p2, h2⟩, ⟨t3, p3, h3⟩⟩ := h
  refine ⟨?_, ⟨t2, p2, ?_⟩, ⟨t3, p3, ?_⟩⟩
  · unfold Lib.TabIs World.var? at h1 ⊢
    rw [gPow] at h1 ⊢
    simp only [Option.bind_some] at h1 ⊢
    rw [hk 2 (by omega)]; exact h1
  · unfold World.var? at h2 ⊢
    rw [gSyn] at h2 ⊢
    simp only [Option.bind_some] at h2 ⊢
    rw [hk 0 (by omega)]; exact h2
  · unfold World.var? at h3 ⊢
    rw [gRan] at h3 ⊢
    simp only [Option.bind_some] at h3 ⊢
    rw [hk 1 (by omega)]; exact h3
theorem Vars.below {w w' : World} {B : Nat} (h : Vars w) (hb : Below B w w') (hB : 2 < B) : Vars w' := h.keep fun g hg => hb.block g (by omega)
theorem Vars.grown {w w' : World} {L : Nat} (h : Vars w) (hg : w.grownBy w' (some L)) (hL : 2 < L) : Vars w' :=
  h.keep fun g hl => hg.block g (by have := h.lt; omega) (by intro e; simp only [Option.some.injEq] at e; omega)

theorem Vars.up {w w' : World} (h : Vars w) (hb : Below w.heap.size w w') : Vars w' := h.below hb h.lt
theorem atoi_any (T : ByteArray) (w : World) (hs : T.size ≤ 1048576) (hv : Vars w) :
    Calls Tryz.prog 82 #[.string T] w fun e w' => ((∃ v, Lib.atoiAll T.toList = .ok v ∧ e = .returned (.tuple #[.int .i64 v, .nilIface])) ∨ ((∀ v, Lib.atoiAll T.toList ≠ .ok v) ∧ ∃ n N, e = .returned (.tuple #[.int .i64 n, .iface 118 (.pointer (some ⟨N, 0, none⟩))]))) ∧ Below w.heap.size w w' := by
  obtain ⟨h1, ⟨t2, p2, h2⟩, ⟨t3, p3, h3⟩⟩ := hv
  rw [ByteArray.toList_eq]
  cases h : Lib.atoiAll T.data.toList
  · rename_i v
    refine (Tryz.strconv_Atoi_ok T (by omega) v h w).mono ?_
    rintro e w1 ⟨rfl, hw⟩
    refine ⟨.inl ⟨v, rfl, rfl⟩, ?_⟩
    rcases hw with rfl | ⟨t, rfl⟩
    · exact Below.refl _ _
    · exact Lib.bytesWorld_below _ _ _
  · refine (Any.strconv_Atoi_syntax_var Tryz.laysC172 T (by omega) h t2 p2 w h2).mono ?_
    rintro e w1 ⟨N, rfl, _, _, hb⟩
    exact ⟨.inr ⟨fun v hv => by (cases hv), 0, N, rfl⟩, hb⟩
  · refine (Tryz.strconv_Atoi_range_var T (by omega) h t3 p3 w h3).mono ?_
    rintro e w1 ⟨N, rfl, _, _, hb⟩
    exact ⟨.inr ⟨fun v hv => by (cases hv), _, N, rfl⟩, hb⟩

theorem grow_below (w : World) (k : Nat) (os : Array Obj) : Below w.heap.size w (Sort.grow (w.drewN k) os) := by
  refine ⟨rfl, rfl, rfl, ?_, ?_⟩
  · show w.heap.size ≤ ((w.drewN k).heap ++ os).size
    have : (w.drewN k).heap = w.heap := rfl
    rw [this]; simp
  · intro i hi
    show ((w.drewN k).heap ++ os)[i]? = w.heap[i]?
    have : (w.drewN k).heap = w.heap := rfl
    rw [this, Array.getElem?_append_left hi]
theorem itoa_any (n : Int) (w : World) (h0 : -9223372036854775808 ≤ n) (h1 : n ≤ 9223372036854775807) (hp : Vars w) :
    Calls Tryz.prog 83 #[.int .i64 n] w fun e w' => e = .returned (.string ⟨(Lib.itoa n).toArray⟩) ∧ Below w.heap.size w w' := by
  refine (Tryz.strconv_Itoa n h0 h1 w hp.1).mono ?_
  rintro e w1 ⟨rfl, k, os, rfl⟩
  exact ⟨rfl, grow_below w k os⟩

/-- What the program makes of a text that begins as a number. -/
def numTok (l : List UInt8) : Tk := match Lib.atoiAll l with
  | .ok n => if Lib.itoa n = l then ⟨2, n, ⟨#[]⟩⟩ else ⟨0, 0, ⟨#[]⟩⟩
  | _ => ⟨0, 0, ⟨#[]⟩⟩
theorem numTok_ok {l : List UInt8} {v : Int} (h : Lib.atoiAll l = .ok v) (he : Lib.itoa v = l) : numTok l = ⟨2, v, ⟨#[]⟩⟩ := by unfold numTok; rw [h]; simp [he]
theorem numTok_no {l : List UInt8} {v : Int} (h : Lib.atoiAll l = .ok v) (he : ¬ Lib.itoa v = l) : numTok l = ⟨0, 0, ⟨#[]⟩⟩ := by unfold numTok; rw [h]; simp [he]
theorem numTok_bad {l : List UInt8} (h : ∀ v, Lib.atoiAll l ≠ .ok v) : numTok l = ⟨0, 0, ⟨#[]⟩⟩ := by
  unfold numTok
  split
  · rename_i v hv; exact absurd hv (h v)
  · rfl
theorem tok_num (l : List UInt8) : (tokB (numTok l).k (numTok l).n (numTok l).t = true → numT l = some (numTok l).n ∧ (numTok l).k = 2 ∧ (numTok l).t = ⟨#[]⟩) ∧ (tokB (numTok l).k (numTok l).n (numTok l).t = false → numT l = none) := by
  have e0 : tokB 0 0 ⟨#[]⟩ = false := by decide
  have e2 : ∀ v, tokB 2 v ⟨#[]⟩ = intB v := by
    intro v; unfold tokB
    rw [if_neg (by omega), if_pos rfl]
    simp [ByteArray.toList_eq]
  by_cases h : ∃ v, Lib.atoiAll l = .ok v
  · obtain ⟨v, hv⟩ := h
    by_cases he : Lib.itoa v = l
    · rw [numTok_ok hv he]
      simp only [e2]
      unfold numT
      rw [hv]
      constructor
      · intro hi; simp [he, hi]
      · intro hi; simp [hi]
    · rw [numTok_no hv he]
      simp only [e0]
      refine ⟨fun h => by (cases h), fun _ => ?_⟩
      unfold numT; rw [hv]; simp [he]
  · have hb : ∀ v, Lib.atoiAll l ≠ .ok v := fun v hv => h ⟨v, hv⟩
    rw [numTok_bad hb]
    simp only [e0]
    refine ⟨fun h => by (cases h), fun _ => ?_⟩
    unfold numT
    split
    · rename_i v hv; exact absurd hv (hb v)
    · rfl
theorem results35_row (tmps : Array Value) (W : World) (N : Nat) (cs : Array Value) (h2 : tmps.getD 2 undef = .pointer (some ⟨N, 0, none⟩)) (hrow : W.heap[N]? = some (.cells cs 75 (0, 0))) (hsz : cs.size = 3) :
    (results Tryz.f68 tmps).run Tryz.prog W = .ok (.agg cs) W := by
  have c39 : (Tryz.prog.info? 75).map (·.size) = some 3 := by kernel_rfl
  exact results_cell_row Tryz.results68 tmps W N 75 cs (0, 0) _ h2 hrow Tryz.underlying75 rfl (by rw [hsz]; exact c39)

set_option maxHeartbeats 1000000 in
theorem number_tok (T : ByteArray) (w : World) (hs : T.size ≤ 1048576) (hv : Vars w) :
    Calls Tryz.prog 68 #[.string T] w fun e w' => e = .returned (.agg #[.int .i64 (numTok T.toList).k, .int .i64 (numTok T.toList).n, .string (numTok T.toList).t]) ∧ Below w.heap.size w w' := by
  have HV : Hid (Vars w) := hv
  clear hv
  go_enter Tryz.func68, Tryz.ntmps68
  go_wp2_with fail
  have HV1 : Hid (Vars (w.alloc (.cells #[.int .i64 0, .int .i64 0, .string ⟨#[]⟩] 75))) := HV.out.up ((Below.refl _ _).alloc (Nat.le_refl _) _)
  refine (atoi_any T _ hs HV1.out).mono ?_
  rintro e w1 ⟨hcase, hb1⟩
  have hz1 : w.heap.size + 1 ≤ w1.heap.size := by have := hb1.size; simpa using this
  have hrow : Hid (w1.heap[w.heap.size]? = some (.cells #[.int .i64 0, .int .i64 0, .string ⟨#[]⟩] 75 (0, 0))) := (hb1.block _ (by simp)).trans (heap_alloc_new _ _)
  have q1 : Below w.heap.size w w1 := ((Below.refl _ _).alloc (Nat.le_refl _) _).trans (hb1.mono (by simp))
  rcases hcase with ⟨v, hv, rfl⟩ | ⟨hbad, n, N, rfl⟩
  · have hb := Lib.atoiAll_bounds hv
    have HV2 : Hid (Vars w1) := HV.out.up q1
    by_cases he : Lib.itoa v = T.toList
    · have HT : Hid (numTok T.toList = ⟨2, v, ⟨#[]⟩⟩) := numTok_ok hv he
      have he' : ((⟨(Lib.itoa v).toArray⟩ : ByteArray).toList == T.toList) = true := by rw [ByteArray.toList_mk, he]; simp
      have HI : Hid (Calls Tryz.prog 83 #[.int .i64 v] w1 fun e w' => e = .returned (.string ⟨(Lib.itoa v).toArray⟩) ∧ Below w1.heap.size w1 w') := itoa_any v w1 hb.1 hb.2 HV2.out
      clear hv he
      generalize (⟨(Lib.itoa v).toArray⟩ : ByteArray) = S at *
      go_wp2_with fail
      refine HI.out.mono ?_
      rintro e w2 ⟨rfl, hb2⟩
      have hrow2 : Hid (w2.heap[w.heap.size]? = some (.cells #[.int .i64 0, .int .i64 0, .string ⟨#[]⟩] 75 (0, 0))) := (hb2.block _ (by omega)).trans hrow.out
      have d0 := row_cell hrow2.out 0
      have d1 := row_cell hrow2.out 1
      have d2 := row_cell hrow2.out 2
      have g0 := row_frozen hrow2.out 0
      have g1 := row_frozen hrow2.out 1
      have g2 := row_frozen hrow2.out 2
      simp at d0 d1 d2
      have q2 := q1.trans (hb2.mono q1.size)
      go_wp2_with fail
      refine bodyPost_ret (v := .agg #[.int .i64 2, .int .i64 v, .string ⟨#[]⟩]) (results35_row _ _ w.heap.size _ rfl (row_set (row_set (row_set hrow2.out _ _) _ _) _ _) rfl) rfl ⟨by rw [HT.out], ?_⟩
      refine Below.setCell ?_ (by simp) _
      refine Below.setCell ?_ (by simp) _
      refine Below.setCell ?_ (by simp) _
      exact q2
    · have HT : Hid (numTok T.toList = ⟨0, 0, ⟨#[]⟩⟩) := numTok_no hv he
      have he' : ((⟨(Lib.itoa v).toArray⟩ : ByteArray).toList == T.toList) = false := by rw [ByteArray.toList_mk]; simpa using he
      have HI : Hid (Calls Tryz.prog 83 #[.int .i64 v] w1 fun e w' => e = .returned (.string ⟨(Lib.itoa v).toArray⟩) ∧ Below w1.heap.size w1 w') := itoa_any v w1 hb.1 hb.2 HV2.out
      clear hv he
      generalize (⟨(Lib.itoa v).toArray⟩ : ByteArray) = S at *
      go_wp2_with fail
      refine HI.out.mono ?_
      rintro e w2 ⟨rfl, hb2⟩
      have hrow2 : Hid (w2.heap[w.heap.size]? = some (.cells #[.int .i64 0, .int .i64 0, .string ⟨#[]⟩] 75 (0, 0))) := (hb2.block _ (by omega)).trans hrow.out
      have d0 := row_cell hrow2.out 0
      have d1 := row_cell hrow2.out 1
      have d2 := row_cell hrow2.out 2
      have g0 := row_frozen hrow2.out 0
      have g1 := row_frozen hrow2.out 1
      have g2 := row_frozen hrow2.out 2
      simp at d0 d1 d2
      have q2 := q1.trans (hb2.mono q1.size)
      go_wp2_with fail
      refine bodyPost_ret (v := .agg #[.int .i64 0, .int .i64 0, .string ⟨#[]⟩]) (results35_row _ _ w.heap.size _ rfl (row_set (row_set (row_set hrow2.out _ _) _ _) _ _) rfl) rfl ⟨by rw [HT.out], ?_⟩
      refine Below.setCell ?_ (by simp) _
      refine Below.setCell ?_ (by simp) _
      refine Below.setCell ?_ (by simp) _
      exact q2
  · have HT : Hid (numTok T.toList = ⟨0, 0, ⟨#[]⟩⟩) := numTok_bad hbad
    clear hbad
    have d0 := row_cell hrow.out 0
    have d1 := row_cell hrow.out 1
    have d2 := row_cell hrow.out 2
    have g0 := row_frozen hrow.out 0
    have g1 := row_frozen hrow.out 1
    have g2 := row_frozen hrow.out 2
    simp at d0 d1 d2
    go_wp2_with fail
    refine bodyPost_ret (v := .agg #[.int .i64 0, .int .i64 0, .string ⟨#[]⟩]) (results35_row _ _ w.heap.size _ rfl (row_set (row_set (row_set hrow.out _ _) _ _) _ _) rfl) rfl ⟨by rw [HT.out], ?_⟩
    refine Below.setCell ?_ (by simp) _
    refine Below.setCell ?_ (by simp) _
    refine Below.setCell ?_ (by simp) _
    exact q1
end Go.Proofs.YtnfoinmccigdfaaGreatDoor
