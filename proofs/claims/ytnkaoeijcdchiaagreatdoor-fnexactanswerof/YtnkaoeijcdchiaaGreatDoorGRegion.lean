/- A region that draws its order, by one fact an operation: what each leaves in its slot holds on in every later world. -/
import Derived.Test.YtnkaoeijcdchiaaGreatDoorDtNum
import Derived.Test.YtnkaoeijcdchiaaGreatDoorShelf
import Derived.Test.YtnkaoeijcdchiaaGreatDoorStMark
import Derived.Test.YtnkaoeijcdchiaaGreatDoorDocMath
import Derived.Lib.Join
import Derived.Test.YtnkaoeijcdchiaaGreatDoorDtSpec
import Derived.Maps.OwnSet
import Derived.RegionTactic
namespace Go.Proofs.YtnkaoeijcdchiaaGreatDoor
open Go.ChangeShapes Go.WideShapes Go.ChangeAt Go.RowKit Go.Proofs.YtnkaoeijcdchiaaGreatDoor.G
set_option linter.unusedVariables false

/-- What the library's variables that are read hold. -/
def Vars (w : World) : Prop := Lib.TabIs Tryz.prog w "internal/strconv.uint64pow10" .u64 Lib.pow10Tab ∧ (∃ tp p, w.var? Tryz.prog "strconv.ErrSyntax" = some #[.iface tp p]) ∧ ∃ tp p, w.var? Tryz.prog "strconv.ErrRange" = some #[.iface tp p]
theorem var_up {w w' : World} {n : String} {cs : Array Value} (h : w.var? Tryz.prog n = some cs) (hb : Below w.heap.size w w') : w'.var? Tryz.prog n = some cs := by
  unfold World.var? at h ⊢
  cases hg : Tryz.prog.globalNamed n with
  | none => rw [hg] at h; cases h
  | some g =>
    rw [hg] at h
    simp only [Option.bind_some] at h ⊢
    have pos : g < w.heap.size := by
      split at h
      · rename_i hh; exact (Array.getElem?_eq_some_iff.1 hh).1
      · cases h
    rw [hb.block g pos]
    exact h
theorem Vars.up {w w' : World} (h : Vars w) (hb : Below w.heap.size w w') : Vars w' := by
  obtain ⟨h1, ⟨t2, p2, h2⟩, ⟨t3, p3, h3⟩⟩ := h
  exact ⟨var_up h1 hb, ⟨t2, p2, var_up h2 hb⟩, ⟨t3, p3, var_up h3 hb⟩⟩
theorem atoi_any (T : ByteArray) (w : World) (hs : T.size ≤ 1048576) (hv : Vars w) :
    Calls Tryz.prog 154 #[.string T] w fun e w' => ((∃ v, Lib.atoiAll T.toList = .ok v ∧ e = .returned (.tuple #[.int .i64 v, .nilIface])) ∨ ((∀ v, Lib.atoiAll T.toList ≠ .ok v) ∧ ∃ n N, e = .returned (.tuple #[.int .i64 n, .iface 236 (.pointer (some ⟨N, 0, none⟩))]))) ∧ Below w.heap.size w w' := by
  obtain ⟨h1, ⟨t2, p2, h2⟩, ⟨t3, p3, h3⟩⟩ := hv
  rw [ByteArray.toList_eq]
  cases h : Lib.atoiAll T.data.toList
  · rename_i v
    refine (Tryz.strconv_Atoi_ok T (by omega) v h w).mono ?_
    rintro e w1 ⟨rfl, hw⟩
    refine ⟨.inl ⟨v, rfl, rfl⟩, ?_⟩
    rcases hw with rfl | ⟨t, rfl⟩
    · exact Below.refl _ _
    · exact Lib.bytesWorld_below _ _ _
  · refine (Any.strconv_Atoi_syntax_var Tryz.laysC172 T (by omega) h t2 p2 w h2).mono ?_
    rintro e w1 ⟨N, rfl, _, _, hb⟩
    exact ⟨.inr ⟨fun v hv => by (cases hv), 0, N, rfl⟩, hb⟩
  · refine (Tryz.strconv_Atoi_range_var T (by omega) h t3 p3 w h3).mono ?_
    rintro e w1 ⟨N, rfl, _, _, hb⟩
    exact ⟨.inr ⟨fun v hv => by (cases hv), _, N, rfl⟩, hb⟩

theorem grow_below (w : World) (k : Nat) (os : Array Obj) : Below w.heap.size w (Sort.grow (w.drewN k) os) := by
  refine ⟨rfl, rfl, rfl, ?_, ?_⟩
  · show w.heap.size ≤ ((w.drewN k).heap ++ os).size
    have : (w.drewN k).heap = w.heap := rfl
    rw [this]; simp
  · intro i hi
    show ((w.drewN k).heap ++ os)[i]? = w.heap[i]?
    have : (w.drewN k).heap = w.heap := rfl
    rw [this, Array.getElem?_append_left hi]
theorem itoa_any (n : Int) (w : World) (h0 : -9223372036854775808 ≤ n) (h1 : n ≤ 9223372036854775807) (hp : Vars w) :
    Calls Tryz.prog 92 #[.int .i64 n] w fun e w' => e = .returned (.string ⟨(Lib.itoa n).toArray⟩) ∧ Below w.heap.size w w' := by
  refine (Tryz.strconv_Itoa n h0 h1 w hp.1).mono ?_
  rintro e w1 ⟨rfl, k, os, rfl⟩
  exact ⟨rfl, grow_below w k os⟩

/-- What the program makes of a text that begins as a number. -/
def numTok (l : List UInt8) : Tk := match Lib.atoiAll l with
  | .ok n => if Lib.itoa n = l then ⟨2, n, ⟨#[]⟩⟩ else ⟨0, 0, ⟨#[]⟩⟩
  | _ => ⟨0, 0, ⟨#[]⟩⟩
theorem numTok_ok {l : List UInt8} {v : Int} (h : Lib.atoiAll l = .ok v) (he : Lib.itoa v = l) : numTok l = ⟨2, v, ⟨#[]⟩⟩ := by unfold numTok; rw [h]; simp [he]
theorem numTok_no {l : List UInt8} {v : Int} (h : Lib.atoiAll l = .ok v) (he : ¬ Lib.itoa v = l) : numTok l = ⟨0, 0, ⟨#[]⟩⟩ := by unfold numTok; rw [h]; simp [he]
theorem numTok_bad {l : List UInt8} (h : ∀ v, Lib.atoiAll l ≠ .ok v) : numTok l = ⟨0, 0, ⟨#[]⟩⟩ := by
  unfold numTok
  split
  · rename_i v hv; exact absurd hv (h v)
  · rfl
theorem tok_num (l : List UInt8) : (tokB (numTok l).k (numTok l).n (numTok l).t = true → numT l = some (numTok l).n ∧ (numTok l).k = 2 ∧ (numTok l).t = ⟨#[]⟩) ∧ (tokB (numTok l).k (numTok l).n (numTok l).t = false → numT l = none) := by
  have e0 : tokB 0 0 ⟨#[]⟩ = false := by decide
  have e2 : ∀ v, tokB 2 v ⟨#[]⟩ = intB v := by
    intro v; unfold tokB
    rw [if_neg (by omega), if_pos rfl]
    simp [ByteArray.toList_eq]
  by_cases h : ∃ v, Lib.atoiAll l = .ok v
  · obtain ⟨v, hv⟩ := h
    by_cases he : Lib.itoa v = l
    · rw [numTok_ok hv he]
      simp only [e2]
      unfold numT
      rw [hv]
      constructor
      · intro hi; simp [he, hi]
      · intro hi; simp [hi]
    · rw [numTok_no hv he]
      simp only [e0]
      refine ⟨fun h => by (cases h), fun _ => ?_⟩
      unfold numT; rw [hv]; simp [he]
  · have hb : ∀ v, Lib.atoiAll l ≠ .ok v := fun v hv => h ⟨v, hv⟩
    rw [numTok_bad hb]
    simp only [e0]
    refine ⟨fun h => by (cases h), fun _ => ?_⟩
    unfold numT
    split
    · rename_i v hv; exact absurd hv (hb v)
    · rfl
theorem results35_row (tmps : Array Value) (W : World) (N : Nat) (cs : Array Value) (h2 : tmps.getD 2 undef = .pointer (some ⟨N, 0, none⟩)) (hrow : W.heap[N]? = some (.cells cs 190 (0, 0))) (hsz : cs.size = 3) :
    (results Tryz.f140 tmps).run Tryz.prog W = .ok (.agg cs) W := by
  have c39 : (Tryz.prog.info? 190).map (·.size) = some 3 := by kernel_rfl
  exact results_cell_row Tryz.results140 tmps W N 190 cs (0, 0) _ h2 hrow Tryz.underlying190 rfl (by rw [hsz]; exact c39)

set_option maxHeartbeats 1000000 in
theorem number_tok (T : ByteArray) (w : World) (hs : T.size ≤ 1048576) (hv : Vars w) :
    Calls Tryz.prog 140 #[.string T] w fun e w' => e = .returned (.agg #[.int .i64 (numTok T.toList).k, .int .i64 (numTok T.toList).n, .string (numTok T.toList).t]) ∧ Below w.heap.size w w' := by
  have HV : Hid (Vars w) := hv
  clear hv
  go_enter Tryz.func140, Tryz.ntmps140
  go_wp2_with fail
  have HV1 : Hid (Vars (w.alloc (.cells #[.int .i64 0, .int .i64 0, .string ⟨#[]⟩] 190))) := HV.out.up ((Below.refl _ _).alloc (Nat.le_refl _) _)
  refine (atoi_any T _ hs HV1.out).mono ?_
  rintro e w1 ⟨hcase, hb1⟩
  have hz1 : w.heap.size + 1 ≤ w1.heap.size := by have := hb1.size; simpa using this
  have hrow : Hid (w1.heap[w.heap.size]? = some (.cells #[.int .i64 0, .int .i64 0, .string ⟨#[]⟩] 190 (0, 0))) := (hb1.block _ (by simp)).trans (heap_alloc_new _ _)
  have q1 : Below w.heap.size w w1 := ((Below.refl _ _).alloc (Nat.le_refl _) _).trans (hb1.mono (by simp))
  rcases hcase with ⟨v, hv, rfl⟩ | ⟨hbad, n, N, rfl⟩
  · have hb := Lib.atoiAll_bounds hv
    have HV2 : Hid (Vars w1) := HV.out.up q1
    by_cases he : Lib.itoa v = T.toList
    · have HT : Hid (numTok T.toList = ⟨2, v, ⟨#[]⟩⟩) := numTok_ok hv he
      have he' : ((⟨(Lib.itoa v).toArray⟩ : ByteArray).toList == T.toList) = true := by rw [ByteArray.toList_mk, he]; simp
      have HI : Hid (Calls Tryz.prog 92 #[.int .i64 v] w1 fun e w' => e = .returned (.string ⟨(Lib.itoa v).toArray⟩) ∧ Below w1.heap.size w1 w') := itoa_any v w1 hb.1 hb.2 HV2.out
      clear hv he
      generalize (⟨(Lib.itoa v).toArray⟩ : ByteArray) = S at *
      go_wp2_with fail
      refine HI.out.mono ?_
      rintro e w2 ⟨rfl, hb2⟩
      have hrow2 : Hid (w2.heap[w.heap.size]? = some (.cells #[.int .i64 0, .int .i64 0, .string ⟨#[]⟩] 190 (0, 0))) := (hb2.block _ (by omega)).trans hrow.out
      have d0 := row_cell hrow2.out 0
      have d1 := row_cell hrow2.out 1
      have d2 := row_cell hrow2.out 2
      have g0 := row_frozen hrow2.out 0
      have g1 := row_frozen hrow2.out 1
      have g2 := row_frozen hrow2.out 2
      simp at d0 d1 d2
      have q2 := q1.trans (hb2.mono q1.size)
      go_wp2_with fail
      refine bodyPost_ret (v := .agg #[.int .i64 2, .int .i64 v, .string ⟨#[]⟩]) (results35_row _ _ w.heap.size _ rfl (row_set (row_set (row_set hrow2.out _ _) _ _) _ _) rfl) rfl ⟨by rw [HT.out], ?_⟩
      refine Below.setCell ?_ (by simp) _
      refine Below.setCell ?_ (by simp) _
      refine Below.setCell ?_ (by simp) _
      exact q2
    · have HT : Hid (numTok T.toList = ⟨0, 0, ⟨#[]⟩⟩) := numTok_no hv he
      have he' : ((⟨(Lib.itoa v).toArray⟩ : ByteArray).toList == T.toList) = false := by rw [ByteArray.toList_mk]; simpa using he
      have HI : Hid (Calls Tryz.prog 92 #[.int .i64 v] w1 fun e w' => e = .returned (.string ⟨(Lib.itoa v).toArray⟩) ∧ Below w1.heap.size w1 w') := itoa_any v w1 hb.1 hb.2 HV2.out
      clear hv he
      generalize (⟨(Lib.itoa v).toArray⟩ : ByteArray) = S at *
      go_wp2_with fail
      refine HI.out.mono ?_
      rintro e w2 ⟨rfl, hb2⟩
      have hrow2 : Hid (w2.heap[w.heap.size]? = some (.cells #[.int .i64 0, .int .i64 0, .string ⟨#[]⟩] 190 (0, 0))) := (hb2.block _ (by omega)).trans hrow.out
      have d0 := row_cell hrow2.out 0
      have d1 := row_cell hrow2.out 1
      have d2 := row_cell hrow2.out 2
      have g0 := row_frozen hrow2.out 0
      have g1 := row_frozen hrow2.out 1
      have g2 := row_frozen hrow2.out 2
      simp at d0 d1 d2
      have q2 := q1.trans (hb2.mono q1.size)
      go_wp2_with fail
      refine bodyPost_ret (v := .agg #[.int .i64 0, .int .i64 0, .string ⟨#[]⟩]) (results35_row _ _ w.heap.size _ rfl (row_set (row_set (row_set hrow2.out _ _) _ _) _ _) rfl) rfl ⟨by rw [HT.out], ?_⟩
      refine Below.setCell ?_ (by simp) _
      refine Below.setCell ?_ (by simp) _
      refine Below.setCell ?_ (by simp) _
      exact q2
  · have HT : Hid (numTok T.toList = ⟨0, 0, ⟨#[]⟩⟩) := numTok_bad hbad
    clear hbad
    have d0 := row_cell hrow.out 0
    have d1 := row_cell hrow.out 1
    have d2 := row_cell hrow.out 2
    have g0 := row_frozen hrow.out 0
    have g1 := row_frozen hrow.out 1
    have g2 := row_frozen hrow.out 2
    simp at d0 d1 d2
    go_wp2_with fail
    refine bodyPost_ret (v := .agg #[.int .i64 0, .int .i64 0, .string ⟨#[]⟩]) (results35_row _ _ w.heap.size _ rfl (row_set (row_set (row_set hrow.out _ _) _ _) _ _) rfl) rfl ⟨by rw [HT.out], ?_⟩
    refine Below.setCell ?_ (by simp) _
    refine Below.setCell ?_ (by simp) _
    refine Below.setCell ?_ (by simp) _
    exact q1
end Go.Proofs.YtnkaoeijcdchiaaGreatDoor
namespace Go.Proofs.YtnkaoeijcdchiaaGreatDoor.G
open Go.ChangeShapes Go.WideShapes Go.ChangeAt Go.RowKit
set_option linter.unusedVariables false

def qd (s : ByteArray) : ByteArray := ⟨#[34]⟩ ++ s ++ ⟨#[34]⟩
def pr (k t : ByteArray) : ByteArray := qd k ++ ⟨#[58]⟩ ++ t
theorem qd_size (s : ByteArray) : (qd s).size = s.size + 2 := by
  have h1 : (⟨#[34]⟩ : ByteArray).size = 1 := rfl
  unfold qd; rw [ByteArray.size_append, ByteArray.size_append]; omega
theorem pr_size (k t : ByteArray) : (pr k t).size = k.size + t.size + 3 := by
  have h1 : (⟨#[58]⟩ : ByteArray).size = 1 := rfl
  unfold pr; rw [ByteArray.size_append, ByteArray.size_append, qd_size]; omega
theorem bytes_same {a b : ByteArray} (h : a.data.toList = b.data.toList) : a = b := by
  apply ByteArray.ext; exact Array.toList_inj.1 h
theorem impl_quoted (s : ByteArray) (w : World) (hs : s.size ≤ 1073741824) : Calls Tryz.prog 90 #[.string s] w fun e w' => e = .returned (.string (qd s)) ∧ w' = w := by
  have h1 : (⟨#[34]⟩ : ByteArray).size = 1 := rfl
  have n1 : ¬ (9223372036854775807 < (⟨#[34]⟩ : ByteArray).size + s.size) := by omega
  have n1' : ¬ (9223372036854775807 < 1 + s.size) := by omega
  have n2 : ¬ (9223372036854775807 < (⟨#[34]⟩ ++ s : ByteArray).size + (⟨#[34]⟩ : ByteArray).size) := by rw [ByteArray.size_append]; omega
  have n2' : ¬ (9223372036854775807 < (⟨#[34]⟩ ++ s : ByteArray).size + 1) := by rw [ByteArray.size_append]; omega
  clear h1
  go_enter Tryz.func90, Tryz.ntmps90
  go_wp2_with fail
  go_ret
  exact ⟨rfl, rfl⟩
theorem impl_pair (k t : ByteArray) (w : World) (hk : k.size ≤ 1073741824) (ht : t.size ≤ 1073741824) : Calls Tryz.prog 64 #[.string k, .string t] w fun e w' => e = .returned (.string (pr k t)) ∧ w' = w := by
  have h1 : (⟨#[58]⟩ : ByteArray).size = 1 := rfl
  have hq := qd_size k
  have HF : Hid (qd k ++ ⟨#[58]⟩ ++ t = pr k t) := rfl
  have n1 : ¬ (9223372036854775807 < (qd k).size + (⟨#[58]⟩ : ByteArray).size) := by omega
  have n1' : ¬ (9223372036854775807 < (qd k).size + 1) := by omega
  have n2 : ¬ (9223372036854775807 < (qd k ++ ⟨#[58]⟩ : ByteArray).size + t.size) := by rw [ByteArray.size_append]; omega
  clear h1 hq
  go_enter Tryz.func64, Tryz.ntmps64
  go_wp2_with fail
  refine (impl_quoted k _ hk).mono ?_
  rintro e w1 ⟨rfl, hw⟩
  rw [hw]
  go_wp2_with fail
  go_ret
  exact ⟨by rw [← HF.out]; rfl, rfl⟩
/-- Texts joined by commas: the library's way and ours. -/
theorem cj_cons (x : ByteArray) : ∀ (r : List ByteArray) (k : Nat), k ≤ r.length → (cjTo (x :: r) (k + 1)).data.toList = x.data.toList ++ ((r.take k).map fun s => 44 :: s.data.toList).flatten
  | r, 0, _ => by
    show (cjTo (x :: r) 0 ++ (x :: r).getD 0 ⟨#[]⟩ : ByteArray).data.toList = _
    simp [cjTo]
  | r, k + 1, hk => by
    have ih := cj_cons x r k (by omega)
    have hg : (x :: r).getD (k + 1) ⟨#[]⟩ = r[k] := by
      rw [List.getD_eq_getElem?_getD, List.getElem?_cons_succ, List.getElem?_eq_getElem (by omega)]; rfl
    rw [cjTo, if_pos (by omega), hg, List.take_succ_eq_append_getElem (by omega)]
    rw [ByteArray.data_append, ByteArray.data_append, Array.toList_append, Array.toList_append, ih]
    show (_ ++ [44]) ++ r[k].data.toList = _
    simp only [List.map_append, List.flatten_append, List.map_cons, List.map_nil, List.flatten_cons, List.flatten_nil, List.append_nil, List.append_assoc, List.cons_append, List.nil_append]
theorem cj_join (ss : List ByteArray) : (⟨(Lib.join (ss.map (·.data.toList)) [44]).toArray⟩ : ByteArray) = cj ss := by
  apply bytes_same
  cases ss with
  | nil => rfl
  | cons x r =>
    unfold cj
    rw [List.length_cons, cj_cons x r r.length (Nat.le_refl _), List.take_length, List.map_cons, Lib.join_cons]
    simp only [Lib.joinTail, List.map_map]
    simp
    congr 1
theorem join_len (ss : List ByteArray) : (Lib.join (ss.map (·.data.toList)) [44]).length ≤ sumW ss := by
  have h := cj_size ss
  rw [← cj_join] at h
  have e : (⟨(Lib.join (ss.map (·.data.toList)) [44]).toArray⟩ : ByteArray).size = (Lib.join (ss.map (·.data.toList)) [44]).length := by simp [ByteArray.size]
  omega
theorem impl_join (a : Option Addr) (c : Nat) (ss : List ByteArray) (w : World) (hr : KeRow 0 w.heap.size w a ss) (hc : ss.length ≤ c) (hz : sumW ss ≤ 1073741824) :
    Calls Tryz.prog 96 #[.slice a ss.length c, .string ⟨#[44]⟩] w fun e w' => e = .returned (.string (cj ss)) ∧ Below w.heap.size w w' := by
  rcases hr with rfl | ⟨b, o, rfl, _, hb, h3⟩
  · refine (Tryz.strings_Join_none a c ⟨#[44]⟩ w).mono ?_
    rintro e w' ⟨rfl, rfl⟩
    exact ⟨rfl, Below.refl _ _⟩
  · have hl := len_sumW ss
    have hj := join_len ss
    have := Tryz.strings_Join b o c ss ⟨#[44]⟩ w (fun j x hx => by have := h3 j x hx; rwa [Nat.mul_one] at this) hb (by omega) hc (by show (Lib.join _ [44]).length ≤ _; omega)
    refine this.mono ?_
    rintro e w' ⟨rfl, hb'⟩
    refine ⟨?_, hb'⟩
    show Ending.returned (.string ⟨(Lib.join _ [44]).toArray⟩) = _
    rw [cj_join]
def objT (ss : List ByteArray) : ByteArray := ⟨#[123]⟩ ++ cj ss ++ ⟨#[125]⟩
def lisT (ss : List ByteArray) : ByteArray := ⟨#[91]⟩ ++ cj ss ++ ⟨#[93]⟩
theorem impl_object (a : Option Addr) (c : Nat) (ss : List ByteArray) (w : World) (hr : KeRow 0 w.heap.size w a ss) (hc : ss.length ≤ c) (hz : sumW ss ≤ 1073741824) :
    Calls Tryz.prog 66 #[.slice a ss.length c] w fun e w' => e = .returned (.string (objT ss)) ∧ Below w.heap.size w w' := by
  have HR : Hid _ := hr
  have hj := cj_size ss
  have h1 : (⟨#[123]⟩ : ByteArray).size = 1 := rfl
  have n1 : ¬ (9223372036854775807 < (⟨#[123]⟩ : ByteArray).size + (cj ss).size) := by omega
  have n1' : ¬ (9223372036854775807 < 1 + (cj ss).size) := by omega
  have n2' : ¬ (9223372036854775807 < (⟨#[123]⟩ ++ cj ss : ByteArray).size + 1) := by rw [ByteArray.size_append]; omega
  have n2 : ¬ (9223372036854775807 < (⟨#[123]⟩ ++ cj ss : ByteArray).size + (⟨#[125]⟩ : ByteArray).size) := n2'
  clear hr hj h1
  go_enter Tryz.func66, Tryz.ntmps66
  go_wp2_with fail
  refine (impl_join a c ss _ HR.out hc hz).mono ?_
  rintro e w1 ⟨rfl, hb1⟩
  have HB : Hid _ := hb1
  clear hb1
  go_wp2_with fail
  go_ret
  exact ⟨rfl, HB.out⟩
theorem impl_list (a : Option Addr) (c : Nat) (ss : List ByteArray) (w : World) (hr : KeRow 0 w.heap.size w a ss) (hc : ss.length ≤ c) (hz : sumW ss ≤ 1073741824) :
    Calls Tryz.prog 93 #[.slice a ss.length c] w fun e w' => e = .returned (.string (lisT ss)) ∧ Below w.heap.size w w' := by
  have HR : Hid _ := hr
  have hj := cj_size ss
  have h1 : (⟨#[91]⟩ : ByteArray).size = 1 := rfl
  have n1 : ¬ (9223372036854775807 < (⟨#[91]⟩ : ByteArray).size + (cj ss).size) := by omega
  have n1' : ¬ (9223372036854775807 < 1 + (cj ss).size) := by omega
  have n2' : ¬ (9223372036854775807 < (⟨#[91]⟩ ++ cj ss : ByteArray).size + 1) := by rw [ByteArray.size_append]; omega
  have n2 : ¬ (9223372036854775807 < (⟨#[91]⟩ ++ cj ss : ByteArray).size + (⟨#[93]⟩ : ByteArray).size) := n2'
  clear hr hj h1
  go_enter Tryz.func93, Tryz.ntmps93
  go_wp2_with fail
  refine (impl_join a c ss _ HR.out hc hz).mono ?_
  rintro e w1 ⟨rfl, hb1⟩
  have HB : Hid _ := hb1
  clear hb1
  go_wp2_with fail
  go_ret
  exact ⟨rfl, HB.out⟩
end Go.Proofs.YtnkaoeijcdchiaaGreatDoor.G
namespace Go.Proofs.YtnkaoeijcdchiaaGreatDoor.G
open Go.ChangeShapes Go.WideShapes Go.ChangeAt Go.RowKit
set_option linter.unusedVariables false

/-- The library's table of powers, whatever is done above the globals. -/
def Pow (w : World) : Prop := Lib.TabIs Tryz.prog w "internal/strconv.uint64pow10" .u64 Lib.pow10Tab
theorem gPow : ∃ g, Tryz.prog.globalNamed "internal/strconv.uint64pow10" = some g := by
  have h : (Tryz.prog.globalNamed "internal/strconv.uint64pow10").isSome = true := by kernel_rfl
  exact Option.isSome_iff_exists.1 h
theorem Pow.up {w w' : World} (h : Pow w) (hb : Below w.heap.size w w') : Pow w' := by
  obtain ⟨g, hg⟩ := gPow
  unfold Pow Lib.TabIs World.var? at h ⊢
  rw [hg] at h ⊢
  simp only [Option.bind_some] at h ⊢
  have pos : g < w.heap.size := by
    split at h
    · rename_i hh; exact (Array.getElem?_eq_some_iff.1 hh).1
    · cases h
  rw [hb.block g pos]
  exact h
theorem grow_below (w : World) (k : Nat) (os : Array Obj) : Below w.heap.size w (Sort.grow (w.drewN k) os) := by
  refine ⟨rfl, rfl, rfl, ?_, ?_⟩
  · show w.heap.size ≤ ((w.drewN k).heap ++ os).size
    have : (w.drewN k).heap = w.heap := rfl
    rw [this]; simp
  · intro i hi
    show ((w.drewN k).heap ++ os)[i]? = w.heap[i]?
    have : (w.drewN k).heap = w.heap := rfl
    rw [this, Array.getElem?_append_left hi]
theorem itoa_any (n : Int) (w : World) (h0 : -9223372036854775807 ≤ n) (h1 : n ≤ 9223372036854775807) (hp : Pow w) :
    Calls Tryz.prog 92 #[.int .i64 n] w fun e w' => e = .returned (.string ⟨(Lib.itoa n).toArray⟩) ∧ Below w.heap.size w w' := by
  refine (Tryz.strconv_Itoa n (by omega) h1 w hp).mono ?_
  rintro e w1 ⟨rfl, k, os, rfl⟩
  exact ⟨rfl, grow_below w k os⟩
/-- What a value holds, as the program hands it on. -/
def heldV (h : Oh) (sub : Ous) (a1 a2 : Option Addr) (c1 c2 : Nat) : Value :=
  if h.k = 1 then .iface 3 (.int .i64 h.n)
  else if h.k = 2 then .iface 9 (.string h.t)
  else if h.k = 3 then .iface 42 (.slice a2 sub.len c2)
  else if h.k = 4 then .iface 135 (.agg #[.slice a1 h.keys.length c1, .slice a2 sub.len c2])
  else .nilIface
set_option maxHeartbeats 4000000 in
theorem impl_held (h : Oh) (sub : Ous) (a1 a2 : Option Addr) (c1 c2 : Nat) (w : World) :
    Calls Tryz.prog 91 #[.agg #[.int .i64 h.k, .int .i64 h.n, .string h.t, .slice a1 h.keys.length c1, .slice a2 sub.len c2]] w fun e w' => e = .returned (heldV h sub a1 a2 c1 c2) ∧ Below w.heap.size w w' := by
  have B0 : Hid (Below w.heap.size w (w.alloc (.cells #[.int .i64 h.k, .int .i64 h.n, .string h.t, .slice a1 h.keys.length c1, .slice a2 sub.len c2] 44))) := (Below.refl _ _).alloc (Nat.le_refl _) _
  by_cases k1 : h.k = 1
  · have HF : Hid (heldV h sub a1 a2 c1 c2 = .iface 3 (.int .i64 h.n)) := by unfold Hid heldV; rw [if_pos k1]
    have k1' : (h.k == 1) = true := by simp [k1]
    clear k1
    go_enter Tryz.func91, Tryz.ntmps91
    go_wp2_with fail
    go_ret
    exact ⟨by rw [HF.out]; rfl, B0.out⟩
  have k1' : (h.k == 1) = false := beq_eq_false_iff_ne.2 k1
  by_cases k2 : h.k = 2
  · have HF : Hid (heldV h sub a1 a2 c1 c2 = .iface 9 (.string h.t)) := by unfold Hid heldV; rw [if_neg k1, if_pos k2]
    have k2' : (h.k == 2) = true := by simp [k2]
    clear k1 k2
    go_enter Tryz.func91, Tryz.ntmps91
    go_wp2_with fail
    go_ret
    exact ⟨by rw [HF.out]; rfl, B0.out⟩
  have k2' : (h.k == 2) = false := beq_eq_false_iff_ne.2 k2
  by_cases k3 : h.k = 3
  · have HF : Hid (heldV h sub a1 a2 c1 c2 = .iface 42 (.slice a2 sub.len c2)) := by unfold Hid heldV; rw [if_neg k1, if_neg k2, if_pos k3]
    have k3' : (h.k == 3) = true := by simp [k3]
    clear k1 k2 k3
    go_enter Tryz.func91, Tryz.ntmps91
    go_wp2_with fail
    go_ret
    exact ⟨by rw [HF.out]; rfl, B0.out⟩
  have k3' : (h.k == 3) = false := beq_eq_false_iff_ne.2 k3
  by_cases k4 : h.k = 4
  · have HF : Hid (heldV h sub a1 a2 c1 c2 = .iface 135 (.agg #[.slice a1 h.keys.length c1, .slice a2 sub.len c2])) := by unfold Hid heldV; rw [if_neg k1, if_neg k2, if_neg k3, if_pos k4]
    have k4' : (h.k == 4) = true := by simp [k4]
    clear k1 k2 k3 k4
    go_enter Tryz.func91, Tryz.ntmps91
    go_wp2_with fail
    go_ret
    exact ⟨by rw [HF.out]; rfl, B0.out⟩
  have k4' : (h.k == 4) = false := beq_eq_false_iff_ne.2 k4
  have HF : Hid (heldV h sub a1 a2 c1 c2 = .nilIface) := by unfold Hid heldV; rw [if_neg k1, if_neg k2, if_neg k3, if_neg k4]
  clear k1 k2 k3 k4
  go_enter Tryz.func91, Tryz.ntmps91
  go_wp2_with fail
  go_ret
  exact ⟨by rw [HF.out]; rfl, B0.out⟩
theorem info9s : (Tryz.prog.info? 9).map (fun i => (i.zero, i.size, i.bytes)) = some (some (.string ⟨#[]⟩), 1, 16) := by kernel_rfl
def LaidW (cs : Array Value) (ts : List ByteArray) (k : Nat) : Prop := ∀ i t, i < k → ts[i]? = some t → cs[i]? = some (.string t)
theorem LaidW.put {cs : Array Value} {ts : List ByteArray} {k : Nat} {t : ByteArray} (h : LaidW cs ts k) (hk : k < cs.size) (ht : ts[k]? = some t) : LaidW (cs.setIfInBounds k (.string t)) ts (k + 1) := by
  intro i t' hi ht'
  by_cases hik : i = k
  · subst hik
    rw [ht, Option.some.injEq] at ht'
    subst ht'
    simp [hk]
  · rw [Array.getElem?_setIfInBounds_ne (fun e => hik e.symm)]
    exact h i t' (by omega) ht'
theorem LaidW.row {cs : Array Value} {ts : List ByteArray} {B : Nat} {w : World} {e : TypeId} (h : LaidW cs ts ts.length) (hB : w.heap[B]? = some (.cells cs e (0, 0))) : KeRow 0 w.heap.size w (some ⟨B, 0, none⟩) ts := by
  refine .inr ⟨B, 0, rfl, Nat.zero_le _, (Array.getElem?_eq_some_iff.1 hB).1, fun i x hx => ?_⟩
  rw [row_rd hB]
  show cs[0 + i * 1]? = _
  rw [Nat.zero_add, Nat.mul_one]
  exact h i x (List.getElem?_eq_some_iff.1 hx).1 hx
theorem words_len : ∀ (l : Ous) (ob : Bool) (ks : List ByteArray), (wordsO ob ks l).length = l.len
  | .nil, _, _ => rfl
  | .cons h sub rest, ob, ks => by rw [wordsO, List.length_cons, words_len rest]; rfl
/-- The words from the k-th on. -/
def WordsAt (ob : Bool) (ks : List ByteArray) (l : Ous) (k : Nat) (rest : Ous) : Prop := (wordsO ob ks l).drop k = wordsO ob (ks.drop k) rest
theorem WordsAt.next {ob : Bool} {ks : List ByteArray} {l : Ous} {k : Nat} {h : Oh} {sub rest : Ous} (hw : WordsAt ob ks l k (.cons h sub rest)) : (wordsO ob ks l)[k]? = some (keyed ob (ks.getD k ⟨#[]⟩) (outT h sub)) ∧ WordsAt ob ks l (k + 1) rest := by
  unfold WordsAt at hw ⊢
  rw [words_cons] at hw
  constructor
  · have := congrArg List.head? hw
    rw [List.head?_drop] at this
    exact this
  · have := congrArg List.tail hw
    rw [List.tail_drop] at this
    exact this
def TextI (d : Nat) : Prop := ∀ (h : Oh) (sub : Ous) (a1 a2 : Option Addr) (c1 c2 : Nat) (w : World), KeRow 0 w.heap.size w a1 h.keys → OuRow 0 w.heap.size w a2 sub → h.keys.length ≤ c1 → outB d h sub = true → Pow w →
    Calls Tryz.prog 65 #[.agg #[.int .i64 h.k, .int .i64 h.n, .string h.t, .slice a1 h.keys.length c1, .slice a2 sub.len c2]] w fun e w' => e = .returned (.string (outT h sub)) ∧ Below w.heap.size w w'
theorem ok_out {d : Nat} {h : Oh} {sub rest : Ous} (hok : okO d (.cons h sub rest) = true) (hs : (Ous.cons h sub rest).size ≤ 4000) : outB d h sub = true ∧ okO d rest = true ∧ rest.size ≤ 4000 := by
  rw [okO_cons, Bool.and_eq_true] at hok
  simp only [Ous.size] at hs
  refine ⟨?_, hok.2, by omega⟩
  unfold outB; rw [hok.1, decide_eq_true (by omega)]; rfl
set_option maxHeartbeats 8000000 in
set_option maxRecDepth 40000 in
theorem impl_texts (d : Nat) (ih : TextI d) (l : Ous) (a : Option Addr) (c : Nat) (w : World) (hr : OuRow 0 w.heap.size w a l) (hok : okO d l = true) (hs : l.size ≤ 4000) (hp : Pow w) :
    Calls Tryz.prog 94 #[.slice a l.len c] w fun e w' => ∃ a', e = .returned (.slice a' l.len l.len) ∧ KeRow 0 w'.heap.size w' a' (wordsO false [] l) ∧ Below w.heap.size w w' := by
  have hl : l.len ≤ 4000 := Nat.le_trans l.len_le_size hs
  have HR : Hid (OuFrom 0 w.heap.size w a 0 l) := hr.from_
  have IH : Hid (TextI d) := ih
  have HP : Hid (∀ W, Below w.heap.size w W → Pow W) := fun W h => hp.up h
  have HOK : Hid (okO d l = true ∧ l.size ≤ 4000) := ⟨hok, hs⟩
  have HWL : Hid ((wordsO false [] l).length = l.len) := words_len _ _ _
  clear hr ih hp hok hs
  obtain ⟨i9, hi, hz, hsz, hby⟩ := info_parts info9s
  have hmk := run_make (P := Tryz.prog) w 27 9 i9 _ Tryz.underlying27 hi hz .i64 .i64 (l.len : Int) (l.len : Int) (by omega) (by omega) (by rw [hby]; omega) (by omega)
  rw [hsz, Int.toNat_natCast] at hmk
  clear hi hz hsz hby
  have hs0 := size_madeCells (Value.string ⟨#[]⟩).cells (l.len * 1)
  generalize madeCells (Value.string ⟨#[]⟩).cells (l.len * 1) = cs0 at *
  go_enter Tryz.func94, Tryz.ntmps94
  go_wp2_with fail
  go_loopw [11] (fun i w' => ∃ (k : Nat) (cs : Array Value) (rest : Ous), k + rest.len = l.len ∧ i = .int .i64 k ∧ Hid (Below w.heap.size w w') ∧ Hid (w'.heap[w.heap.size]? = some (.cells cs 9 (0, 0))) ∧ cs.size = l.len ∧ Hid (LaidW cs (wordsO false [] l) k) ∧ Hid (OuFrom 0 w.heap.size w a k rest) ∧ Hid (okO d rest = true ∧ rest.size ≤ 4000) ∧ Hid (WordsAt false [] l k rest)) (fun i _ => l.len - (intOf i).toNat)
  case atStart => exact ⟨0, cs0, l, by omega, rfl, (Below.refl _ _).alloc (Nat.le_refl _) _, heap_alloc_new _ _, by omega, fun i t h => by omega, HR, HOK, rfl⟩
  case round =>
    obtain ⟨wo, rfl⟩ : ∃ x, x = wr := ⟨_, rfl⟩
    obtain ⟨k, cs, rest, hk, rfl, HB, HH, hcs, HL, HF, HO, HW⟩ := hrel
    clear hmk hs0
    have hbz := HB.out.size
    cases rest with
    | nil =>
      simp only [Ous.len, Nat.add_zero] at hk
      have HFIN : Hid (KeRow 0 wo.heap.size wo (some ⟨w.heap.size, 0, none⟩) (wordsO false [] l)) := by
        have := HL.out
        rw [hk, ← HWL.out] at this
        exact this.row HH.out
      have hnl : ¬ (k : Int) < l.len := by omega
      clear hk
      go_wp2_with fail
      go_ret
      exact ⟨_, rfl, HFIN.out, HB.out⟩
    | cons h sub rest =>
      have hlt : (k : Int) < l.len := by simp only [Ous.len] at hk; omega
      obtain ⟨b, o, a1, c1, a2, c2, ha, _, hbl, d0, d1, d2, d3, d4, hc, p1, p2, _⟩ := OuFrom.step (OuFrom.keep HF.out (agree HB.out (Nat.le_refl _)))
      have HF2 : Hid (OuFrom 0 w.heap.size w a (k + 1) rest) := by
        obtain ⟨_, _, _, _, _, _, _, _, _, _, _, _, _, _, _, _, _, rf9⟩ := OuFrom.step HF.out
        exact rf9
      obtain ⟨o1, o2, o3⟩ := ok_out HO.out.1 HO.out.2
      have HO1 : Hid _ := o1
      have HO2 : Hid (okO d rest = true ∧ rest.size ≤ 4000) := ⟨o2, o3⟩
      obtain ⟨n1, n2⟩ := HW.out.next
      have HN1 : Hid ((wordsO false [] l)[k]? = some (outT h sub)) := by unfold Hid; simpa [keyed] using n1
      have HN2 : Hid _ := n2
      have hNw : w.heap.size < wo.heap.size := (Array.getElem?_eq_some_iff.1 HH.out).1
      have R1 : Hid (KeRow 0 wo.heap.size wo a1 h.keys ∧ OuRow 0 wo.heap.size wo a2 sub) := ⟨KeRow.wide p1 (Nat.le_refl _) hbz, OuRow.wide p2 (Nat.le_refl _) hbz⟩
      subst ha
      clear o1 o2 o3 n1 n2 p1 p2 HW HF HO
      obtain ⟨U, hU⟩ : ∃ X, X = wo.alloc (.cells #[.int .i64 h.k, .int .i64 h.n, .string h.t, .slice a1 h.keys.length c1, .slice a2 sub.len c2] 44) := ⟨_, rfl⟩
      have BU : Below wo.heap.size wo U := by rw [hU]; exact (Below.refl _ _).alloc (Nat.le_refl _) _
      have c0 : U.heap[wo.heap.size]? = some (.cells #[.int .i64 h.k, .int .i64 h.n, .string h.t, .slice a1 h.keys.length c1, .slice a2 sub.len c2] 44 (0, 0)) := by rw [hU]; exact heap_alloc_new _ _
      have x0 := fun o => row_cell c0 o
      have HBU : Hid _ := BU
      clear BU c0
      go_upto_region 5 with fail
      rw [← hU]
      clear hU d0 d1 d2 d3 d4
      go_wp2_with fail
      refine (IH.out h sub a1 a2 c1 c2 U (KeRow.up R1.out.1 HBU.out) (OuRow.up R1.out.2 HBU.out) hc HO1.out (HP.out _ (HB.out.trans (HBU.out.mono hbz)))).mono ?_
      rintro e w1 ⟨rfl, hb1⟩
      have HB1 : Hid (Below wo.heap.size wo w1) := HBU.out.trans (hb1.mono HBU.out.size)
      have HH1 : Hid (w1.heap[w.heap.size]? = some (.cells cs 9 (0, 0))) := (HB1.out.block _ hNw).trans HH.out
      have HBW : Hid (Below w.heap.size w w1) := HB.out.trans (HB1.out.mono hbz)
      obtain ⟨v0, hv0⟩ : ∃ v, w1.cell? ⟨w.heap.size, k, none⟩ = some v := ⟨_, (row_cell HH1.out _).trans (Array.getElem?_eq_getElem (show k < cs.size by omega))⟩
      have hf0 := row_frozen HH1.out k
      clear hb1 x0
      go_wp2_with fail
      exact ⟨⟨k + 1, _, rest, by simp only [Ous.len] at hk; omega, by first | rfl | go_num, HBW.out.setCell (Nat.le_refl _) _, row_set HH1.out _ _, by simp [hcs], LaidW.put HL.out (by omega) HN1.out, HF2, HO2, HN2⟩, by simp [intOf]; omega⟩
end Go.Proofs.YtnkaoeijcdchiaaGreatDoor.G
namespace Go.Proofs.YtnkaoeijcdchiaaGreatDoor.G
open Go.ChangeShapes Go.WideShapes Go.ChangeAt Go.RowKit
set_option linter.unusedVariables false

/-- One slot written. -/
def upd (u : Nat → Value) (d : Nat) (v : Value) : Nat → Value := fun n => if n = d then v else u n
theorem upd_at (u : Nat → Value) (d : Nat) (v : Value) : upd u d v d = v := by simp [upd]
theorem upd_ne (u : Nat → Value) {d n : Nat} (v : Value) (h : n ≠ d) : upd u d v n = u n := by simp [upd, h]
/-- Every edge goes back. -/
def backB (ops : Array Oper) : Bool := (List.range ops.size).all fun i => match ops[i]? with
  | some o => o.after.all fun e => decide (e.on < i)
  | none => true
/-- Operation n is the last, and waits for all. -/
def lastB (ops : Array Oper) (n : Nat) : Bool := decide (ops.size = n + 1) && (List.range n).all fun i => match ops[n]? with
  | some o => o.after.toList.any fun e => decide (e.on = i) && Region.binds .any e
  | none => false
theorem cntF : ∀ (l : List Bool) (i : Nat), l[i]? = some false → (l.set i true).count false + 1 = l.count false
  | [], i, h => by simp at h
  | b :: l, 0, h => by
    simp only [List.getElem?_cons_zero, Option.some.injEq] at h
    subst h
    simp
  | b :: l, i + 1, h => by
    have := cntF l i (by simpa using h)
    simp only [List.set_cons_succ, List.count_cons]
    omega
theorem getD_lt {L : Array Bool} {i : Nat} (h : L.getD i true = false) : i < L.size := by
  rcases Nat.lt_or_ge i L.size with h' | h'
  · exact h'
  · simp [Array.getElem?_eq_none h'] at h
theorem getD_get {L : Array Bool} {i : Nat} (h : L.getD i true = false) : L.toList[i]? = some false := by
  have hi := getD_lt h
  simp only [Array.getD_eq_getD_getElem?, Array.getElem?_eq_getElem hi, Option.getD_some] at h
  simp [hi, h]
theorem getD_other {L : Array Bool} {i : Nat} (hi : i < L.size) (h : ¬ L.getD i false = true) : L.getD i true = false := by
  simp only [Array.getD_eq_getD_getElem?, Array.getElem?_eq_getElem hi, Option.getD_some] at h ⊢
  simpa using h
theorem getD_both {L : Array Bool} {i : Nat} (hi : i < L.size) (h : L.getD i false = true) : L.getD i true = true := by
  simp only [Array.getD_eq_getD_getElem?, Array.getElem?_eq_getElem hi, Option.getD_some] at h ⊢
  exact h
theorem some_ready {ops : Array Oper} (hback : backB ops = true) {L : Array Bool} (hs : L.size = ops.size) : ∀ (k i : Nat), i < k → L.getD i true = false → ∃ j, j ∈ Region.ready .any ops L
  | 0, i, hk, _ => by omega
  | k + 1, i, hk, hi => by
    have hlt := getD_lt hi
    have ho : ops[i]? = some (ops[i]'(by omega)) := Array.getElem?_eq_getElem (by omega)
    by_cases hr : i ∈ Region.ready .any ops L
    · exact ⟨i, hr⟩
    · rw [mem_ready] at hr
      have : ¬ ∀ e ∈ (ops[i]'(by omega)).after, Region.binds .any e = true → L.getD e.on false = true := fun hh => hr ⟨hi, _, ho, hh⟩
      simp only [Classical.not_forall] at this
      obtain ⟨e, he, hb, hne⟩ := this
      have hbk := hback
      unfold backB at hbk
      rw [List.all_eq_true] at hbk
      have h2 := hbk i (by rw [List.mem_range]; omega)
      rw [ho] at h2
      simp only [Array.all_eq_true_iff_forall_mem, decide_eq_true_eq] at h2
      have h3 := h2 e he
      exact some_ready hback hs k e.on (by omega) (getD_other (by omega) hne)

theorem region_rel {P : Program} {ops : Array Oper} {Q : Exit → Act → World → Prop} {id : Nat} {W0 : World} {n : Nat} (hm : P.follows .mixedOrders = true) (hback : backB ops = true) (hlast : lastB ops n = true)
    (fr : (Nat → Value) → Act) (u0 : Nat → Value) (dst : Nat → Nat) (hdst : ∀ i j, i < n → j < n → dst i = dst j → i = j)
    (Pv : Nat → Value → World → Prop) (J : (Nat → Value) → World → Prop)
    (hP : ∀ i v w w', Pv i v w → Below w.heap.size w w' → Pv i v w') (hJ0 : J u0 W0.drew)
    (hstep : ∀ u w i, i < n → Below W0.heap.size W0 w → J u w → (∀ o, ops[i]? = some o → ∀ e ∈ o.after, Region.binds .any e = true → Pv e.on (u (dst e.on)) w) →
      wpOp P ops Q i (fun a' w' => ∃ v, a' = fr (upd u (dst i) v) ∧ Below w.heap.size w w' ∧ Pv i v w' ∧ J (upd u (dst i) v) w') (fr u) w)
    (hend : ∀ u w, Below W0.heap.size W0 w → J u w → (∀ i, i < n → Pv i (u (dst i)) w) → wpOp P ops Q n (fun a' w' => Q .normal a' w') (fr u) w) :
    (Code.region id ops true).wp P Q (fr u0) W0 := by
  unfold lastB at hlast
  rw [Bool.and_eq_true, decide_eq_true_eq] at hlast
  obtain ⟨hsz, hall⟩ := hlast
  refine wp_region_any hm ?_
  have key : ∀ (fuel : Nat) (L : Array Bool) (u : Nat → Value) (w : World), L.size = n + 1 → L.toList.count false ≤ fuel → L.getD n true = false → Below W0.heap.size W0 w → J u w →
      (∀ i, i < n → L.getD i false = true → Pv i (u (dst i)) w) → wpAny P .any ops Q fuel L (fr u) w := by
    intro fuel
    induction fuel with
    | zero =>
      intro L u w hs hc hn hb hj hp
      have h1 := cntF L.toList n (getD_get hn)
      omega
    | succ fuel ih =>
      intro L u w hs hc hn hb hj hp
      refine ⟨fun h0 => ?_, fun i hi => ?_⟩
      · obtain ⟨j, hj'⟩ := some_ready hback (hs.trans hsz.symm) (n + 1) n (by omega) hn
        rw [h0] at hj'
        cases hj'
      · rw [mem_ready] at hi
        obtain ⟨hL, o, ho, hdep⟩ := hi
        have hlt := getD_lt hL
        by_cases hin : i = n
        · subst hin
          have hdone : ∀ j, j < i → L.getD j false = true := by
            intro j hj2
            rw [List.all_eq_true] at hall
            have h2 := hall j (by rw [List.mem_range]; exact hj2)
            rw [ho] at h2
            simp only [List.any_eq_true, Bool.and_eq_true, decide_eq_true_eq] at h2
            obtain ⟨e, he, he1, he2⟩ := h2
            have := hdep e (Array.mem_toList_iff.1 he) he2
            rwa [he1] at this
          refine wpOp_mono (fun a' w' hq => wpAny_done ?_ hq fuel) (hend u w hb hj (fun j hj2 => hp j hj2 (hdone j hj2)))
          rw [List.eq_nil_iff_forall_not_mem]
          intro j hj2
          rw [mem_ready] at hj2
          obtain ⟨h1, -⟩ := hj2
          have hjl := getD_lt h1
          rw [Array.size_setIfInBounds] at hjl
          by_cases hji : j = i
          · subst hji
            simp [hlt] at h1
          · rw [getD_set_ne true (Ne.symm hji), getD_both (by omega) (hdone j (by omega))] at h1
            cases h1
        · refine wpOp_mono ?_ (hstep u w i (by omega) hb hj (fun o' ho' e he hbi => ?_))
          · rintro a' w' ⟨v, rfl, hb2, hp2, hj2⟩
            refine ih _ _ _ (by rw [Array.size_setIfInBounds]; exact hs) ?_ (by rw [getD_set_ne true hin]; exact hn) (hb.trans (hb2.mono hb.size)) hj2 ?_
            · have h1 := cntF L.toList i (getD_get hL)
              rw [Array.toList_setIfInBounds]
              omega
            · intro j hjn hjl
              by_cases hji : j = i
              · subst hji
                rw [upd_at]
                exact hp2
              · rw [getD_set_ne false (Ne.symm hji)] at hjl
                rw [upd_ne _ _ (fun h => hji (hdst j i hjn (by omega) h))]
                exact hP _ _ _ _ (hp j hjn hjl) hb2
          · rw [ho] at ho'
            simp only [Option.some.injEq] at ho'
            subst ho'
            have h1 := hdep e he hbi
            unfold backB at hback
            rw [List.all_eq_true] at hback
            have h2 := hback i (by rw [List.mem_range]; omega)
            rw [ho] at h2
            simp only [Array.all_eq_true_iff_forall_mem, decide_eq_true_eq] at h2
            have h3 := h2 e he
            exact hp e.on (by omega) h1
  have hrep : (Array.replicate ops.size false).toList.count false = ops.size := by simp
  exact key ops.size _ u0 _ (by rw [Array.size_replicate]; exact hsz) (by rw [hrep]; exact Nat.le_refl _) (by simp [hsz]) ((Below.refl _ _).drew) hJ0 (fun i hi h => by
    rw [hsz] at h
    simp [show i < n + 1 by omega] at h)
end Go.Proofs.YtnkaoeijcdchiaaGreatDoor.G
