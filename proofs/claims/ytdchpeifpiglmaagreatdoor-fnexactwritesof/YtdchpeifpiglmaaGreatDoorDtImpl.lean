/- The program's paths. -/
import Derived.Test.YtdchpeifpiglmaaGreatDoorDtSpec
import Derived.Test.YtdchpeifpiglmaaGreatDoorShelf
import Derived.Test.YtdchpeifpiglmaaGreatDoorStMark
import Derived.Test.YtdchpeifpiglmaaGreatDoorSels
import Derived.Lib.Join
import Derived.Maps.OwnSet
import Derived.RegionTactic
import Derived.Test.YtdchpeifpiglmaaGreatDoorOuTakes
namespace Go.Proofs.YtdchpeifpiglmaaGreatDoor
open Go.ChangeShapes Go.WideShapes Go.ChangeAt Go.RowKit Go.Proofs.YtdchpeifpiglmaaGreatDoor.G
set_option linter.unusedVariables false

/-- What the library's variables that are read hold. -/
def Vars (w : World) : Prop := Lib.TabIs Tryz.prog w "internal/strconv.uint64pow10" .u64 Lib.pow10Tab ∧ (∃ tp p, w.var? Tryz.prog "strconv.ErrSyntax" = some #[.iface tp p]) ∧ ∃ tp p, w.var? Tryz.prog "strconv.ErrRange" = some #[.iface tp p]
theorem var_up {w w' : World} {n : String} {cs : Array Value} (h : w.var? Tryz.prog n = some cs) (hb : Below w.heap.size w w') : w'.var? Tryz.prog n = some cs := by
  unfold World.var? at h ⊢
  cases hg : Tryz.prog.globalNamed n with
  | none => rw [hg] at h; cases h
  | some g =>
    rw [hg] at h
    simp only [Option.bind_some] at h ⊢
    have pos : g < w.heap.size := by
      split at h
      · rename_i hh; exact (Array.getElem?_eq_some_iff.1 hh).1
      · cases h
    rw [hb.block g pos]
    exact h
theorem Vars.up {w w' : World} (h : Vars w) (hb : Below w.heap.size w w') : Vars w' := by
  obtain ⟨h1, ⟨t2, p2, h2⟩, ⟨t3, p3, h3⟩⟩ := h
  exact ⟨var_up h1 hb, ⟨t2, p2, var_up h2 hb⟩, ⟨t3, p3, var_up h3 hb⟩⟩
theorem atoi_any (T : ByteArray) (w : World) (hs : T.size ≤ 1048576) (hv : Vars w) :
    Calls Tryz.prog 124 #[.string T] w fun e w' => ((∃ v, Lib.atoiAll T.toList = .ok v ∧ e = .returned (.tuple #[.int .i64 v, .nilIface])) ∨ ((∀ v, Lib.atoiAll T.toList ≠ .ok v) ∧ ∃ n N, e = .returned (.tuple #[.int .i64 n, .iface 200 (.pointer (some ⟨N, 0, none⟩))]))) ∧ Below w.heap.size w w' := by
  obtain ⟨h1, ⟨t2, p2, h2⟩, ⟨t3, p3, h3⟩⟩ := hv
  rw [ByteArray.toList_eq]
  cases h : Lib.atoiAll T.data.toList
  · rename_i v
    refine (Tryz.strconv_Atoi_ok T (by omega) v h w).mono ?_
    rintro e w1 ⟨rfl, hw⟩
    refine ⟨.inl ⟨v, rfl, rfl⟩, ?_⟩
    rcases hw with rfl | ⟨t, rfl⟩
    · exact Below.refl _ _
    · exact Lib.bytesWorld_below _ _ _
  · refine (Any.strconv_Atoi_syntax_var Tryz.laysC172 T (by omega) h t2 p2 w h2).mono ?_
    rintro e w1 ⟨N, rfl, _, _, hb⟩
    exact ⟨.inr ⟨fun v hv => by (cases hv), 0, N, rfl⟩, hb⟩
  · refine (Tryz.strconv_Atoi_range_var T (by omega) h t3 p3 w h3).mono ?_
    rintro e w1 ⟨N, rfl, _, _, hb⟩
    exact ⟨.inr ⟨fun v hv => by (cases hv), _, N, rfl⟩, hb⟩

theorem grow_below (w : World) (k : Nat) (os : Array Obj) : Below w.heap.size w (Sort.grow (w.drewN k) os) := by
  refine ⟨rfl, rfl, rfl, ?_, ?_⟩
  · show w.heap.size ≤ ((w.drewN k).heap ++ os).size
    have : (w.drewN k).heap = w.heap := rfl
    rw [this]; simp
  · intro i hi
    show ((w.drewN k).heap ++ os)[i]? = w.heap[i]?
    have : (w.drewN k).heap = w.heap := rfl
    rw [this, Array.getElem?_append_left hi]
theorem itoa_any (n : Int) (w : World) (h0 : -9223372036854775808 ≤ n) (h1 : n ≤ 9223372036854775807) (hp : Vars w) :
    Calls Tryz.prog 125 #[.int .i64 n] w fun e w' => e = .returned (.string ⟨(Lib.itoa n).toArray⟩) ∧ Below w.heap.size w w' := by
  refine (Tryz.strconv_Itoa n h0 h1 w hp.1).mono ?_
  rintro e w1 ⟨rfl, k, os, rfl⟩
  exact ⟨rfl, grow_below w k os⟩

/-- What the program makes of a text that begins as a number. -/
def numTok (l : List UInt8) : Tk := match Lib.atoiAll l with
  | .ok n => if Lib.itoa n = l then ⟨2, n, ⟨#[]⟩⟩ else ⟨0, 0, ⟨#[]⟩⟩
  | _ => ⟨0, 0, ⟨#[]⟩⟩
theorem numTok_ok {l : List UInt8} {v : Int} (h : Lib.atoiAll l = .ok v) (he : Lib.itoa v = l) : numTok l = ⟨2, v, ⟨#[]⟩⟩ := by unfold numTok; rw [h]; simp [he]
theorem numTok_no {l : List UInt8} {v : Int} (h : Lib.atoiAll l = .ok v) (he : ¬ Lib.itoa v = l) : numTok l = ⟨0, 0, ⟨#[]⟩⟩ := by unfold numTok; rw [h]; simp [he]
theorem numTok_bad {l : List UInt8} (h : ∀ v, Lib.atoiAll l ≠ .ok v) : numTok l = ⟨0, 0, ⟨#[]⟩⟩ := by
  unfold numTok
  split
  · rename_i v hv; exact absurd hv (h v)
  · rfl
theorem tok_num (l : List UInt8) : (tokB (numTok l).k (numTok l).n (numTok l).t = true → numT l = some (numTok l).n ∧ (numTok l).k = 2 ∧ (numTok l).t = ⟨#[]⟩) ∧ (tokB (numTok l).k (numTok l).n (numTok l).t = false → numT l = none) := by
  have e0 : tokB 0 0 ⟨#[]⟩ = false := by decide
  have e2 : ∀ v, tokB 2 v ⟨#[]⟩ = intB v := by
    intro v; unfold tokB
    rw [if_neg (by omega), if_pos rfl]
    simp [ByteArray.toList_eq]
  by_cases h : ∃ v, Lib.atoiAll l = .ok v
  · obtain ⟨v, hv⟩ := h
    by_cases he : Lib.itoa v = l
    · rw [numTok_ok hv he]
      simp only [e2]
      unfold numT
      rw [hv]
      constructor
      · intro hi; simp [he, hi]
      · intro hi; simp [hi]
    · rw [numTok_no hv he]
      simp only [e0]
      refine ⟨fun h => by (cases h), fun _ => ?_⟩
      unfold numT; rw [hv]; simp [he]
  · have hb : ∀ v, Lib.atoiAll l ≠ .ok v := fun v hv => h ⟨v, hv⟩
    rw [numTok_bad hb]
    simp only [e0]
    refine ⟨fun h => by (cases h), fun _ => ?_⟩
    unfold numT
    split
    · rename_i v hv; exact absurd hv (hb v)
    · rfl
theorem results35_row (tmps : Array Value) (W : World) (N : Nat) (cs : Array Value) (h2 : tmps.getD 2 undef = .pointer (some ⟨N, 0, none⟩)) (hrow : W.heap[N]? = some (.cells cs 164 (0, 0))) (hsz : cs.size = 3) :
    (results Tryz.f113 tmps).run Tryz.prog W = .ok (.agg cs) W := by
  have c39 : (Tryz.prog.info? 164).map (·.size) = some 3 := by kernel_rfl
  exact results_cell_row Tryz.results113 tmps W N 164 cs (0, 0) _ h2 hrow Tryz.underlying164 rfl (by rw [hsz]; exact c39)

set_option maxHeartbeats 1000000 in
theorem number_tok (T : ByteArray) (w : World) (hs : T.size ≤ 1048576) (hv : Vars w) :
    Calls Tryz.prog 113 #[.string T] w fun e w' => e = .returned (.agg #[.int .i64 (numTok T.toList).k, .int .i64 (numTok T.toList).n, .string (numTok T.toList).t]) ∧ Below w.heap.size w w' := by
  have HV : Hid (Vars w) := hv
  clear hv
  go_enter Tryz.func113, Tryz.ntmps113
  go_wp2_with fail
  have HV1 : Hid (Vars (w.alloc (.cells #[.int .i64 0, .int .i64 0, .string ⟨#[]⟩] 164))) := HV.out.up ((Below.refl _ _).alloc (Nat.le_refl _) _)
  refine (atoi_any T _ hs HV1.out).mono ?_
  rintro e w1 ⟨hcase, hb1⟩
  have hz1 : w.heap.size + 1 ≤ w1.heap.size := by have := hb1.size; simpa using this
  have hrow : Hid (w1.heap[w.heap.size]? = some (.cells #[.int .i64 0, .int .i64 0, .string ⟨#[]⟩] 164 (0, 0))) := (hb1.block _ (by simp)).trans (heap_alloc_new _ _)
  have q1 : Below w.heap.size w w1 := ((Below.refl _ _).alloc (Nat.le_refl _) _).trans (hb1.mono (by simp))
  rcases hcase with ⟨v, hv, rfl⟩ | ⟨hbad, n, N, rfl⟩
  · have hb := Lib.atoiAll_bounds hv
    have HV2 : Hid (Vars w1) := HV.out.up q1
    by_cases he : Lib.itoa v = T.toList
    · have HT : Hid (numTok T.toList = ⟨2, v, ⟨#[]⟩⟩) := numTok_ok hv he
      have he' : ((⟨(Lib.itoa v).toArray⟩ : ByteArray).toList == T.toList) = true := by rw [ByteArray.toList_mk, he]; simp
      have HI : Hid (Calls Tryz.prog 125 #[.int .i64 v] w1 fun e w' => e = .returned (.string ⟨(Lib.itoa v).toArray⟩) ∧ Below w1.heap.size w1 w') := itoa_any v w1 hb.1 hb.2 HV2.out
      clear hv he
      generalize (⟨(Lib.itoa v).toArray⟩ : ByteArray) = S at *
      go_wp2_with fail
      refine HI.out.mono ?_
      rintro e w2 ⟨rfl, hb2⟩
      have hrow2 : Hid (w2.heap[w.heap.size]? = some (.cells #[.int .i64 0, .int .i64 0, .string ⟨#[]⟩] 164 (0, 0))) := (hb2.block _ (by omega)).trans hrow.out
      have d0 := row_cell hrow2.out 0
      have d1 := row_cell hrow2.out 1
      have d2 := row_cell hrow2.out 2
      have g0 := row_frozen hrow2.out 0
      have g1 := row_frozen hrow2.out 1
      have g2 := row_frozen hrow2.out 2
      simp at d0 d1 d2
      have q2 := q1.trans (hb2.mono q1.size)
      go_wp2_with fail
      refine bodyPost_ret (v := .agg #[.int .i64 2, .int .i64 v, .string ⟨#[]⟩]) (results35_row _ _ w.heap.size _ rfl (row_set (row_set (row_set hrow2.out _ _) _ _) _ _) rfl) rfl ⟨by rw [HT.out], ?_⟩
      refine Below.setCell ?_ (by simp) _
      refine Below.setCell ?_ (by simp) _
      refine Below.setCell ?_ (by simp) _
      exact q2
    · have HT : Hid (numTok T.toList = ⟨0, 0, ⟨#[]⟩⟩) := numTok_no hv he
      have he' : ((⟨(Lib.itoa v).toArray⟩ : ByteArray).toList == T.toList) = false := by rw [ByteArray.toList_mk]; simpa using he
      have HI : Hid (Calls Tryz.prog 125 #[.int .i64 v] w1 fun e w' => e = .returned (.string ⟨(Lib.itoa v).toArray⟩) ∧ Below w1.heap.size w1 w') := itoa_any v w1 hb.1 hb.2 HV2.out
      clear hv he
      generalize (⟨(Lib.itoa v).toArray⟩ : ByteArray) = S at *
      go_wp2_with fail
      refine HI.out.mono ?_
      rintro e w2 ⟨rfl, hb2⟩
      have hrow2 : Hid (w2.heap[w.heap.size]? = some (.cells #[.int .i64 0, .int .i64 0, .string ⟨#[]⟩] 164 (0, 0))) := (hb2.block _ (by omega)).trans hrow.out
      have d0 := row_cell hrow2.out 0
      have d1 := row_cell hrow2.out 1
      have d2 := row_cell hrow2.out 2
      have g0 := row_frozen hrow2.out 0
      have g1 := row_frozen hrow2.out 1
      have g2 := row_frozen hrow2.out 2
      simp at d0 d1 d2
      have q2 := q1.trans (hb2.mono q1.size)
      go_wp2_with fail
      refine bodyPost_ret (v := .agg #[.int .i64 0, .int .i64 0, .string ⟨#[]⟩]) (results35_row _ _ w.heap.size _ rfl (row_set (row_set (row_set hrow2.out _ _) _ _) _ _) rfl) rfl ⟨by rw [HT.out], ?_⟩
      refine Below.setCell ?_ (by simp) _
      refine Below.setCell ?_ (by simp) _
      refine Below.setCell ?_ (by simp) _
      exact q2
  · have HT : Hid (numTok T.toList = ⟨0, 0, ⟨#[]⟩⟩) := numTok_bad hbad
    clear hbad
    have d0 := row_cell hrow.out 0
    have d1 := row_cell hrow.out 1
    have d2 := row_cell hrow.out 2
    have g0 := row_frozen hrow.out 0
    have g1 := row_frozen hrow.out 1
    have g2 := row_frozen hrow.out 2
    simp at d0 d1 d2
    go_wp2_with fail
    refine bodyPost_ret (v := .agg #[.int .i64 0, .int .i64 0, .string ⟨#[]⟩]) (results35_row _ _ w.heap.size _ rfl (row_set (row_set (row_set hrow.out _ _) _ _) _ _) rfl) rfl ⟨by rw [HT.out], ?_⟩
    refine Below.setCell ?_ (by simp) _
    refine Below.setCell ?_ (by simp) _
    refine Below.setCell ?_ (by simp) _
    exact q1
end Go.Proofs.YtdchpeifpiglmaaGreatDoor
namespace Go.Proofs.YtdchpeifpiglmaaGreatDoor.G
open Go.ChangeShapes Go.WideShapes Go.ChangeAt Go.RowKit
set_option linter.unusedVariables false

def qd (s : ByteArray) : ByteArray := ⟨#[34]⟩ ++ s ++ ⟨#[34]⟩
def pr (k t : ByteArray) : ByteArray := qd k ++ ⟨#[58]⟩ ++ t
theorem qd_size (s : ByteArray) : (qd s).size = s.size + 2 := by
  have h1 : (⟨#[34]⟩ : ByteArray).size = 1 := rfl
  unfold qd; rw [ByteArray.size_append, ByteArray.size_append]; omega
theorem pr_size (k t : ByteArray) : (pr k t).size = k.size + t.size + 3 := by
  have h1 : (⟨#[58]⟩ : ByteArray).size = 1 := rfl
  unfold pr; rw [ByteArray.size_append, ByteArray.size_append, qd_size]; omega
theorem bytes_same {a b : ByteArray} (h : a.data.toList = b.data.toList) : a = b := by
  apply ByteArray.ext; exact Array.toList_inj.1 h
/-- Texts joined by commas: the library's way and ours. -/
theorem cj_cons (x : ByteArray) : ∀ (r : List ByteArray) (k : Nat), k ≤ r.length → (cjTo (x :: r) (k + 1)).data.toList = x.data.toList ++ ((r.take k).map fun s => 44 :: s.data.toList).flatten
  | r, 0, _ => by
    show (cjTo (x :: r) 0 ++ (x :: r).getD 0 ⟨#[]⟩ : ByteArray).data.toList = _
    simp [cjTo]
  | r, k + 1, hk => by
    have ih := cj_cons x r k (by omega)
    have hg : (x :: r).getD (k + 1) ⟨#[]⟩ = r[k] := by
      rw [List.getD_eq_getElem?_getD, List.getElem?_cons_succ, List.getElem?_eq_getElem (by omega)]; rfl
    rw [cjTo, if_pos (by omega), hg, List.take_succ_eq_append_getElem (by omega)]
    rw [ByteArray.data_append, ByteArray.data_append, Array.toList_append, Array.toList_append, ih]
    show (_ ++ [44]) ++ r[k].data.toList = _
    simp only [List.map_append, List.flatten_append, List.map_cons, List.map_nil, List.flatten_cons, List.flatten_nil, List.append_nil, List.append_assoc, List.cons_append, List.nil_append]
theorem cj_join (ss : List ByteArray) : (⟨(Lib.join (ss.map (·.data.toList)) [44]).toArray⟩ : ByteArray) = cj ss := by
  apply bytes_same
  cases ss with
  | nil => rfl
  | cons x r =>
    unfold cj
    rw [List.length_cons, cj_cons x r r.length (Nat.le_refl _), List.take_length, List.map_cons, Lib.join_cons]
    simp only [Lib.joinTail, List.map_map]
    simp
    congr 1
theorem join_len (ss : List ByteArray) : (Lib.join (ss.map (·.data.toList)) [44]).length ≤ sumW ss := by
  have h := cj_size ss
  rw [← cj_join] at h
  have e : (⟨(Lib.join (ss.map (·.data.toList)) [44]).toArray⟩ : ByteArray).size = (Lib.join (ss.map (·.data.toList)) [44]).length := by simp [ByteArray.size]
  omega
def objT (ss : List ByteArray) : ByteArray := ⟨#[123]⟩ ++ cj ss ++ ⟨#[125]⟩
def lisT (ss : List ByteArray) : ByteArray := ⟨#[91]⟩ ++ cj ss ++ ⟨#[93]⟩
end Go.Proofs.YtdchpeifpiglmaaGreatDoor.G
namespace Go.Proofs.YtdchpeifpiglmaaGreatDoor.G
open Go.ChangeShapes Go.WideShapes Go.ChangeAt Go.RowKit
set_option linter.unusedVariables false

/-- The library's table of powers, whatever is done above the globals. -/
def Pow (w : World) : Prop := Lib.TabIs Tryz.prog w "internal/strconv.uint64pow10" .u64 Lib.pow10Tab
theorem gPow : ∃ g, Tryz.prog.globalNamed "internal/strconv.uint64pow10" = some g := by
  have h : (Tryz.prog.globalNamed "internal/strconv.uint64pow10").isSome = true := by kernel_rfl
  exact Option.isSome_iff_exists.1 h
theorem Pow.up {w w' : World} (h : Pow w) (hb : Below w.heap.size w w') : Pow w' := by
  obtain ⟨g, hg⟩ := gPow
  unfold Pow Lib.TabIs World.var? at h ⊢
  rw [hg] at h ⊢
  simp only [Option.bind_some] at h ⊢
  have pos : g < w.heap.size := by
    split at h
    · rename_i hh; exact (Array.getElem?_eq_some_iff.1 hh).1
    · cases h
  rw [hb.block g pos]
  exact h
theorem grow_below (w : World) (k : Nat) (os : Array Obj) : Below w.heap.size w (Sort.grow (w.drewN k) os) := by
  refine ⟨rfl, rfl, rfl, ?_, ?_⟩
  · show w.heap.size ≤ ((w.drewN k).heap ++ os).size
    have : (w.drewN k).heap = w.heap := rfl
    rw [this]; simp
  · intro i hi
    show ((w.drewN k).heap ++ os)[i]? = w.heap[i]?
    have : (w.drewN k).heap = w.heap := rfl
    rw [this, Array.getElem?_append_left hi]
theorem itoa_any (n : Int) (w : World) (h0 : -9223372036854775807 ≤ n) (h1 : n ≤ 9223372036854775807) (hp : Pow w) :
    Calls Tryz.prog 125 #[.int .i64 n] w fun e w' => e = .returned (.string ⟨(Lib.itoa n).toArray⟩) ∧ Below w.heap.size w w' := by
  refine (Tryz.strconv_Itoa n (by omega) h1 w hp).mono ?_
  rintro e w1 ⟨rfl, k, os, rfl⟩
  exact ⟨rfl, grow_below w k os⟩
theorem info9s : (Tryz.prog.info? 9).map (fun i => (i.zero, i.size, i.bytes)) = some (some (.string ⟨#[]⟩), 1, 16) := by kernel_rfl
def LaidW (cs : Array Value) (ts : List ByteArray) (k : Nat) : Prop := ∀ i t, i < k → ts[i]? = some t → cs[i]? = some (.string t)
theorem LaidW.put {cs : Array Value} {ts : List ByteArray} {k : Nat} {t : ByteArray} (h : LaidW cs ts k) (hk : k < cs.size) (ht : ts[k]? = some t) : LaidW (cs.setIfInBounds k (.string t)) ts (k + 1) := by
  intro i t' hi ht'
  by_cases hik : i = k
  · subst hik
    rw [ht, Option.some.injEq] at ht'
    subst ht'
    simp [hk]
  · rw [Array.getElem?_setIfInBounds_ne (fun e => hik e.symm)]
    exact h i t' (by omega) ht'
theorem LaidW.row {cs : Array Value} {ts : List ByteArray} {B : Nat} {w : World} {e : TypeId} (h : LaidW cs ts ts.length) (hB : w.heap[B]? = some (.cells cs e (0, 0))) : KeRow 0 w.heap.size w (some ⟨B, 0, none⟩) ts := by
  refine .inr ⟨B, 0, rfl, Nat.zero_le _, (Array.getElem?_eq_some_iff.1 hB).1, fun i x hx => ?_⟩
  rw [row_rd hB]
  show cs[0 + i * 1]? = _
  rw [Nat.zero_add, Nat.mul_one]
  exact h i x (List.getElem?_eq_some_iff.1 hx).1 hx
theorem words_len : ∀ (l : Ous) (ob : Bool) (ks : List ByteArray), (wordsO ob ks l).length = l.len
  | .nil, _, _ => rfl
  | .cons h sub rest, ob, ks => by rw [wordsO, List.length_cons, words_len rest]; rfl
/-- The words from the k-th on. -/
def WordsAt (ob : Bool) (ks : List ByteArray) (l : Ous) (k : Nat) (rest : Ous) : Prop := (wordsO ob ks l).drop k = wordsO ob (ks.drop k) rest
theorem WordsAt.next {ob : Bool} {ks : List ByteArray} {l : Ous} {k : Nat} {h : Oh} {sub rest : Ous} (hw : WordsAt ob ks l k (.cons h sub rest)) : (wordsO ob ks l)[k]? = some (keyed ob (ks.getD k ⟨#[]⟩) (outT h sub)) ∧ WordsAt ob ks l (k + 1) rest := by
  unfold WordsAt at hw ⊢
  rw [words_cons] at hw
  constructor
  · have := congrArg List.head? hw
    rw [List.head?_drop] at this
    exact this
  · have := congrArg List.tail hw
    rw [List.tail_drop] at this
    exact this
theorem ok_out {d : Nat} {h : Oh} {sub rest : Ous} (hok : okO d (.cons h sub rest) = true) (hs : (Ous.cons h sub rest).size ≤ 4000) : outB d h sub = true ∧ okO d rest = true ∧ rest.size ≤ 4000 := by
  rw [okO_cons, Bool.and_eq_true] at hok
  simp only [Ous.size] at hs
  refine ⟨?_, hok.2, by omega⟩
  unfold outB; rw [hok.1, decide_eq_true (by omega)]; rfl
end Go.Proofs.YtdchpeifpiglmaaGreatDoor.G
namespace Go.Proofs.YtdchpeifpiglmaaGreatDoor.G
open Go.ChangeShapes Go.WideShapes Go.ChangeAt Go.RowKit
set_option linter.unusedVariables false

/-- One slot written. -/
def upd (u : Nat → Value) (d : Nat) (v : Value) : Nat → Value := fun n => if n = d then v else u n
theorem upd_at (u : Nat → Value) (d : Nat) (v : Value) : upd u d v d = v := by simp [upd]
theorem upd_ne (u : Nat → Value) {d n : Nat} (v : Value) (h : n ≠ d) : upd u d v n = u n := by simp [upd, h]
/-- Every edge goes back. -/
def backB (ops : Array Oper) : Bool := (List.range ops.size).all fun i => match ops[i]? with
  | some o => o.after.all fun e => decide (e.on < i)
  | none => true
/-- Operation n is the last, and waits for all. -/
def lastB (ops : Array Oper) (n : Nat) : Bool := decide (ops.size = n + 1) && (List.range n).all fun i => match ops[n]? with
  | some o => o.after.toList.any fun e => decide (e.on = i) && Region.binds .any e
  | none => false
theorem cntF : ∀ (l : List Bool) (i : Nat), l[i]? = some false → (l.set i true).count false + 1 = l.count false
  | [], i, h => by simp at h
  | b :: l, 0, h => by
    simp only [List.getElem?_cons_zero, Option.some.injEq] at h
    subst h
    simp
  | b :: l, i + 1, h => by
    have := cntF l i (by simpa using h)
    simp only [List.set_cons_succ, List.count_cons]
    omega
theorem getD_lt {L : Array Bool} {i : Nat} (h : L.getD i true = false) : i < L.size := by
  rcases Nat.lt_or_ge i L.size with h' | h'
  · exact h'
  · simp [Array.getElem?_eq_none h'] at h
theorem getD_get {L : Array Bool} {i : Nat} (h : L.getD i true = false) : L.toList[i]? = some false := by
  have hi := getD_lt h
  simp only [Array.getD_eq_getD_getElem?, Array.getElem?_eq_getElem hi, Option.getD_some] at h
  simp [hi, h]
theorem getD_other {L : Array Bool} {i : Nat} (hi : i < L.size) (h : ¬ L.getD i false = true) : L.getD i true = false := by
  simp only [Array.getD_eq_getD_getElem?, Array.getElem?_eq_getElem hi, Option.getD_some] at h ⊢
  simpa using h
theorem getD_both {L : Array Bool} {i : Nat} (hi : i < L.size) (h : L.getD i false = true) : L.getD i true = true := by
  simp only [Array.getD_eq_getD_getElem?, Array.getElem?_eq_getElem hi, Option.getD_some] at h ⊢
  exact h
theorem some_ready {ops : Array Oper} (hback : backB ops = true) {L : Array Bool} (hs : L.size = ops.size) : ∀ (k i : Nat), i < k → L.getD i true = false → ∃ j, j ∈ Region.ready .any ops L
  | 0, i, hk, _ => by omega
  | k + 1, i, hk, hi => by
    have hlt := getD_lt hi
    have ho : ops[i]? = some (ops[i]'(by omega)) := Array.getElem?_eq_getElem (by omega)
    by_cases hr : i ∈ Region.ready .any ops L
    · exact ⟨i, hr⟩
    · rw [mem_ready] at hr
      have : ¬ ∀ e ∈ (ops[i]'(by omega)).after, Region.binds .any e = true → L.getD e.on false = true := fun hh => hr ⟨hi, _, ho, hh⟩
      simp only [Classical.not_forall] at this
      obtain ⟨e, he, hb, hne⟩ := this
      have hbk := hback
      unfold backB at hbk
      rw [List.all_eq_true] at hbk
      have h2 := hbk i (by rw [List.mem_range]; omega)
      rw [ho] at h2
      simp only [Array.all_eq_true_iff_forall_mem, decide_eq_true_eq] at h2
      have h3 := h2 e he
      exact some_ready hback hs k e.on (by omega) (getD_other (by omega) hne)

theorem region_rel {P : Program} {ops : Array Oper} {Q : Exit → Act → World → Prop} {id : Nat} {W0 : World} {n : Nat} (hm : P.follows .mixedOrders = true) (hback : backB ops = true) (hlast : lastB ops n = true)
    (fr : (Nat → Value) → Act) (u0 : Nat → Value) (dst : Nat → Nat) (hdst : ∀ i j, i < n → j < n → dst i = dst j → i = j)
    (Pv : Nat → Value → World → Prop) (J : (Nat → Value) → World → Prop)
    (hP : ∀ i v w w', Pv i v w → Below w.heap.size w w' → Pv i v w') (hJ0 : J u0 W0.drew)
    (hstep : ∀ u w i, i < n → Below W0.heap.size W0 w → J u w → (∀ o, ops[i]? = some o → ∀ e ∈ o.after, Region.binds .any e = true → Pv e.on (u (dst e.on)) w) →
      wpOp P ops Q i (fun a' w' => ∃ v, a' = fr (upd u (dst i) v) ∧ Below w.heap.size w w' ∧ Pv i v w' ∧ J (upd u (dst i) v) w') (fr u) w)
    (hend : ∀ u w, Below W0.heap.size W0 w → J u w → (∀ i, i < n → Pv i (u (dst i)) w) → wpOp P ops Q n (fun a' w' => Q .normal a' w') (fr u) w) :
    (Code.region id ops true).wp P Q (fr u0) W0 := by
  unfold lastB at hlast
  rw [Bool.and_eq_true, decide_eq_true_eq] at hlast
  obtain ⟨hsz, hall⟩ := hlast
  refine wp_region_any hm ?_
  have key : ∀ (fuel : Nat) (L : Array Bool) (u : Nat → Value) (w : World), L.size = n + 1 → L.toList.count false ≤ fuel → L.getD n true = false → Below W0.heap.size W0 w → J u w →
      (∀ i, i < n → L.getD i false = true → Pv i (u (dst i)) w) → wpAny P .any ops Q fuel L (fr u) w := by
    intro fuel
    induction fuel with
    | zero =>
      intro L u w hs hc hn hb hj hp
      have h1 := cntF L.toList n (getD_get hn)
      omega
    | succ fuel ih =>
      intro L u w hs hc hn hb hj hp
      refine ⟨fun h0 => ?_, fun i hi => ?_⟩
      · obtain ⟨j, hj'⟩ := some_ready hback (hs.trans hsz.symm) (n + 1) n (by omega) hn
        rw [h0] at hj'
        cases hj'
      · rw [mem_ready] at hi
        obtain ⟨hL, o, ho, hdep⟩ := hi
        have hlt := getD_lt hL
        by_cases hin : i = n
        · subst hin
          have hdone : ∀ j, j < i → L.getD j false = true := by
            intro j hj2
            rw [List.all_eq_true] at hall
            have h2 := hall j (by rw [List.mem_range]; exact hj2)
            rw [ho] at h2
            simp only [List.any_eq_true, Bool.and_eq_true, decide_eq_true_eq] at h2
            obtain ⟨e, he, he1, he2⟩ := h2
            have := hdep e (Array.mem_toList_iff.1 he) he2
            rwa [he1] at this
          refine wpOp_mono (fun a' w' hq => wpAny_done ?_ hq fuel) (hend u w hb hj (fun j hj2 => hp j hj2 (hdone j hj2)))
          rw [List.eq_nil_iff_forall_not_mem]
          intro j hj2
          rw [mem_ready] at hj2
          obtain ⟨h1, -⟩ := hj2
          have hjl := getD_lt h1
          rw [Array.size_setIfInBounds] at hjl
          by_cases hji : j = i
          · subst hji
            simp [hlt] at h1
          · rw [getD_set_ne true (Ne.symm hji), getD_both (by omega) (hdone j (by omega))] at h1
            cases h1
        · refine wpOp_mono ?_ (hstep u w i (by omega) hb hj (fun o' ho' e he hbi => ?_))
          · rintro a' w' ⟨v, rfl, hb2, hp2, hj2⟩
            refine ih _ _ _ (by rw [Array.size_setIfInBounds]; exact hs) ?_ (by rw [getD_set_ne true hin]; exact hn) (hb.trans (hb2.mono hb.size)) hj2 ?_
            · have h1 := cntF L.toList i (getD_get hL)
              rw [Array.toList_setIfInBounds]
              omega
            · intro j hjn hjl
              by_cases hji : j = i
              · subst hji
                rw [upd_at]
                exact hp2
              · rw [getD_set_ne false (Ne.symm hji)] at hjl
                rw [upd_ne _ _ (fun h => hji (hdst j i hjn (by omega) h))]
                exact hP _ _ _ _ (hp j hjn hjl) hb2
          · rw [ho] at ho'
            simp only [Option.some.injEq] at ho'
            subst ho'
            have h1 := hdep e he hbi
            unfold backB at hback
            rw [List.all_eq_true] at hback
            have h2 := hback i (by rw [List.mem_range]; omega)
            rw [ho] at h2
            simp only [Array.all_eq_true_iff_forall_mem, decide_eq_true_eq] at h2
            have h3 := h2 e he
            exact hp e.on (by omega) h1
  have hrep : (Array.replicate ops.size false).toList.count false = ops.size := by simp
  exact key ops.size _ u0 _ (by rw [Array.size_replicate]; exact hsz) (by rw [hrep]; exact Nat.le_refl _) (by simp [hsz]) ((Below.refl _ _).drew) hJ0 (fun i hi h => by
    rw [hsz] at h
    simp [show i < n + 1 by omega] at h)
end Go.Proofs.YtdchpeifpiglmaaGreatDoor.G
namespace Go.Proofs.YtdchpeifpiglmaaGreatDoor.G
open Go.ChangeShapes Go.WideShapes Go.ChangeAt Go.RowKit
set_option linter.unusedVariables false

theorem keyed_pr (k s : ByteArray) : keyed true k s = pr k s := by
  unfold keyed pr qd
  rw [if_pos rfl]
  apply bytes_same
  simp
end Go.Proofs.YtdchpeifpiglmaaGreatDoor.G
namespace Go.Proofs.YtdchpeifpiglmaaGreatDoor.G
open Go.ChangeShapes Go.WideShapes Go.ChangeAt Go.RowKit
set_option linter.unusedVariables false

theorem ta_int_int (n : Int) (w : World) : (Instr.typeAssert (.iface 3 (.int .i64 n)) 20 3 true).run Tryz.prog w = .ok (.tuple #[.int .i64 n, .bool true]) w := by kernel_rfl
theorem ta_str_int (s : ByteArray) (w : World) : (Instr.typeAssert (.iface 9 (.string s)) 20 3 true).run Tryz.prog w = .ok (.tuple #[.int .i64 0, .bool false]) w := by kernel_rfl
theorem ta_str_str (s : ByteArray) (w : World) : (Instr.typeAssert (.iface 9 (.string s)) 20 9 true).run Tryz.prog w = .ok (.tuple #[.string s, .bool true]) w := by kernel_rfl
theorem ta_lis_int (a : Option Addr) (l c : Nat) (w : World) : (Instr.typeAssert (.iface 42 (.slice a l c)) 20 3 true).run Tryz.prog w = .ok (.tuple #[.int .i64 0, .bool false]) w := by kernel_rfl
theorem ta_lis_str (a : Option Addr) (l c : Nat) (w : World) : (Instr.typeAssert (.iface 42 (.slice a l c)) 20 9 true).run Tryz.prog w = .ok (.tuple #[.string ⟨#[]⟩, .bool false]) w := by kernel_rfl
theorem ta_lis_lis (a : Option Addr) (l c : Nat) (w : World) : (Instr.typeAssert (.iface 42 (.slice a l c)) 20 42 true).run Tryz.prog w = .ok (.tuple #[.slice a l c, .bool true]) w := by kernel_rfl
theorem ta_nil_int (w : World) : (Instr.typeAssert .nilIface 20 3 true).run Tryz.prog w = .ok (.tuple #[.int .i64 0, .bool false]) w := by kernel_rfl
theorem ta_nil_str (w : World) : (Instr.typeAssert .nilIface 20 9 true).run Tryz.prog w = .ok (.tuple #[.string ⟨#[]⟩, .bool false]) w := by kernel_rfl
theorem ta_nil_lis (w : World) : (Instr.typeAssert .nilIface 20 42 true).run Tryz.prog w = .ok (.tuple #[.slice none 0 0, .bool false]) w := by kernel_rfl
theorem outT_list {h : Oh} {sub : Ous} (k3 : h.k = 3) : outT h sub = lisT (wordsO false [] sub) := by
  have e : ∀ (l : Ous) (ks ks' : List ByteArray), wordsO false ks l = wordsO false ks' l := by
    intro l
    induction l with
    | nil => intro _ _; rfl
    | cons h s r _ ih => intro ks ks'; rw [wordsO, wordsO, ih ks.tail ks'.tail]; rfl
  unfold outT valT lisT endsA endsB
  rw [k3]
  simp only [show ¬ (3 : Int) = 0 by decide, show ¬ (3 : Int) = 1 by decide, show ¬ (3 : Int) = 2 by decide, show ¬ (3 : Int) = 4 by decide, if_false]
  rw [show ((3 : Int) == 4) = false from rfl, e sub h.keys []]
theorem outT_obj {h : Oh} {sub : Ous} (k4 : h.k = 4) : outT h sub = objT (wordsO true h.keys sub) := by
  unfold outT valT objT endsA endsB
  rw [k4]
  simp only [show ¬ (4 : Int) = 0 by decide, show ¬ (4 : Int) = 1 by decide, show ¬ (4 : Int) = 2 by decide, if_false, if_true]
  rfl
theorem head_obj {h : Oh} {sub : Ous} (hh : headB h sub = true) (k4 : h.k = 4) : h.keys.length = sub.len := by
  unfold headB at hh
  rw [k4] at hh
  simp at hh
  exact hh.1.2
/-- What OutText tells. -/
def outE (h : Oh) (sub : Ous) : Ending := if outB 20 h sub = true then .returned (.tuple #[.string (outT h sub), .int .i64 0]) else .returned (.tuple #[.string ⟨#[]⟩, .int .i64 1])
end Go.Proofs.YtdchpeifpiglmaaGreatDoor.G
namespace Go.Proofs.YtdchpeifpiglmaaGreatDoor.G
open Go.ChangeShapes Go.WideShapes Go.ChangeAt Go.RowKit
set_option linter.unusedVariables false

/-- Where the first point lies: none, or at i, and none ahead of it. -/
theorem index_at : ∀ l : List UInt8, (Lib.indexByte l 46 = -1 ∧ ∀ c ∈ l, c ≠ 46) ∨ ∃ p r, l = p ++ 46 :: r ∧ Lib.indexByte l 46 = p.length ∧ ∀ c ∈ p, c ≠ 46
  | [] => .inl ⟨rfl, by simp⟩
  | b :: l => by
    rw [Lib.indexByte]
    by_cases hb : b = 46
    · subst hb
      exact .inr ⟨[], l, rfl, by simp, by simp⟩
    · rw [if_neg (by simpa using hb)]
      rcases index_at l with ⟨h1, h2⟩ | ⟨p, r, rfl, h2, h3⟩
      · refine .inl ⟨by rw [h1]; rfl, ?_⟩
        intro c hc
        rcases List.mem_cons.1 hc with rfl | hc
        · exact hb
        · exact h2 c hc
      · refine .inr ⟨b :: p, r, rfl, ?_, ?_⟩
        · rw [h2, if_neg (by simp)]; simp
        · intro c hc
          rcases List.mem_cons.1 hc with rfl | hc
          · exact hb
          · exact h3 c hc
/-- What strings.Cut at a point answers. -/
def CutV (s part rest : ByteArray) (more : Bool) : Prop := (more = false ∧ part = s ∧ pathB s = partB s) ∨ (more = true ∧ pathB s = (partB part && pathB rest) ∧ rest.size < s.size ∧ part.size ≤ s.size)
theorem path_none {s : ByteArray} (h : ∀ c ∈ s.toList, c ≠ 46) : pathB s = partB s := by
  unfold pathB; rw [splitL_none h]; simp [partL_of]
theorem path_cut {s : ByteArray} {i : Nat} {p r : List UInt8} (hs : s.toList = p ++ 46 :: r) (hi : i = p.length) (hp : ∀ c ∈ p, c ≠ 46) : pathB s = (partB (s.extract 0 i) && pathB (s.extract (i + 1) s.size)) := by
  have hlen : s.size = p.length + (r.length + 1) := by have := congrArg List.length hs; rw [toList_len] at this; simpa using this
  have e1 : (s.extract 0 i).toList = p := by rw [toList_extract, hs, hi]; simp
  have e2 : (s.extract (i + 1) s.size).toList = r := by
    rw [toList_extract, hs, hi, show p ++ 46 :: r = (p ++ [46]) ++ r by simp, List.drop_left' (by simp), List.take_of_length_le (by omega)]
  unfold pathB
  rw [e2, hs, splitL_cut hp, List.all_cons, ← partL_of, e1]
set_option maxHeartbeats 2000000 in
theorem lite_cut (s : ByteArray) (w : World) (hs : s.size ≤ 1048576) :
    Calls Tryz.prog 112 #[.string s, .string ⟨#[46]⟩] w fun e w' => ∃ part rest more, e = .returned (.tuple #[.string part, .string rest, .bool more]) ∧ CutV s part rest more ∧ Below w.heap.size w w' := by
  have key := index_at s.toList
  rw [ByteArray.toList_eq] at key
  rcases key with ⟨h1, h2⟩ | ⟨p, r, h1, h2, h3⟩
  · have HC : Hid (pathB s = partB s) := path_none (by rw [ByteArray.toList_eq]; exact h2)
    have HI := Tryz.stringslite_Index_one s 46
    rw [h1] at HI
    clear h1 h2
    go_enter Tryz.func112, Tryz.ntmps112
    go_wp2_with fail
    refine (HI _).mono ?_
    rintro e w1 ⟨rfl, rfl⟩
    clear HI
    go_wp2_with fail
    go_ret3
    exact ⟨s, ⟨#[]⟩, false, rfl, .inl ⟨rfl, rfl, HC.out⟩, Below.refl _ _⟩
  · have hlen : s.size = p.length + (r.length + 1) := by have := congrArg List.length h1; simpa using this
    obtain ⟨i, hi⟩ : ∃ i, i = p.length := ⟨_, rfl⟩
    have HC : Hid (pathB s = (partB (s.extract 0 i) && pathB (s.extract (i + 1) s.size))) := path_cut (by rw [ByteArray.toList_eq]; exact h1) hi h3
    have HI := Tryz.stringslite_Index_one s 46
    rw [h2, ← hi] at HI
    have HII : Hid _ := HI
    have hi1 : i + 1 ≤ s.size := by omega
    have hi2 : (i : Int) + 1 ≤ s.size := by omega
    have hi3 : (i : Int) ≤ s.size := by omega
    have m1 : (⟨#[46]⟩ : ByteArray).size = 1 := rfl
    clear h1 h2 h3 HI hlen hi
    go_enter Tryz.func112, Tryz.ntmps112
    go_wp2_with fail
    refine (HII.out _).mono ?_
    rintro e w1 ⟨rfl, rfl⟩
    go_upto_region 3 with fail
    go_quiet (fail)
    go_wp2_with fail
    go_ret3
    refine ⟨s.extract 0 i, s.extract (i + 1) s.size, true, rfl, .inr ⟨rfl, HC.out, ?_, ?_⟩, ?_⟩
    · rw [ByteArray.size_extract]; omega
    · rw [ByteArray.size_extract]; omega
    · exact ⟨rfl, rfl, rfl, Nat.le_refl _, fun _ _ => rfl⟩
set_option maxHeartbeats 1000000 in
theorem str_cut (s : ByteArray) (w : World) (hs : s.size ≤ 1048576) :
    Calls Tryz.prog 95 #[.string s, .string ⟨#[46]⟩] w fun e w' => ∃ part rest more, e = .returned (.tuple #[.string part, .string rest, .bool more]) ∧ CutV s part rest more ∧ Below w.heap.size w w' := by
  go_enter Tryz.func95, Tryz.ntmps95
  go_wp2_with fail
  refine (lite_cut s _ hs).mono ?_
  rintro e w1 ⟨part, rest, more, rfl, hc, hb⟩
  have HC : Hid _ := hc
  have HB : Hid _ := hb
  clear hc hb
  go_wp2_with fail
  go_ret3
  exact ⟨part, rest, more, rfl, HC.out, HB.out⟩
theorem place_of (l : List UInt8) : placeB l = (decide (0 ≤ (numTok l).n) && tokB (numTok l).k (numTok l).n (numTok l).t) := by
  obtain ⟨h1, h2⟩ := tok_num l
  unfold placeB
  cases ht : tokB (numTok l).k (numTok l).n (numTok l).t
  · rw [h2 ht]; simp
  · rw [(h1 ht).1]; simp
theorem numTok_t (l : List UInt8) : (numTok l).t = ⟨#[]⟩ := by
  unfold numTok
  split
  · split <;> rfl
  · rfl
set_option maxHeartbeats 2000000 in
theorem impl_place (s : ByteArray) (w : World) (hs : s.size ≤ 1048576) (hv : Vars w) :
    Calls Tryz.prog 96 #[.string s] w fun e w' => e = .returned (.bool (placeB s.toList)) ∧ Below w.heap.size w w' := by
  have HV : Hid _ := hv
  have HP : Hid (placeB s.toList = (decide (0 ≤ (numTok s.toList).n) && tokB (numTok s.toList).k (numTok s.toList).n (numTok s.toList).t)) := place_of s.toList
  have htz : (numTok s.toList).t.size ≤ maxLen := by rw [numTok_t]; decide
  clear hv
  go_enter Tryz.func96, Tryz.ntmps96
  go_wp2_with fail
  refine (number_tok s _ hs HV.out).mono ?_
  rintro e w1 ⟨rfl, hb1⟩
  have HB1 : Hid _ := hb1
  clear hb1 HV
  generalize numTok s.toList = q at *
  obtain ⟨U, hU⟩ : ∃ X, X = w1.alloc (.cells #[.int .i64 q.k, .int .i64 q.n, .string q.t] 164) := ⟨_, rfl⟩
  have BU : Below w1.heap.size w1 U := by rw [hU]; exact (Below.refl _ _).alloc (Nat.le_refl _) _
  have c0 : U.heap[w1.heap.size]? = some (.cells #[.int .i64 q.k, .int .i64 q.n, .string q.t] 164 (0, 0)) := by rw [hU]; exact heap_alloc_new _ _
  have x0 := fun o => row_cell c0 o
  have HBU : Hid (Below w.heap.size w U) := HB1.out.trans (BU.mono HB1.out.size)
  clear BU c0
  by_cases hn : 0 ≤ q.n
  · have HF : Hid (tokB q.k q.n q.t = placeB s.toList) := by rw [Hid, HP.out, decide_eq_true hn]; rfl
    go_upto_region 2 with fail
    rw [← hU]
    clear hU
    go_wp2_with fail
    refine (impl_tokOK q.k q.n q.t _ htz).mono ?_
    rintro e w2 ⟨rfl, hb2⟩
    have HB2 : Hid (Below w.heap.size w w2) := HBU.out.trans (hb2.mono HBU.out.size)
    clear hb2 x0
    go_wp2_with fail
    go_ret
    exact ⟨ret_bool HF.out, HB2.out⟩
  · have HF : Hid (false = placeB s.toList) := by rw [Hid, HP.out, decide_eq_false hn]; rfl
    go_upto_region 2 with fail
    rw [← hU]
    clear hU
    go_wp2_with fail
    go_ret
    exact ⟨ret_bool HF.out, HBU.out⟩
def szV : Value → Nat | .string r => r.size | _ => 0
set_option maxHeartbeats 4000000 in
theorem impl_path (s : ByteArray) (w : World) (hs : s.size ≤ 1048576) (hv : Vars w) :
    Calls Tryz.prog 74 #[.string s] w fun e w' => e = .returned (.bool (pathB s)) ∧ Below w.heap.size w w' := by
  have HV : Hid (∀ W, Below w.heap.size w W → Vars W) := fun W hW => hv.up hW
  clear hv
  go_enter Tryz.func74, Tryz.ntmps74
  go_wp2_with fail
  go_loopw [0] (fun v w' => ∃ r : ByteArray, v = .string r ∧ r.size ≤ s.size ∧ Hid (Below w.heap.size w w') ∧ Hid (pathB s = pathB r)) (fun v _ => szV v)
  case atStart => exact ⟨s, rfl, Nat.le_refl _, Below.refl _ _, rfl⟩
  case round =>
    obtain ⟨wo, rfl⟩ : ∃ x, x = wr := ⟨_, rfl⟩
    obtain ⟨r, rfl, hr, HB, HD⟩ := hrel
    go_wp2_with fail
    refine (str_cut r _ (by omega)).mono ?_
    rintro e w1 ⟨part, rest, more, rfl, hc, hb1⟩
    have HB1 : Hid (Below w.heap.size w w1) := HB.out.trans (hb1.mono HB.out.size)
    clear hb1
    rcases hc with ⟨rfl, rfl, hcc⟩ | ⟨rfl, hcc, hlt, hpz⟩
    · cases hnb : nameB part
      · go_wp2_with fail
        refine (impl_nameOK part _ (by unfold maxLen; omega)).mono ?_
        rintro e w2 ⟨rfl, hb2⟩
        have HB2 : Hid (Below w.heap.size w w2) := HB1.out.trans (hb2.mono HB1.out.size)
        clear hb2
        rw [hnb]
        cases hpl : placeB part.toList
        · have HF : Hid (false = pathB s) := by rw [Hid, HD.out, hcc]; unfold partB; rw [hnb, hpl]; rfl
          go_wp2_with fail
          refine (impl_place part _ (by omega) (HV.out _ HB2.out)).mono ?_
          rintro e w3 ⟨rfl, hb3⟩
          have HB3 : Hid (Below w.heap.size w w3) := HB2.out.trans (hb3.mono HB2.out.size)
          clear hb3
          rw [hpl]
          go_wp2_with fail
          go_ret
          exact ⟨ret_bool HF.out, HB3.out⟩
        · have HF : Hid (true = pathB s) := by rw [Hid, HD.out, hcc]; unfold partB; rw [hnb, hpl]; rfl
          go_wp2_with fail
          refine (impl_place part _ (by omega) (HV.out _ HB2.out)).mono ?_
          rintro e w3 ⟨rfl, hb3⟩
          have HB3 : Hid (Below w.heap.size w w3) := HB2.out.trans (hb3.mono HB2.out.size)
          clear hb3
          rw [hpl]
          go_wp2_with fail
          go_ret
          exact ⟨ret_bool HF.out, HB3.out⟩
      · have HF : Hid (true = pathB s) := by rw [Hid, HD.out, hcc]; unfold partB; rw [hnb]; rfl
        go_wp2_with fail
        refine (impl_nameOK part _ (by unfold maxLen; omega)).mono ?_
        rintro e w2 ⟨rfl, hb2⟩
        have HB2 : Hid (Below w.heap.size w w2) := HB1.out.trans (hb2.mono HB1.out.size)
        clear hb2
        rw [hnb]
        go_wp2_with fail
        go_ret
        exact ⟨ret_bool HF.out, HB2.out⟩
    · cases hnb : nameB part
      · go_wp2_with fail
        refine (impl_nameOK part _ (by unfold maxLen; omega)).mono ?_
        rintro e w2 ⟨rfl, hb2⟩
        have HB2 : Hid (Below w.heap.size w w2) := HB1.out.trans (hb2.mono HB1.out.size)
        clear hb2
        rw [hnb]
        cases hpl : placeB part.toList
        · have HF : Hid (false = pathB s) := by rw [Hid, HD.out, hcc]; unfold partB; rw [hnb, hpl]; rfl
          go_wp2_with fail
          refine (impl_place part _ (by omega) (HV.out _ HB2.out)).mono ?_
          rintro e w3 ⟨rfl, hb3⟩
          have HB3 : Hid (Below w.heap.size w w3) := HB2.out.trans (hb3.mono HB2.out.size)
          clear hb3
          rw [hpl]
          go_wp2_with fail
          go_ret
          exact ⟨ret_bool HF.out, HB3.out⟩
        · have HF : Hid (pathB s = pathB rest) := by rw [Hid, HD.out, hcc]; unfold partB; rw [hnb, hpl]; rfl
          go_wp2_with fail
          refine (impl_place part _ (by omega) (HV.out _ HB2.out)).mono ?_
          rintro e w3 ⟨rfl, hb3⟩
          have HB3 : Hid (Below w.heap.size w w3) := HB2.out.trans (hb3.mono HB2.out.size)
          clear hb3
          rw [hpl]
          go_wp2_with fail
          exact ⟨⟨rest, rfl, by omega, HB3, HF⟩, hlt⟩
      · have HF : Hid (pathB s = pathB rest) := by rw [Hid, HD.out, hcc]; unfold partB; rw [hnb]; rfl
        go_wp2_with fail
        refine (impl_nameOK part _ (by unfold maxLen; omega)).mono ?_
        rintro e w2 ⟨rfl, hb2⟩
        have HB2 : Hid (Below w.heap.size w w2) := HB1.out.trans (hb2.mono HB1.out.size)
        clear hb2
        rw [hnb]
        go_wp2_with fail
        exact ⟨⟨rest, rfl, by omega, HB2, HF⟩, hlt⟩
set_option maxHeartbeats 2000000 in
theorem impl_paths (a : Option Addr) (c : Nat) (ps : List ByteArray) (w : World) (hp : KeRow 0 w.heap.size w a ps) (hz : sumW ps ≤ 1048576) (hv : Vars w) :
    Calls Tryz.prog 54 #[.slice a ps.length c] w fun e w' => e = .returned (.bool (pathsB ps)) ∧ Below w.heap.size w w' := by
  have HV : Hid (∀ W, Below w.heap.size w W → Vars W ∧ KeRow 0 W.heap.size W a ps) := fun W hW => ⟨hv.up hW, KeRow.up hp hW⟩
  have HZ : Hid _ := hz
  have hln := len_sumW ps
  have hln2 : ps.length ≤ 1048576 := by omega
  clear hv hp hz hln
  go_enter Tryz.func54, Tryz.ntmps54
  go_wp2_with fail
  go_loopw [7] (fun i w' => ∃ k : Nat, k ≤ ps.length ∧ i = .int .i64 k ∧ Hid (Below w.heap.size w w') ∧ Hid (pathsB ps = (ps.drop k).all pathB)) (fun i _ => ps.length - (intOf i).toNat)
  case atStart => exact ⟨0, by omega, rfl, Below.refl _ _, rfl⟩
  case round =>
    obtain ⟨wo, rfl⟩ : ∃ x, x = wr := ⟨_, rfl⟩
    obtain ⟨k, hk, rfl, HB, HD⟩ := hrel
    obtain ⟨q1, q5⟩ := HV.out _ HB.out
    by_cases hlt : k < ps.length
    · obtain ⟨b, o, ha, _, hbl, ck⟩ := KeRow.cells q5 k hlt
      have hkz : ps[k].size ≤ 1048576 := by have := mem_sumW (List.getElem_mem hlt); have := HZ.out; omega
      have HD1 : Hid (pathsB ps = (pathB ps[k] && (ps.drop (k + 1)).all pathB)) := by rw [Hid, HD.out, List.drop_eq_getElem_cons hlt, List.all_cons]
      have Q1 : Hid _ := q1
      have hlt' : (k : Int) < ps.length := by omega
      subst ha
      clear q1 q5 HD
      go_wp2_with fail
      refine (impl_path ps[k] _ hkz Q1.out).mono ?_
      rintro e w2 ⟨rfl, hb2⟩
      have HB2 : Hid (Below w.heap.size w w2) := HB.out.trans (hb2.mono HB.out.size)
      clear hb2
      cases hpk : pathB ps[k]
      · have HF : Hid (false = pathsB ps) := by rw [Hid, HD1.out, hpk]; rfl
        go_wp2_with fail
        go_ret
        exact ⟨ret_bool HF.out, HB2.out⟩
      · have HF : Hid (pathsB ps = (ps.drop (k + 1)).all pathB) := by rw [Hid, HD1.out, hpk]; rfl
        go_wp2_with fail
        exact ⟨⟨k + 1, by omega, by go_num, HB2, HF⟩, by simp [intOf]; omega⟩
    · obtain rfl : k = ps.length := by omega
      have HE : Hid (true = pathsB ps) := by rw [Hid, HD.out, List.drop_length]; rfl
      clear q1 q5
      go_wp2_with fail
      go_ret
      exact ⟨ret_bool HE.out, HB.out⟩
end Go.Proofs.YtdchpeifpiglmaaGreatDoor.G
