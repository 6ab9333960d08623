/- The calls of FnOut at a drawn value and at the object around it. -/
import Derived.Test.YtoaeggfnlenjkaaGreatDoorErWords
import Derived.Test.YtoaeggfnlenjkaaGreatDoorOuPairs
import Derived.Test.YtoaeggfnlenjkaaGreatDoorDigitsD
import Derived.Test.YtoaeggfnlenjkaaGreatDoorOuFnSame
import Derived.Test.YtoaeggfnlenjkaaGreatDoorOuTextBoth
import Derived.Test.YtoaeggfnlenjkaaGreatDoorOuMark
import Derived.Test.YtoaeggfnlenjkaaGreatDoorLexSpec
import Derived.Test.YtoaeggfnlenjkaaGreatDoorDtImpl
import Derived.Test.YtoaeggfnlenjkaaGreatDoorDtImplTwo
namespace Go.Proofs.YtoaeggfnlenjkaaGreatDoor.Er
open Go.ChangeShapes Go.WideShapes Go.ChangeAt Go.RowKit
open Go.Proofs.YtoaeggfnlenjkaaGreatDoor.G
set_option linter.unusedVariables false

def errT (c : Int) : ByteArray := ⟨#[123, 34, 101, 114, 114, 111, 114, 34, 58, 34]⟩ ++ wordS c ++ ⟨#[34, 125]⟩
def errV (c : Int) : Ending := if 1 ≤ c ∧ c ≤ 19 then .returned (.tuple #[.string (errT c), .int .i64 0]) else .returned (.tuple #[.string ⟨#[]⟩, .int .i64 4])
theorem word_size (c : Int) : (wordS c).size ≤ 20 := by
  by_cases h0 : c < 0
  · rw [word_neg c h0]; decide
  by_cases h1 : 20 ≤ c
  · rw [word_big c h1]; decide
  rcases twenty c (by omega) (by omega) with rfl | rfl | rfl | rfl | rfl | rfl | rfl | rfl | rfl | rfl | rfl | rfl | rfl | rfl | rfl | rfl | rfl | rfl | rfl | rfl
  all_goals decide
theorem word_some (c : Int) (h : 1 ≤ c ∧ c ≤ 19) : (wordS c).toList.isEmpty = false := by
  rw [ByteArray.toList_eq]
  rcases twenty c (by omega) (by omega) with rfl | rfl | rfl | rfl | rfl | rfl | rfl | rfl | rfl | rfl | rfl | rfl | rfl | rfl | rfl | rfl | rfl | rfl | rfl | rfl
  all_goals decide
theorem word_none (c : Int) (h : ¬ (1 ≤ c ∧ c ≤ 19)) (h0 : c ≠ 0) : (wordS c).toList.isEmpty = true := by
  rw [ByteArray.toList_eq]
  by_cases h1 : c < 0
  · rw [word_neg c h1]; rfl
  · rw [word_big c (by omega)]; rfl
set_option maxHeartbeats 1000000 in
theorem spec_err (c : Int) (w : World) : Calls Tryz.prog 49 #[.int .i64 c] w fun e w' => e = .returned (.string (errT c)) ∧ Below w.heap.size w w' := by
  have hw := word_size c
  have HF : Hid (⟨#[123, 34, 101, 114, 114, 111, 114, 34, 58, 34]⟩ ++ wordS c ++ ⟨#[34, 125]⟩ = errT c) := rfl
  have h1 : (⟨#[123, 34, 101, 114, 114, 111, 114, 34, 58, 34]⟩ : ByteArray).size = 10 := rfl
  have n1' : ¬ (9223372036854775807 < 10 + (wordS c).size) := by omega
  have n1 : ¬ (9223372036854775807 < (⟨#[123, 34, 101, 114, 114, 111, 114, 34, 58, 34]⟩ : ByteArray).size + (wordS c).size) := n1'
  have n2' : ¬ (9223372036854775807 < (⟨#[123, 34, 101, 114, 114, 111, 114, 34, 58, 34]⟩ ++ wordS c : ByteArray).size + 2) := by rw [ByteArray.size_append]; omega
  have n2 : ¬ (9223372036854775807 < (⟨#[123, 34, 101, 114, 114, 111, 114, 34, 58, 34]⟩ ++ wordS c : ByteArray).size + (⟨#[34, 125]⟩ : ByteArray).size) := n2'
  clear h1 hw
  go_enter Tryz.func49, Tryz.ntmps49
  go_wp2_with fail
  refine (spec_word c _).mono ?_
  rintro e w1 ⟨rfl, hb1⟩
  have HB : Hid _ := hb1
  clear hb1
  go_wp2_with fail
  go_ret
  exact ⟨by rw [← HF.out]; rfl, HB.out⟩
set_option maxHeartbeats 1000000 in
theorem spec_errorText (c : Int) (w : World) : Calls Tryz.prog 14 #[.int .i64 c] w fun e w' => e = errV c ∧ Below w.heap.size w w' := by
  by_cases hc : 1 ≤ c ∧ c ≤ 19
  · have HF : Hid (Ending.returned (.tuple #[.string (errT c), .int .i64 0]) = errV c) := by rw [Hid, errV, if_pos hc]
    have hi : inB c 1 19 = true := decide_eq_true hc
    clear hc
    go_enter Tryz.func14, Tryz.ntmps14
    go_wp2_with fail
    refine (spec_in _ _ _ _).mono ?_
    rw [hi]
    rintro e w1 ⟨rfl, hw⟩
    rw [hw]
    go_wp2_with fail
    refine (spec_err c _).mono ?_
    rintro e w2 ⟨rfl, hb2⟩
    have HB : Hid _ := hb2
    clear hb2
    go_wp2_with fail
    go_ret2
    exact ⟨HF.out, HB.out⟩
  · have HF : Hid (Ending.returned (.tuple #[.string ⟨#[]⟩, .int .i64 4]) = errV c) := by rw [Hid, errV, if_neg hc]
    have hi : inB c 1 19 = false := decide_eq_false hc
    clear hc
    go_enter Tryz.func14, Tryz.ntmps14
    go_wp2_with fail
    refine (spec_in _ _ _ _).mono ?_
    rw [hi]
    rintro e w1 ⟨rfl, hw⟩
    rw [hw]
    go_wp2_with fail
    go_ret2
    exact ⟨HF.out, Below.refl _ _⟩
theorem one_text (s : ByteArray) (w : World) : KeRow 0 (w.alloc (.cells #[.string s] 9)).heap.size (w.alloc (.cells #[.string s] 9)) (some ⟨w.heap.size, 0, none⟩) [s] := by
  refine .inr ⟨w.heap.size, 0, rfl, Nat.zero_le _, by simp, fun i x hx => ?_⟩
  cases i with
  | zero =>
    simp at hx; subst hx
    show rdOf _ _ (0 + 0 * 1) = _
    rw [row_rd (heap_alloc_new w (.cells #[.string s] 9 (0, 0)))]; rfl
  | succ i => simp at hx
theorem cj_one (x : ByteArray) : cj [x] = x := by
  rw [← cj_join]; apply bytes_same; simp [Lib.join_one]
theorem err_same (c : Int) : objT [pr ⟨#[101, 114, 114, 111, 114]⟩ (qd (wordS c))] = errT c := by
  unfold objT
  rw [cj_one]
  apply bytes_same
  unfold pr qd errT
  simp
set_option maxHeartbeats 1000000 in
theorem impl_errorText (c : Int) (w : World) (ht : TabH w) : Calls Tryz.prog 13 #[.int .i64 c] w fun e w' => e = errV c ∧ Below w.heap.size w w' := by
  have HT : Hid (Tab w) := ht.tab
  clear ht
  by_cases hc : 1 ≤ c ∧ c ≤ 19
  · have HF : Hid (Ending.returned (.tuple #[.string (objT [pr ⟨#[101, 114, 114, 111, 114]⟩ (qd (wordS c))]), .int .i64 0]) = errV c) := by rw [Hid, errV, if_pos hc, err_same]
    have he := word_some c hc
    have hz : (c == 0) = false := beq_eq_false_iff_ne.2 (by omega)
    have hs := word_size c
    clear hc
    go_enter Tryz.func13, Tryz.ntmps13
    go_wp2_with fail
    refine (impl_word c _ HT.out).mono ?_
    rintro e w1 ⟨rfl, hw⟩
    rw [hw]
    clear hw
    go_wp2_with fail
    refine (impl_quoted _ _ (by omega)).mono ?_
    rintro e w2 ⟨rfl, hw⟩
    rw [hw]
    clear hw
    go_wp2_with fail
    refine (impl_pair ⟨#[101, 114, 114, 111, 114]⟩ (qd (wordS c)) _ (by decide) (by rw [qd_size]; omega)).mono ?_
    rintro e w3 ⟨rfl, hw⟩
    rw [hw]
    clear hw
    have hp : (pr ⟨#[101, 114, 114, 111, 114]⟩ (qd (wordS c))).size ≤ 100 := by
      have h5 : (⟨#[101, 114, 114, 111, 114]⟩ : ByteArray).size = 5 := rfl
      rw [pr_size, qd_size, h5]; omega
    generalize pr ⟨#[101, 114, 114, 111, 114]⟩ (qd (wordS c)) = P at *
    go_wp2_with fail
    refine (impl_object _ 1 [P] _ (one_text P w) (by simp) (by simp [sumW]; omega)).mono ?_
    rintro e w4 ⟨rfl, hb4⟩
    have HB : Hid (Below w.heap.size w w4) := below_one hb4
    clear hb4
    go_wp2_with fail
    go_ret2
    exact ⟨HF.out, HB.out⟩
  · have HF : Hid (Ending.returned (.tuple #[.string ⟨#[]⟩, .int .i64 4]) = errV c) := by rw [Hid, errV, if_neg hc]
    by_cases h0 : c = 0
    · have hz : (c == 0) = true := by simp [h0]
      clear hc h0
      go_enter Tryz.func13, Tryz.ntmps13
      go_wp2_with fail
      refine (impl_word c _ HT.out).mono ?_
      rintro e w1 ⟨rfl, hw⟩
      rw [hw]
      clear hw
      go_wp2_with fail
      go_ret2
      exact ⟨HF.out, Below.refl _ _⟩
    · have hz : (c == 0) = false := beq_eq_false_iff_ne.2 h0
      have he := word_none c hc h0
      clear hc h0
      go_enter Tryz.func13, Tryz.ntmps13
      go_wp2_with fail
      refine (impl_word c _ HT.out).mono ?_
      rintro e w1 ⟨rfl, hw⟩
      rw [hw]
      clear hw
      go_wp2_with fail
      go_ret2
      exact ⟨HF.out, Below.refl _ _⟩
end Go.Proofs.YtoaeggfnlenjkaaGreatDoor.Er
namespace Go.Proofs.YtoaeggfnlenjkaaGreatDoor.G
open Go.ChangeShapes Go.WideShapes Go.ChangeAt Go.RowKit
set_option linter.unusedVariables false

theorem name_len {s : ByteArray} (h : nameB s = true) : s.size ≤ 40 := by
  unfold nameB at h
  simp only [Bool.and_eq_true, decide_eq_true_eq] at h
  exact h.1.1.2
theorem noT_len {h : Oh} (hn : noT h = true) : h.t.size = 0 := by
  unfold noT at hn
  have := List.isEmpty_iff.1 hn
  rw [ByteArray.toList_eq] at this
  have h2 := congrArg List.length this
  simpa using h2
theorem head_bd {m : Nat} {h : Oh} {sub : Ous} (hm : 40 ≤ m) (hh : headB h sub = true) (hs : sub.len ≤ m) : OhBd m h := by
  have pk : ∀ {b1 b2 : Bool}, (plainB h sub && b1 && b2) = true → h.keys = [] := fun hp => by
    simp only [Bool.and_eq_true, plainB, decide_eq_true_eq] at hp
    exact List.length_eq_zero_iff.1 hp.1.1.1
  unfold headB at hh
  split at hh
  · have e := pk hh
    simp only [Bool.and_eq_true] at hh
    exact ⟨by have := noT_len hh.2; omega, by rw [e]; simp, by rw [e]; simp⟩
  split at hh
  · have e := pk hh
    simp only [Bool.and_eq_true] at hh
    exact ⟨by have := noT_len hh.2; omega, by rw [e]; simp, by rw [e]; simp⟩
  split at hh
  · have e := pk hh
    simp only [Bool.and_eq_true] at hh
    exact ⟨by have := name_len hh.2; omega, by rw [e]; simp, by rw [e]; simp⟩
  split at hh
  · simp only [Bool.and_eq_true, decide_eq_true_eq] at hh
    have e := List.length_eq_zero_iff.1 hh.2
    exact ⟨by have := noT_len hh.1.2; omega, by rw [e]; simp, by rw [e]; simp⟩
  split at hh
  · simp only [Bool.and_eq_true, decide_eq_true_eq] at hh
    refine ⟨by have := noT_len hh.1.1.2; omega, by omega, fun x hx => ?_⟩
    obtain ⟨i, hi, rfl⟩ := List.getElem_of_mem hx
    have h1 := keysB_at hh.2 hi
    rw [keyB_eq hi, Bool.and_eq_true] at h1
    have := name_len h1.1
    omega
  · cases hh
theorem ok_bd {m : Nat} (hm : 40 ≤ m) : ∀ (l : Ous) {d : Nat}, okO d l = true → l.size ≤ m → OusBd m l
  | .nil, _, _, _ => trivial
  | .cons h sub rest, d, ho, hs => by
    rw [okO_cons, oneO, Bool.and_eq_true, Bool.and_eq_true, Bool.and_eq_true] at ho
    simp only [Ous.size] at hs
    have h1 := Ous.len_le_size sub
    exact ⟨head_bd hm ho.1.1.2 (by omega), by omega, ok_bd hm sub ho.1.2 (by omega), ok_bd hm rest ho.2 (by omega)⟩
theorem drawn_bd {h : Oh} {sub : Ous} (hx : DrawnB 3 h sub) : OhBd 1048576 h ∧ sub.len ≤ 1048576 ∧ OusBd 1048576 sub := by
  have h1 := hx.1
  have h2 : sub.size ≤ 39 := hx.2
  have h3 := Ous.len_le_size sub
  rw [oneO, Bool.and_eq_true, Bool.and_eq_true] at h1
  exact ⟨head_bd (by omega) h1.1.2 (by omega), by omega, ok_bd (by omega) sub h1.2 (by omega)⟩
theorem wrap_bd {h : Oh} {sub : Ous} (hx : DrawnB 3 h sub) : OhBd 1048576 wrapH ∧ (wrapS h sub).len ≤ 1048576 ∧ OusBd 1048576 (wrapS h sub) := by
  obtain ⟨h1, h2, h3⟩ := drawn_bd hx
  have z : OhBd 1048576 threeH := ⟨by decide, by decide, by intro x hx; cases hx⟩
  refine ⟨⟨by decide, by decide, fun x hx => ?_⟩, by simp only [wrapS, Ous.len]; omega, h1, h2, h3, z, by simp [Ous.len], trivial, trivial⟩
  rcases List.mem_cons.1 hx with rfl | hx
  · decide
  · rw [List.mem_singleton.1 hx]; decide
abbrev oA (K I : Nat) : Value := .agg #[.int .i64 4, .int .i64 0, .string ⟨#[]⟩, .slice (some ⟨K, 0, none⟩) 2 2, .slice (some ⟨I, 0, none⟩) 2 2]
/-- The object lies there. -/
def Wr (K I : Nat) (h : Oh) (sub : Ous) (W : World) : Prop := KeRow 0 W.heap.size W (some ⟨K, 0, none⟩) [lP, lQ] ∧ OuRow 0 W.heap.size W (some ⟨I, 0, none⟩) (wrapS h sub)
def txW (h : Oh) (sub : Ous) : ByteArray := outT wrapH (wrapS h sub)
section
variable {K I : Nat} {h : Oh} {sub : Ous} {W : World}
theorem fn_textI (hx : DrawnB 3 h sub) (hw : Wr K I h sub W) (hp : Pow W) : Calls Tryz.prog 7 #[oA K I] W fun e w' => e = .returned (.tuple #[.string (txW h sub), .int .i64 0]) ∧ Below W.heap.size W w' := by
  obtain ⟨b1, b2, b3⟩ := wrap_bd hx
  have := impl_outText wrapH (wrapS h sub) _ _ 2 2 W hw.1 (Nat.le_refl _) hw.2 b1 b2 b3 hp
  rw [outE, if_pos (wrap_ok hx)] at this
  exact this
theorem fn_textS (hx : DrawnB 3 h sub) (hw : Wr K I h sub W) : Calls Tryz.prog 8 #[oA K I] W fun e w' => e = .returned (.tuple #[.string (txW h sub), .int .i64 0]) ∧ Below W.heap.size W w' := by
  obtain ⟨b1, b2, b3⟩ := wrap_bd hx
  have := spec_outText wrapH (wrapS h sub) _ _ 2 2 W hw.1 (Nat.le_refl _) hw.2 b1 b2 b3
  rw [outE, if_pos (wrap_ok hx)] at this
  exact this
theorem fn_atP (hx : DrawnB 3 h sub) (hw : Wr K I h sub W) : Calls Tryz.prog 9 #[oA K I, .string ⟨#[112]⟩] W fun e w' => (∃ (b1 b2 : Option Addr) (d1 d2 : Nat), e = .returned (.tuple #[.agg #[.int .i64 h.k, .int .i64 h.n, .string h.t, .slice b1 h.keys.length d1, .slice b2 sub.len d2], .int .i64 0]) ∧ KeRow 0 w'.heap.size w' b1 h.keys ∧ OuRow 0 w'.heap.size w' b2 sub) ∧ Below W.heap.size W w' := by
  obtain ⟨q1, q2, q3⟩ := wrap_bd hx
  refine (impl_outAt wrapH (wrapS h sub) ⟨#[112]⟩ _ _ 2 2 W hw.1 (Nat.le_refl _) hw.2 q1 q2 q3 (by decide)).mono ?_
  rintro e w' ⟨⟨x, s, y, b1, d1, b2, d2, rfl, hat, m1, _, hm, p1, p2⟩, hb⟩
  have h1 : pickO wrapH.keys (wrapS h sub) ⟨#[112]⟩ = some (h, sub) := by
    show (if (lP.toList == (⟨#[112]⟩ : ByteArray).toList) = true then some (h, sub) else _) = _
    rw [if_pos (by decide +kernel)]
  have h2 := AtR.one hat (.inr ⟨by decide, .inr ⟨⟨wrap_ok hx, rfl⟩, .inr ⟨h1, rfl⟩⟩⟩)
  obtain ⟨rfl, rfl, rfl⟩ := h2
  exact ⟨⟨b1, b2, d1, d2, rfl, KeRow.wide (ke_row p1) (Nat.zero_le _) hm, OuRow.wide p2.row (Nat.zero_le _) (Nat.le_refl _)⟩, hb⟩
theorem fn_atR (hx : DrawnB 3 h sub) (hw : Wr K I h sub W) : Calls Tryz.prog 9 #[oA K I, .string ⟨#[114]⟩] W fun e w' => (∃ (b1 b2 : Option Addr) (d1 d2 : Nat), e = .returned (.tuple #[.agg #[.int .i64 0, .int .i64 0, .string ⟨#[]⟩, .slice b1 0 d1, .slice b2 0 d2], .int .i64 5])) ∧ Below W.heap.size W w' := by
  obtain ⟨q1, q2, q3⟩ := wrap_bd hx
  refine (impl_outAt wrapH (wrapS h sub) ⟨#[114]⟩ _ _ 2 2 W hw.1 (Nat.le_refl _) hw.2 q1 q2 q3 (by decide)).mono ?_
  rintro e w' ⟨⟨x, s, y, b1, d1, b2, d2, rfl, hat, _⟩, hb⟩
  have h1 : pickO wrapH.keys (wrapS h sub) ⟨#[114]⟩ = none := by
    show (if (lP.toList == (⟨#[114]⟩ : ByteArray).toList) = true then some (h, sub) else (if (lQ.toList == (⟨#[114]⟩ : ByteArray).toList) = true then _ else none)) = _
    rw [if_neg (by decide +kernel), if_neg (by decide +kernel)]
  have h2 := AtR.one hat (.inr ⟨by decide, .inr ⟨⟨wrap_ok hx, rfl⟩, .inl ⟨h1, rfl, rfl, rfl⟩⟩⟩)
  obtain ⟨rfl, rfl, rfl⟩ := h2
  exact ⟨⟨b1, b2, d1, d2, rfl⟩, hb⟩
def daW (h : Oh) (sub : Ous) (ps : List ByteArray) : ByteArray := dataT (txW h sub) ps
def pathW : ByteArray := ⟨#[97, 46, 48, 46, 98]⟩
/-- The paths that FnOut takes. -/
def PsIs (ps : List ByteArray) : Prop := ps = [] ∨ ps = [pathW]
theorem PsIs.data {ps : List ByteArray} (hp : PsIs ps) (hx : DrawnB 3 h sub) : dataE wrapH (wrapS h sub) ps = .returned (.tuple #[.string (daW h sub ps), .int .i64 0]) ∧ sumW ps ≤ 1048576 := by
  rcases hp with rfl | rfl
  · refine ⟨?_, by decide⟩
    rw [dataE, if_neg (by decide), if_neg (by rw [wrap_ok hx]; decide), if_neg (by decide)]
    rfl
  · refine ⟨?_, by decide⟩
    rw [dataE, if_neg (by decide), if_neg (by rw [wrap_ok hx]; decide), if_neg (by rw [show pathsB [pathW] = true from path_fn]; decide)]
    rfl
theorem fn_dataI {ps : List ByteArray} {a : Option Addr} {c : Nat} (hx : DrawnB 3 h sub) (hw : Wr K I h sub W) (hp : PsIs ps) (hr : KeRow 0 W.heap.size W a ps) (hv : Vars W) : Calls Tryz.prog 11 #[oA K I, .slice a ps.length c] W fun e w' => e = .returned (.tuple #[.string (daW h sub ps), .int .i64 0]) ∧ Below W.heap.size W w' := by
  obtain ⟨b1, b2, b3⟩ := wrap_bd hx
  have := impl_dataText wrapH (wrapS h sub) _ _ a 2 2 c ps W hw.1 (Nat.le_refl _) hw.2 b1 b2 b3 hr (hp.data hx).2 hv
  rw [(hp.data hx).1] at this
  exact this
theorem fn_dataS {ps : List ByteArray} {a : Option Addr} {c : Nat} (hx : DrawnB 3 h sub) (hw : Wr K I h sub W) (hp : PsIs ps) (hr : KeRow 0 W.heap.size W a ps) : Calls Tryz.prog 12 #[oA K I, .slice a ps.length c] W fun e w' => e = .returned (.tuple #[.string (daW h sub ps), .int .i64 0]) ∧ Below W.heap.size W w' := by
  obtain ⟨b1, b2, b3⟩ := wrap_bd hx
  have := spec_dataText wrapH (wrapS h sub) _ _ a 2 2 c ps W hw.1 (Nat.le_refl _) hw.2 b1 b2 b3 hr (hp.data hx).2
  rw [(hp.data hx).1] at this
  exact this
theorem fn_ok (hx : DrawnB 3 h sub) (hw : Wr K I h sub W) : Calls Tryz.prog 16 #[oA K I] W fun e w' => e = .returned (.bool true) ∧ Below W.heap.size W w' := by
  obtain ⟨b1, b2, b3⟩ := wrap_bd hx
  have := impl_outOK wrapH (wrapS h sub) _ _ 2 2 W hw.1 (Nat.le_refl _) hw.2 b1 b2 b3
  rw [wrap_ok hx] at this
  exact this
theorem fn_same (hx : DrawnB 3 h sub) (hw : Wr K I h sub W) : Calls Tryz.prog 17 #[oA K I, oA K I] W fun e w' => e = .returned (.bool true) ∧ Below W.heap.size W w' := by
  have hb := wrap_bd hx
  have := impl_sameOut wrapH wrapH (wrapS h sub) (wrapS h sub) _ _ _ _ 2 2 2 2 W hw.1 hw.2 hw.1 hw.2 ⟨Nat.le_refl _, hb⟩ ⟨Nat.le_refl _, hb⟩
  rw [sameO, wrap_ok hx, show ((outT wrapH (wrapS h sub)).toList == (outT wrapH (wrapS h sub)).toList) = true from beq_self_eq_true _] at this
  exact this
theorem fn_other {a1 a2 : Option Addr} {c1 c2 : Nat} (hx : DrawnB 3 h sub) (hw : Wr K I h sub W) (hc : h.keys.length ≤ c1) (r1 : KeRow 0 W.heap.size W a1 h.keys) (r2 : OuRow 0 W.heap.size W a2 sub) : Calls Tryz.prog 17 #[oA K I, .agg #[.int .i64 h.k, .int .i64 h.n, .string h.t, .slice a1 h.keys.length c1, .slice a2 sub.len c2]] W fun e w' => e = .returned (.bool false) ∧ Below W.heap.size W w' := by
  have := impl_sameOut wrapH h (wrapS h sub) sub _ _ a1 a2 2 2 c1 c2 W hw.1 hw.2 r1 r2 ⟨Nat.le_refl _, wrap_bd hx⟩ ⟨hc, drawn_bd hx⟩
  rw [sameO, wrap_other hx, Bool.and_false] at this
  exact this
theorem Wr.up {W' : World} (hw : Wr K I h sub W) (hb : Below W.heap.size W W') : Wr K I h sub W' := ⟨KeRow.up hw.1 hb, OuRow.up hw.2 hb⟩
end
open Go.Proofs.YtoaeggfnlenjkaaGreatDoor.Er in
theorem fn_errI (c : Int) (w : World) (ht : TabH w) (hc : 1 ≤ c ∧ c ≤ 19) : Calls Tryz.prog 13 #[.int .i64 c] w fun e w' => e = .returned (.tuple #[.string (errT c), .int .i64 0]) ∧ Below w.heap.size w w' := by
  have := impl_errorText c w ht
  rw [errV, if_pos hc] at this
  exact this
open Go.Proofs.YtoaeggfnlenjkaaGreatDoor.Er in
theorem fn_errS (c : Int) (w : World) (hc : 1 ≤ c ∧ c ≤ 19) : Calls Tryz.prog 14 #[.int .i64 c] w fun e w' => e = .returned (.tuple #[.string (errT c), .int .i64 0]) ∧ Below w.heap.size w w' := by
  have := spec_errorText c w
  rw [errV, if_pos hc] at this
  exact this
set_option maxHeartbeats 1000000 in
/-- A drawn value. -/
theorem out_drawn (n c : Nat) (a : Option Addr) (w : World) (hr : ByteRow w.heap.size w a n) (hn : n ≤ 1048576) :
    Calls Tryz.prog 6 #[.slice a n c] w fun e w' => (∃ (h : Oh) (sub : Ous) (a1 a2 : Option Addr) (c1 c2 : Nat), e = .returned (.agg #[.int .i64 h.k, .int .i64 h.n, .string h.t, .slice a1 h.keys.length c1, .slice a2 sub.len c2]) ∧ h.keys.length ≤ c1 ∧ KeRow 0 w'.heap.size w' a1 h.keys ∧ OuRow 0 w'.heap.size w' a2 sub ∧ DrawnB 3 h sub) ∧ Below w.heap.size w w' := by
  have HO : Hid (OutAny 3) := out_succ 2 (by omega) (out_succ 1 (by omega) (out_succ 0 (by omega) out_zero))
  obtain ⟨V, hV⟩ : ∃ V, V = w.alloc (.cells #[.int .i64 0, .int .i64 0, .string ⟨#[]⟩, .slice none 0 0, .slice none 0 0] 26) := ⟨_, rfl⟩
  have B0 : Below w.heap.size w V := by rw [hV]; exact (Below.refl _ _).alloc (Nat.le_refl _) _
  have c0 : V.heap[w.heap.size]? = some (.cells #[.int .i64 0, .int .i64 0, .string ⟨#[]⟩, .slice none 0 0, .slice none 0 0] 26 (0, 0)) := by rw [hV]; exact heap_alloc_new _ _
  have zV := (Array.getElem?_eq_some_iff.1 c0).1
  have HR : Hid (ByteRow w.heap.size V a n) := ByteRow.keep hr B0.size (fun k hk => B0.block k hk)
  have HB0 : Hid _ := B0
  have HC0 : Hid _ := c0
  obtain ⟨L, hL⟩ : ∃ L, L = V.heap.size := ⟨_, rfl⟩
  clear hr B0 c0
  go_enter Tryz.func6, Tryz.ntmps6
  go_upto_region 1 with fail
  rw [← hV]
  clear hV
  go_wp2_with fail
  refine (source_any n c a _ hn).mono ?_
  rintro e w1 ⟨rfl, s1, b1⟩
  rw [← hL] at s1 b1 ⊢
  have S1 : Hid _ := s1
  have B1 : Hid (Below L V w1) := b1
  have zl : w.heap.size < L := by omega
  have R1 : Hid (ByteRow L w1 a n) := by
    rcases HR.out with h0 | ⟨b, o, e, h1, h2, h3⟩
    · exact .inl h0
    · refine .inr ⟨b, o, e, by omega, by have := b1.size; omega, fun i hi => ?_⟩
      obtain ⟨x, hx, e⟩ := h3 i hi
      exact ⟨x, hx, (World.cell?_of_block (w := V) (b1.block b (by omega))).trans e⟩
  clear s1 b1 HR
  have zz : L ≤ w1.heap.size := by have := B1.out.size; omega
  clear hL
  go_wp2_with fail
  refine (HO.out L n 0 a w1 S1.out R1.out (by decide) hn).mono ?_
  rintro e w2 ⟨⟨h, sub, a1, a2, c1, c2, rfl, hc, r1, r2, hd⟩, _, hg⟩
  have c2' : w2.heap[w.heap.size]? = some (.cells #[.int .i64 0, .int .i64 0, .string ⟨#[]⟩, .slice none 0 0, .slice none 0 0] 26 (0, 0)) := (hg.block _ (by omega) (by simp; omega)).trans ((B1.out.block _ zl).trans HC0.out)
  have x1 := fun o => row_cell c2' o
  have f1 := fun o => row_frozen c2' o
  have hA : ∀ v0 v1 v2 v3 v4, Agree w1.heap.size w2.heap.size w2 (putV w2 w.heap.size v0 v1 v2 v3 v4) := fun v0 v1 v2 v3 v4 g g1 g2 => putV_other _ _ _ _ _ _ _ _ (by omega)
  have QB : Below w.heap.size w w2 := by
    have h2 : Below w.heap.size w1 w2 := ⟨hg.os, hg.tape, hg.output, hg.size, fun k hk => hg.block k (by omega) (by intro e; simp only [Option.some.injEq] at e; omega)⟩
    exact (HB0.out.trans (B1.out.mono (by omega))).trans h2
  have QQ : Hid ((KeRow w1.heap.size w2.heap.size w2 a1 h.keys ∧ OuRow w1.heap.size w2.heap.size w2 a2 sub ∧ DrawnB 3 h sub) ∧ Below w.heap.size w w2) := ⟨⟨r1, r2, hd⟩, QB⟩
  have HA : Hid _ := hA
  clear r1 r2 hd hg QB hA c2'
  go_wp2_with fail
  refine bodyPost_ret (v := .agg #[.int .i64 h.k, .int .i64 h.n, .string h.t, .slice a1 h.keys.length c1, .slice a2 sub.len c2]) (by simp [results, Tryz.results6, go_sem, x1]) rfl ?_
  have G : ∀ v0 v1 v2 v3 v4, (KeRow 0 (putV w2 w.heap.size v0 v1 v2 v3 v4).heap.size (putV w2 w.heap.size v0 v1 v2 v3 v4) a1 h.keys ∧ OuRow 0 (putV w2 w.heap.size v0 v1 v2 v3 v4).heap.size (putV w2 w.heap.size v0 v1 v2 v3 v4) a2 sub) ∧ Below w.heap.size w (putV w2 w.heap.size v0 v1 v2 v3 v4) := fun v0 v1 v2 v3 v4 => by
    refine ⟨⟨KeRow.wide (KeRow.keep QQ.out.1.1 (HA.out _ _ _ _ _)) (Nat.zero_le _) (by rw [putV_size]; exact Nat.le_refl _), OuRow.wide (OuRow.keep QQ.out.1.2.1 (HA.out _ _ _ _ _)) (Nat.zero_le _) (by rw [putV_size]; exact Nat.le_refl _)⟩, ?_⟩
    unfold putV
    repeat (refine Below.setCell ?_ (by first | omega | (simp <;> omega)) _)
    exact QQ.out.2
  have G1 := G (.int .i64 h.k) (.int .i64 h.n) (.string h.t) (.slice a1 h.keys.length c1) (.slice a2 sub.len c2)
  exact ⟨⟨h, sub, a1, a2, c1, c2, rfl, hc, G1.1.1, G1.1.2, QQ.out.1.2.2⟩, G1.2⟩
end Go.Proofs.YtoaeggfnlenjkaaGreatDoor.G
