/- The law's own texts: marks written into a row, and held; rows of tokens held against each other. -/
import Derived.Test.YtjbogjoadcikhagDoorMarks
namespace Go.Proofs.YtjbogjoadcikhagDoor
open Go.ChangeShapes Go.WideShapes Go.ChangeAt Go.RowKit
set_option linter.unusedVariables false

def Marked (cs : Array Value) (n : Nat) : Prop := ∀ i, i < n → cs[i * 3]? = some (.int .i64 ((1 + i * 3 : Nat) : Int)) ∧ cs[i * 3 + 1]? = some (.int .i64 ((2 + i * 3 : Nat) : Int)) ∧ cs[i * 3 + 2]? = some (.string (mkT (3 + i * 3)))
def putM (cs : Array Value) (k : Nat) : Array Value := ((cs.setIfInBounds (k * 3) (.int .i64 ((1 + k * 3 : Nat) : Int))).setIfInBounds (k * 3 + 1) (.int .i64 ((2 + k * 3 : Nat) : Int))).setIfInBounds (k * 3 + 2) (.string (mkT (3 + k * 3)))
theorem Marked.put {cs : Array Value} {k : Nat} (h : Marked cs k) (hs : (k + 1) * 3 ≤ cs.size) : Marked (putM cs k) (k + 1) := by
  intro i hi
  unfold putM
  by_cases hik : i = k
  · subst hik
    refine ⟨?_, ?_, ?_⟩ <;> simp [Array.getElem?_setIfInBounds] <;> omega
  · obtain ⟨c0, c1, c2⟩ := h i (by omega)
    refine ⟨?_, ?_, ?_⟩
    · rw [Array.getElem?_setIfInBounds_ne (by omega), Array.getElem?_setIfInBounds_ne (by omega), Array.getElem?_setIfInBounds_ne (by omega)]; exact c0
    · rw [Array.getElem?_setIfInBounds_ne (by omega), Array.getElem?_setIfInBounds_ne (by omega), Array.getElem?_setIfInBounds_ne (by omega)]; exact c1
    · rw [Array.getElem?_setIfInBounds_ne (by omega), Array.getElem?_setIfInBounds_ne (by omega), Array.getElem?_setIfInBounds_ne (by omega)]; exact c2
theorem putM_size (cs : Array Value) (k : Nat) : (putM cs k).size = cs.size := by simp [putM]
theorem mark_text_int (K : Int) (w : World) (h0 : 0 < K) (h1 : K ≤ 1000000) :
    Calls Tryd.prog 20 #[.int .i64 K] w fun e w' => e = .returned (.string (mkT K.toNat)) ∧ Below w.heap.size w w' := by
  obtain ⟨n, rfl⟩ := Int.eq_ofNat_of_zero_le (Int.le_of_lt h0)
  exact mark_text n w (by omega) (by omega)

set_option maxHeartbeats 2000000 in
theorem mark_row (g n cap : Nat) (cur : Array Value) (w : World) (hr : w.heap[g]? = some (.cells cur 39 (0, 0))) (hc : n * 3 ≤ cur.size) (hn : n ≤ 4000) :
    Calls Tryd.prog 13 #[.slice (some ⟨g, 0, none⟩) n cap, .int .i64 1] w fun e w' => e = .returned (.int .i64 ((1 + n * 3 : Nat) : Int)) ∧ ∃ cs, w'.heap[g]? = some (.cells cs 39 (0, 0)) ∧ cs.size = cur.size ∧ Marked cs n ∧ w.grownBy w' (some g) := by
  have HR : Hid _ := hr
  clear hr
  go_enter Tryd.func13, Tryd.ntmps13
  go_wp2_with fail
  go_loopw [1, 5] (fun k i wr => ∃ (j : Nat) (cs : Array Value), j ≤ n ∧ i = .int .i64 j ∧ k = .int .i64 ((1 + j * 3 : Nat) : Int) ∧ Hid (wr.heap[g]? = some (.cells cs 39 (0, 0))) ∧ cs.size = cur.size ∧ Hid (Marked cs j) ∧ w.grownBy wr (some g)) (fun _ i _ => n - (intOf i).toNat)
  case atStart => exact ⟨0, cur, Nat.zero_le _, rfl, rfl, HR, rfl, (fun i h => by omega), grown_refl _ _⟩
  case round =>
    rename_i wr
    obtain ⟨j, cs, hj, rfl, rfl, HH, hcs, HM, hg⟩ := hrel
    by_cases hlt : j < n
    · obtain ⟨v0, hv0⟩ : ∃ v, wr.cell? ⟨g, j * 3, none⟩ = some v := ⟨_, (row_cell HH.out _).trans (Array.getElem?_eq_getElem (by omega))⟩
      obtain ⟨v1, hv1⟩ : ∃ v, wr.cell? ⟨g, j * 3 + 1, none⟩ = some v := ⟨_, (row_cell HH.out _).trans (Array.getElem?_eq_getElem (by omega))⟩
      have f0 := row_frozen HH.out (j * 3)
      have f1 := row_frozen HH.out (j * 3 + 1)
      have HR2 : Hid _ := row_set (row_set HH.out (j * 3) (.int .i64 (1 + (j : Int) * 3))) (j * 3 + 1) (.int .i64 (1 + (j : Int) * 3 + 1))
      have hg2 := grown_set (grown_set hg (j * 3) (.int .i64 (1 + (j : Int) * 3))) (j * 3 + 1) (.int .i64 (1 + (j : Int) * 3 + 1))
      have HP : Hid (((cs.setIfInBounds (j * 3) (.int .i64 (1 + (j : Int) * 3))).setIfInBounds (j * 3 + 1) (.int .i64 (1 + (j : Int) * 3 + 1))).setIfInBounds (j * 3 + 2) (.string (mkT (1 + (j : Int) * 3 + 1 + 1).toNat)) = putM cs j) := by
        unfold Hid putM
        rw [show (1 + (j : Int) * 3 + 1) = ((2 + j * 3 : Nat) : Int) by omega, show (1 + (j : Int) * 3) = ((1 + j * 3 : Nat) : Int) by omega, show (((2 + j * 3 : Nat) : Int) + 1).toNat = 3 + j * 3 by omega]
      have hs2 : ((cs.setIfInBounds (j * 3) (.int .i64 (1 + (j : Int) * 3))).setIfInBounds (j * 3 + 1) (.int .i64 (1 + (j : Int) * 3 + 1))).size = cs.size := by simp
      have HMP := HM.out.put (by omega : (j + 1) * 3 ≤ cs.size)
      have HMP2 : Hid _ := HMP
      clear HMP HM
      go_wp2_with fail
      clear hv0 hv1 f0 f1
      generalize (wr.setCell ⟨g, j * 3, none⟩ (.int .i64 (1 + (j : Int) * 3))).setCell ⟨g, j * 3 + 1, none⟩ (.int .i64 (1 + (j : Int) * 3 + 1)) = wq at *
      generalize (cs.setIfInBounds (j * 3) (.int .i64 (1 + (j : Int) * 3))).setIfInBounds (j * 3 + 1) (.int .i64 (1 + (j : Int) * 3 + 1)) = cq at *
      refine (mark_text_int _ _ (by omega) (by omega)).mono ?_
      rintro e w2 ⟨rfl, hb2⟩
      generalize mkT (1 + (j : Int) * 3 + 1 + 1).toNat = MT at *
      have HR3 : Hid (w2.heap[g]? = some (.cells cq 39 (0, 0))) := (hb2.block _ (Array.getElem?_eq_some_iff.1 HR2.out).1).trans HR2.out
      have hg3 := grown_below hg2 hb2
      obtain ⟨v2, hv2⟩ : ∃ v, w2.cell? ⟨g, j * 3 + 2, none⟩ = some v := ⟨_, (row_cell HR3.out _).trans (Array.getElem?_eq_getElem (by omega))⟩
      have f2 := row_frozen HR3.out (j * 3 + 2)
      clear HR2 hg2 hb2
      go_wp2_with fail
      refine ⟨⟨j + 1, putM cs j, by omega, by go_num, by congr 1; omega, ?_, by rw [putM_size]; exact hcs, HMP2, grown_set hg3 _ _⟩, by simp [intOf]; omega⟩
      rw [← HP.out]
      exact row_set HR3.out _ _
    · go_wp2_with fail
      go_ret
      obtain rfl : j = n := by omega
      exact ⟨rfl, cs, HH.out, hcs, HM.out, hg⟩

set_option maxHeartbeats 2000000 in
theorem held_row (g n cap : Nat) (cs : Array Value) (w : World) (hr : w.heap[g]? = some (.cells cs 39 (0, 0))) (hm : Marked cs n) (hn : n ≤ 4000) :
    Calls Tryd.prog 14 #[.slice (some ⟨g, 0, none⟩) n cap, .int .i64 1] w fun e w' => e = .returned (.int .i64 ((1 + n * 3 : Nat) : Int)) ∧ Below w.heap.size w w' := by
  have HR : Hid _ := hr
  have hg := (Array.getElem?_eq_some_iff.1 hr).1
  have HM : Hid _ := hm
  clear hr hm
  go_enter Tryd.func14, Tryd.ntmps14
  go_wp2_with fail
  go_loopw [1, 5] (fun k i wr => ∃ j : Nat, j ≤ n ∧ i = .int .i64 j ∧ k = .int .i64 ((1 + j * 3 : Nat) : Int) ∧ Below w.heap.size w wr) (fun _ i _ => n - (intOf i).toNat)
  case atStart => exact ⟨0, Nat.zero_le _, rfl, rfl, Below.refl _ _⟩
  case round =>
    rename_i wr
    obtain ⟨j, hj, rfl, rfl, hb⟩ := hrel
    by_cases hlt : j < n
    · have hrow : wr.heap[g]? = some (.cells cs 39 (0, 0)) := (hb.block g hg).trans HR.out
      obtain ⟨m0, m1, m2⟩ := HM.out j hlt
      have d0 := (row_cell hrow (j * 3)).trans m0
      have d1 := (row_cell hrow (j * 3 + 1)).trans m1
      have d2 := (row_cell hrow (j * 3 + 2)).trans m2
      rw [show ((2 + j * 3 : Nat) : Int) = 1 + (j : Int) * 3 + 1 by omega] at d1
      rw [show ((1 + j * 3 : Nat) : Int) = 1 + (j : Int) * 3 by omega] at d0
      have HC : Hid (∀ W : World, Calls Tryd.prog 20 #[.int .i64 (1 + (j : Int) * 3 + 1 + 1)] W fun e w' => e = .returned (.string (mkT (3 + j * 3))) ∧ Below W.heap.size W w') := by
        intro W
        have := mark_text_int (1 + (j : Int) * 3 + 1 + 1) W (by omega) (by omega)
        rw [show (1 + (j : Int) * 3 + 1 + 1).toNat = 3 + j * 3 by omega] at this
        exact this
      clear hrow m0 m1 m2
      generalize mkT (3 + j * 3) = MT at *
      have hlt' : (j : Int) < n := by omega
      have hgr : g < wr.heap.size := Nat.lt_of_lt_of_le hg hb.size
      go_wp2_with fail
      go_region_with (go_at_call 20; refine (HC.out _).mono ?_; rintro e w2 ⟨rfl, hb2⟩; have e2 := (hb2.cell (p := ⟨g, j * 3 + 2, none⟩) hgr).trans d2)
      all_goals
        go_wp2_with fail
        exact ⟨⟨j + 1, by omega, by go_num, by congr 1; omega, hb.drew.trans (hb2.mono hb.size)⟩, by simp [intOf]; omega⟩
    · go_wp2_with fail
      go_ret
      obtain rfl : j = n := by omega
      exact ⟨rfl, hb⟩

/-- A slice of tokens: any place where there is none; else a block holds them, three cells a token. -/
def TokRow (B : Nat) (w : World) (a : Option Addr) (l : List Tk) : Prop :=
  l = [] ∨ ∃ b o, a = some ⟨b, o, none⟩ ∧ b < B ∧ B ≤ w.heap.size ∧ ∀ i x, l[i]? = some x →
    w.cell? ⟨b, o + i * 3, none⟩ = some (.int .i64 x.k) ∧ w.cell? ⟨b, o + i * 3 + 1, none⟩ = some (.int .i64 x.n) ∧ w.cell? ⟨b, o + i * 3 + 2, none⟩ = some (.string x.t)
theorem TokRow.below {B B' : Nat} {w w' : World} {a : Option Addr} {l : List Tk} (h : TokRow B w a l) (hb : Below B' w w') (hB : B ≤ B') : TokRow B w' a l := by
  rcases h with h | ⟨b, o, rfl, h1, h2, h3⟩
  · exact .inl h
  · refine .inr ⟨b, o, rfl, h1, Nat.le_trans h2 hb.size, fun i x hx => ?_⟩
    obtain ⟨c0, c1, c2⟩ := h3 i x hx
    exact ⟨(hb.cell (p := ⟨b, _, none⟩) (by show b < B'; omega)).trans c0, (hb.cell (p := ⟨b, _, none⟩) (by show b < B'; omega)).trans c1, (hb.cell (p := ⟨b, _, none⟩) (by show b < B'; omega)).trans c2⟩
theorem TokRow.at_ {B : Nat} {w : World} {a : Option Addr} {l : List Tk} (h : TokRow B w a l) (k : Nat) (hk : k < l.length) :
    ∃ b o, a = some ⟨b, o, none⟩ ∧ b < B ∧ w.cell? ⟨b, o + k * 3, none⟩ = some (.int .i64 l[k].k) ∧ w.cell? ⟨b, o + k * 3 + 1, none⟩ = some (.int .i64 l[k].n) ∧ w.cell? ⟨b, o + k * 3 + 2, none⟩ = some (.string l[k].t) := by
  rcases h with rfl | ⟨b, o, rfl, h1, h2, h3⟩
  · simp at hk
  · obtain ⟨c0, c1, c2⟩ := h3 k l[k] (List.getElem?_eq_getElem hk)
    exact ⟨b, o, rfl, h1, c0, c1, c2⟩
theorem TokRow.up {B B' : Nat} {w : World} {a : Option Addr} {l : List Tk} (h : TokRow B w a l) (h1 : B ≤ B') (h2 : B' ≤ w.heap.size) : TokRow B' w a l := by
  rcases h with h | ⟨b, o, rfl, h3, h4, h5⟩
  · exact .inl h
  · exact .inr ⟨b, o, rfl, by omega, h2, h5⟩
theorem tvs_at : ∀ (l : List Tk) (i : Nat) (x : Tk), l[i]? = some x → (tvs l)[i * 3]? = some (.int .i64 x.k) ∧ (tvs l)[i * 3 + 1]? = some (.int .i64 x.n) ∧ (tvs l)[i * 3 + 2]? = some (.string x.t)
  | [], i, x, h => by simp at h
  | y :: r, 0, x, h => by
    simp only [List.getElem?_cons_zero, Option.some.injEq] at h
    subst h
    exact ⟨rfl, rfl, rfl⟩
  | y :: r, i + 1, x, h => by
    have ih := tvs_at r i x (by simpa using h)
    have e : tvs (y :: r) = .int .i64 y.k :: .int .i64 y.n :: .string y.t :: tvs r := rfl
    rw [e, show (i + 1) * 3 = i * 3 + 3 by omega]
    exact ih
theorem own_row {w : World} {base n c : Nat} {a : Option Addr} {l : List Tk} (h : w.ownsRow base 39 3 (.slice a n c) n (tvs l)) : TokRow w.heap.size w a l := by
  rcases h.2 with ⟨_, h0⟩ | ⟨g, cap, cur, h1, h2, h3, h4, h5, h6, h7⟩
  · left
    have := h.1
    rw [tvs_length, h0] at this
    exact List.length_eq_zero_iff.1 (by omega)
  · simp only [Value.slice.injEq] at h1
    obtain ⟨rfl, _, _⟩ := h1
    refine .inr ⟨g, 0, rfl, (Array.getElem?_eq_some_iff.1 h3).1, Nat.le_refl _, fun i x hx => ?_⟩
    have hi : i < l.length := (List.getElem?_eq_some_iff.1 hx).1
    have hl := h.1
    rw [tvs_length] at hl
    obtain ⟨e0, e1, e2⟩ := tvs_at l i x hx
    rw [← h7, List.getElem?_take, if_pos (by omega)] at e0 e1 e2
    rw [row_cell h3, row_cell h3, row_cell h3, Nat.zero_add]
    exact ⟨by simpa using e0, by simpa using e1, by simpa using e2⟩

set_option maxHeartbeats 1000000 in
theorem eq_tok (a b : Int) (s : ByteArray) (w : World) :
    Calls Tryd.prog 19 #[.agg #[.int .i64 a, .int .i64 b, .string s], .agg #[.int .i64 a, .int .i64 b, .string s]] w fun e w' => e = .returned (.bool true) ∧ Below w.heap.size w w' := by
  go_enter Tryd.func19, Tryd.ntmps19
  go_wp2_with fail
  go_ret
  refine ⟨rfl, ?_⟩
  repeat (first | exact Below.refl _ _ | refine Below.alloc ?_ (by simp) _)
set_option maxHeartbeats 1000000 in
theorem eq_toks (a a' : Option Addr) (c c' : Nat) (l : List Tk) (w : World) (hr : TokRow w.heap.size w a l) (hr' : TokRow w.heap.size w a' l) (hl : l.length ≤ 1048576) :
    Calls Tryd.prog 12 #[.slice a l.length c, .slice a' l.length c'] w fun e w' => e = .returned (.bool true) ∧ Below w.heap.size w w' := by
  have HR : Hid (TokRow w.heap.size w a l) := hr
  have HR' : Hid (TokRow w.heap.size w a' l) := hr'
  clear hr hr'
  go_enter Tryd.func12, Tryd.ntmps12
  go_wp2_with fail
  go_loopw [5] (fun i w' => ∃ (k : Nat), k ≤ l.length ∧ i = .int .i64 k ∧ Below w.heap.size w w') (fun i _ => l.length - (intOf i).toNat)
  case atStart => exact ⟨0, by omega, rfl, Below.refl _ _⟩
  case round =>
    rename_i wr
    obtain ⟨k, hk, rfl, hb⟩ := hrel
    by_cases hlt : k < l.length
    · obtain ⟨b, o, ha, hbl, c0, c1, c2⟩ := (HR.out.below hb (Nat.le_refl _)).at_ k hlt
      obtain ⟨b', o', ha', hbl', d0, d1, d2⟩ := (HR'.out.below hb (Nat.le_refl _)).at_ k hlt
      subst ha
      subst ha'
      have hlt' : (k : Int) < l.length := by omega
      go_wp2_with fail
      go_region_with (go_at_call 19; refine (eq_tok _ _ _ _).mono ?_; rintro e w1 ⟨rfl, hb1⟩)
      all_goals
        go_wp2_with fail
        exact ⟨⟨k + 1, by omega, by go_num, hb.drew.trans (hb1.mono hb.size)⟩, by simp [intOf]; omega⟩
    · go_wp2_with fail
      go_ret
      exact ⟨rfl, hb⟩
end Go.Proofs.YtjbogjoadcikhagDoor
