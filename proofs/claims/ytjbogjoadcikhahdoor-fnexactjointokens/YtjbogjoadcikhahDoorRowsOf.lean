/- Slices of tokens in memory, and the Go texts that walk over them. -/
import Derived.Test.YtjbogjoadcikhahDoorTexts
import Derived.Deep.QuietTactic
import Derived.BigQuiet
namespace Go.Proofs.YtjbogjoadcikhahDoor
open Go.ChangeShapes Go.WideShapes Go.ChangeAt Go.RowKit
set_option linter.unusedVariables false

structure Tk where
  k : Int
  n : Int
  t : ByteArray

/-- A slice of tokens: any place where there is none; else a block below B holds them, three cells a token. -/
def TokRow (B : Nat) (w : World) (a : Option Addr) (l : List Tk) : Prop :=
  l = [] ∨ ∃ b o, a = some ⟨b, o, none⟩ ∧ b < B ∧ B ≤ w.heap.size ∧ ∀ i x, l[i]? = some x →
    w.cell? ⟨b, o + i * 3, none⟩ = some (.int .i64 x.k) ∧ w.cell? ⟨b, o + i * 3 + 1, none⟩ = some (.int .i64 x.n) ∧ w.cell? ⟨b, o + i * 3 + 2, none⟩ = some (.string x.t)

theorem TokRow.below {B B' : Nat} {w w' : World} {a : Option Addr} {l : List Tk} (h : TokRow B w a l) (hb : Below B' w w') (hB : B ≤ B') : TokRow B w' a l := by
  rcases h with h | ⟨b, o, rfl, h1, h2, h3⟩
  · exact .inl h
  · refine .inr ⟨b, o, rfl, h1, Nat.le_trans h2 hb.size, fun i x hx => ?_⟩
    obtain ⟨c0, c1, c2⟩ := h3 i x hx
    exact ⟨(hb.cell (p := ⟨b, _, none⟩) (by show b < B'; omega)).trans c0, (hb.cell (p := ⟨b, _, none⟩) (by show b < B'; omega)).trans c1, (hb.cell (p := ⟨b, _, none⟩) (by show b < B'; omega)).trans c2⟩
theorem TokRow.at_ {B : Nat} {w : World} {a : Option Addr} {l : List Tk} (h : TokRow B w a l) (k : Nat) (hk : k < l.length) :
    ∃ b o, a = some ⟨b, o, none⟩ ∧ b < B ∧ w.cell? ⟨b, o + k * 3, none⟩ = some (.int .i64 l[k].k) ∧ w.cell? ⟨b, o + k * 3 + 1, none⟩ = some (.int .i64 l[k].n) ∧ w.cell? ⟨b, o + k * 3 + 2, none⟩ = some (.string l[k].t) := by
  rcases h with rfl | ⟨b, o, rfl, h1, h2, h3⟩
  · simp at hk
  · obtain ⟨c0, c1, c2⟩ := h3 k l[k] (List.getElem?_eq_getElem hk)
    exact ⟨b, o, rfl, h1, c0, c1, c2⟩

/-- What is left when some tokens have been counted. -/
def szL (n : Int) : List Tk → Int
  | [] => n
  | x :: r => if n - x.t.size < 0 then -1 else szL (n - x.t.size) r
def szS (n : Int) (l : List Tk) : Int := if n - l.length < 0 then -1 else szL (n - l.length) l

set_option maxHeartbeats 1000000 in
theorem sz_toks (a : Option Addr) (c : Nat) (l : List Tk) (n : Int) (w : World) (hr : TokRow w.heap.size w a l) (hl : l.length ≤ maxLen) (ht : ∀ x ∈ l, x.t.size ≤ maxLen) (h0 : 0 ≤ n) (h1 : n ≤ 1048576) :
    Calls Tryd.prog 9 #[.slice a l.length c, .int .i64 n] w fun e w' => e = .returned (.int .i64 (szS n l)) ∧ Below w.heap.size w w' := by
  unfold maxLen at hl
  by_cases hz : n - l.length < 0
  · have H : Hid (-1 = szS n l) := by unfold Hid szS; rw [if_pos hz]
    go_enter Tryd.func9, Tryd.ntmps9
    go_wp2_with fail
    go_ret
    exact ⟨ret_int H.out, Below.refl _ _⟩
  · have H : Hid (szS n l = szL (n - l.length) (l.drop 0)) := by unfold Hid szS; rw [if_neg hz]; rfl
    have HR : Hid (TokRow w.heap.size w a l) := hr
    clear hr
    go_enter Tryd.func9, Tryd.ntmps9
    go_wp2_with fail
    go_loopw [1, 5] (fun r i w' => ∃ (k : Nat) (m : Int), k ≤ l.length ∧ i = .int .i64 k ∧ r = .int .i64 m ∧ 0 ≤ m ∧ m ≤ 1048576 ∧ Below w.heap.size w w' ∧ Hid (szS n l = szL m (l.drop k))) (fun _ i _ => l.length - (intOf i).toNat)
    case atStart => exact ⟨0, _, by omega, rfl, rfl, by omega, by omega, Below.refl _ _, H⟩
    case round =>
      rename_i wr
      obtain ⟨k, m, hk, rfl, rfl, hm0, hm1, hb, HK⟩ := hrel
      by_cases hlt : k < l.length
      · obtain ⟨b, o, ha, hbl, c0, c1, c2⟩ := (HR.out.below hb (Nat.le_refl _)).at_ k hlt
        subst ha
        have hsz := ht l[k] (List.getElem_mem hlt)
        have HD : szL m (l.drop k) = if m - l[k].t.size < 0 then -1 else szL (m - l[k].t.size) (l.drop (k + 1)) := by
          rw [List.drop_eq_getElem_cons hlt]; rfl
        by_cases hneg : m - l[k].t.size < 0
        · have HF : Hid (-1 = szS n l) := by rw [Hid, HK.out, HD, if_pos hneg]
          have hv : szT m l[k].t.size = -1 := by unfold szT; rw [if_pos hneg]
          clear HD HK hneg
          go_wp2_with fail
          refine (sz_tok _ _ _ m _ hsz hm0 hm1).mono ?_
          rintro e w1 ⟨rfl, hb1⟩
          rw [hv]
          clear hv
          go_wp2_with fail
          go_ret
          exact ⟨ret_int HF.out, hb.trans (hb1.mono hb.size)⟩
        · have HF : Hid (szS n l = szL (m - l[k].t.size) (l.drop (k + 1))) := by rw [Hid, HK.out, HD, if_neg hneg]
          have hv : szT m l[k].t.size = m - l[k].t.size := by unfold szT; rw [if_neg hneg]
          clear HD HK
          go_wp2_with fail
          refine (sz_tok _ _ _ m _ hsz hm0 hm1).mono ?_
          rintro e w1 ⟨rfl, hb1⟩
          rw [hv]
          clear hv
          go_wp2_with fail
          go_roundw
          case rel => exact ⟨k + 1, _, by omega, by go_num, rfl, by omega, by omega, hb.trans (hb1.mono hb.size), HF⟩
          case measure => simp [intOf]; omega
      · have HF : Hid (m = szS n l) := by rw [Hid, HK.out, List.drop_eq_nil_of_le (by omega)]; rfl
        go_wp2_with fail
        go_ret
        exact ⟨ret_int HF.out, hb⟩

theorem szL_le : ∀ (l : List Tk) (n : Int), ¬ szL n l < 0 → ∀ x ∈ l, (x.t.size : Int) ≤ n
  | [], _, _, x, hx => by cases hx
  | y :: r, n, h, x, hx => by
    rw [szL] at h
    by_cases hn : n - y.t.size < 0
    · rw [if_pos hn] at h; omega
    · rw [if_neg hn] at h
      rcases List.mem_cons.1 hx with rfl | hx
      · omega
      · have := szL_le r (n - y.t.size) h x hx; omega
theorem szS_le {n : Int} {l : List Tk} (h : ¬ szS n l < 0) : (l.length : Int) ≤ n ∧ ∀ x ∈ l, (x.t.size : Int) ≤ n := by
  unfold szS at h
  by_cases hn : n - l.length < 0
  · rw [if_pos hn] at h; omega
  · rw [if_neg hn] at h
    exact ⟨by omega, fun x hx => by have := szL_le l _ h x hx; omega⟩

set_option maxHeartbeats 1000000 in
theorem eq_tok (a b : Int) (s : ByteArray) (w : World) :
    Calls Tryd.prog 21 #[.agg #[.int .i64 a, .int .i64 b, .string s], .agg #[.int .i64 a, .int .i64 b, .string s]] w fun e w' => e = .returned (.bool true) ∧ Below w.heap.size w w' := by
  go_enter Tryd.func21, Tryd.ntmps21
  go_wp2_with fail
  go_ret
  refine ⟨rfl, ?_⟩
  repeat (first | exact Below.refl _ _ | refine Below.alloc ?_ (by simp) _)

theorem row_cell {w : World} {N : Nat} {e : TypeId} {cs : Array Value} (h : w.heap[N]? = some (.cells cs e (0, 0))) (j : Nat) : w.cell? ⟨N, j, none⟩ = cs[j]? := cell_of_row w N j cs e _ h
theorem row_frozen {w : World} {N : Nat} {e : TypeId} {cs : Array Value} (h : w.heap[N]? = some (.cells cs e (0, 0))) (j : Nat) : w.frozen? ⟨N, j, none⟩ = false := by
  simp [World.frozen?, h]
theorem row_set {w : World} {N : Nat} {e : TypeId} {cs : Array Value} (h : w.heap[N]? = some (.cells cs e (0, 0))) (j : Nat) (v : Value) : (w.setCell ⟨N, j, none⟩ v).heap[N]? = some (.cells (cs.setIfInBounds j v) e (0, 0)) := by
  rw [setCell_eq_setRow w N j cs e _ v h]; exact setRow_heap w N cs _ e _ h

/-- The first k tokens lie in the row. -/
def Laid (cs : Array Value) (l : List Tk) (k : Nat) : Prop := ∀ i x, i < k → l[i]? = some x → cs[i * 3]? = some (.int .i64 x.k) ∧ cs[i * 3 + 1]? = some (.int .i64 x.n) ∧ cs[i * 3 + 2]? = some (.string x.t)
def put3 (cs : Array Value) (k : Nat) (x : Tk) : Array Value := ((cs.setIfInBounds (k * 3) (.int .i64 x.k)).setIfInBounds (k * 3 + 1) (.int .i64 x.n)).setIfInBounds (k * 3 + 2) (.string x.t)
theorem Laid.put {cs : Array Value} {l : List Tk} {k : Nat} (h : Laid cs l k) (hk : k < l.length) (hs : cs.size = l.length * 3) : Laid (put3 cs k l[k]) l (k + 1) := by
  intro i x hi hx
  unfold put3
  by_cases hik : i = k
  · subst hik
    rw [List.getElem?_eq_getElem hk] at hx
    simp only [Option.some.injEq] at hx
    subst hx
    refine ⟨?_, ?_, ?_⟩ <;> simp [Array.getElem?_setIfInBounds] <;> omega
  · obtain ⟨c0, c1, c2⟩ := h i x (by omega) hx
    refine ⟨?_, ?_, ?_⟩
    · rw [Array.getElem?_setIfInBounds_ne (by omega), Array.getElem?_setIfInBounds_ne (by omega), Array.getElem?_setIfInBounds_ne (by omega)]; exact c0
    · rw [Array.getElem?_setIfInBounds_ne (by omega), Array.getElem?_setIfInBounds_ne (by omega), Array.getElem?_setIfInBounds_ne (by omega)]; exact c1
    · rw [Array.getElem?_setIfInBounds_ne (by omega), Array.getElem?_setIfInBounds_ne (by omega), Array.getElem?_setIfInBounds_ne (by omega)]; exact c2
theorem put3_size (cs : Array Value) (k : Nat) (x : Tk) : (put3 cs k x).size = cs.size := by simp [put3]
theorem Laid.row {w : World} {N : Nat} {cs : Array Value} {l : List Tk} (h : w.heap[N]? = some (.cells cs 27 (0, 0))) (hl : Laid cs l l.length) : TokRow w.heap.size w (some ⟨N, 0, none⟩) l := by
  refine .inr ⟨N, 0, rfl, (Array.getElem?_eq_some_iff.1 h).1, Nat.le_refl _, fun i x hx => ?_⟩
  have hi : i < l.length := (List.getElem?_eq_some_iff.1 hx).1
  rw [row_cell h, row_cell h, row_cell h, Nat.zero_add]
  exact hl i x hi hx

theorem info27 : ∃ i, Tryd.prog.info? 27 = some i ∧ i.zero = some (.agg #[.int .i64 0, .int .i64 0, .string ⟨#[]⟩]) ∧ i.size = 3 ∧ i.bytes = 32 := by
  refine ⟨_, rfl, ?_, ?_, ?_⟩ <;> kernel_rfl
set_option maxHeartbeats 1000000 in
theorem to_toks (a : Option Addr) (c : Nat) (l : List Tk) (w : World) (hr : TokRow w.heap.size w a l) (hl : l.length ≤ 1048576) :
    Calls Tryd.prog 11 #[.slice a l.length c] w fun e w' => ∃ a' c', e = .returned (.slice a' l.length c') ∧ TokRow w'.heap.size w' a' l ∧ Below w.heap.size w w' := by
  have HR : Hid (TokRow w.heap.size w a l) := hr
  clear hr
  obtain ⟨i27, hi, hz, hsz, hby⟩ := info27
  have hmk := run_make (P := Tryd.prog) w 33 27 i27 _ Tryd.underlying33 hi hz .i64 .i64 (l.length : Int) (l.length : Int) (by omega) (by omega) (by rw [hby]; omega) (by omega)
  rw [hsz, Int.toNat_natCast] at hmk
  clear hi hz hsz hby
  have hs0 := size_madeCells (Value.agg #[.int .i64 0, .int .i64 0, .string ⟨#[]⟩]).cells (l.length * 3)
  generalize madeCells (Value.agg #[.int .i64 0, .int .i64 0, .string ⟨#[]⟩]).cells (l.length * 3) = cs0 at *
  go_enter Tryd.func11, Tryd.ntmps11
  go_wp2_with fail
  go_loopw [4] (fun i w' => ∃ (k : Nat) (cs : Array Value), k ≤ l.length ∧ i = .int .i64 k ∧ Below w.heap.size w w' ∧ Hid (w'.heap[w.heap.size]? = some (.cells cs 27 (0, 0))) ∧ cs.size = l.length * 3 ∧ Hid (Laid cs l k)) (fun i _ => l.length - (intOf i).toNat)
  case atStart => exact ⟨0, cs0, by omega, rfl, (Below.refl _ _).alloc (Nat.le_refl _) _, heap_alloc_new _ _, hs0, fun i x h => by omega⟩
  case round =>
    rename_i wr
    obtain ⟨k, cs, hk, rfl, hb, HH, hcs, HL⟩ := hrel
    clear hmk hs0
    by_cases hlt : k < l.length
    · obtain ⟨b, o, ha, hbl, c0, c1, c2⟩ := (HR.out.below hb (Nat.le_refl _)).at_ k hlt
      subst ha
      go_wp2_with fail
      refine (to_tok _ _ _ _).mono ?_
      rintro e w1 ⟨rfl, hb1⟩
      have hN : w.heap.size < wr.heap.size := (Array.getElem?_eq_some_iff.1 HH.out).1
      have HH1 : Hid (w1.heap[w.heap.size]? = some (.cells cs 27 (0, 0))) := (hb1.block _ hN).trans HH.out
      obtain ⟨v0, hv0⟩ : ∃ v, w1.cell? ⟨w.heap.size, k * 3, none⟩ = some v := ⟨_, (row_cell HH1.out _).trans (Array.getElem?_eq_getElem (by omega))⟩
      obtain ⟨v1, hv1⟩ : ∃ v, w1.cell? ⟨w.heap.size, k * 3 + 1, none⟩ = some v := ⟨_, (row_cell HH1.out _).trans (Array.getElem?_eq_getElem (by omega))⟩
      obtain ⟨v2, hv2⟩ : ∃ v, w1.cell? ⟨w.heap.size, k * 3 + 2, none⟩ = some v := ⟨_, (row_cell HH1.out _).trans (Array.getElem?_eq_getElem (by omega))⟩
      have hf0 := row_frozen HH1.out (k * 3)
      have hf1 := row_frozen HH1.out (k * 3 + 1)
      have hf2 := row_frozen HH1.out (k * 3 + 2)
      clear c0 c1 c2
      have qb := hb.trans (hb1.mono hb.size)
      go_wp2_with fail
      exact ⟨⟨k + 1, put3 cs k l[k], by omega, by go_num, ((qb.setCell (Nat.le_refl _) _).setCell (Nat.le_refl _) _).setCell (Nat.le_refl _) _, row_set (row_set (row_set HH1.out _ _) _ _) _ _, by rw [put3_size]; exact hcs, HL.out.put hlt hcs⟩, by simp [intOf]; omega⟩
    · go_wp2_with fail
      go_ret
      obtain rfl : k = l.length := by omega
      exact ⟨_, _, rfl, Laid.row HH.out HL.out, hb⟩

set_option maxHeartbeats 1000000 in
theorem eq_toks (a a' : Option Addr) (c c' : Nat) (l : List Tk) (w : World) (hr : TokRow w.heap.size w a l) (hr' : TokRow w.heap.size w a' l) (hl : l.length ≤ 1048576) :
    Calls Tryd.prog 13 #[.slice a l.length c, .slice a' l.length c'] w fun e w' => e = .returned (.bool true) ∧ Below w.heap.size w w' := by
  have HR : Hid (TokRow w.heap.size w a l) := hr
  have HR' : Hid (TokRow w.heap.size w a' l) := hr'
  clear hr hr'
  go_enter Tryd.func13, Tryd.ntmps13
  go_wp2_with fail
  go_loopw [5] (fun i w' => ∃ (k : Nat), k ≤ l.length ∧ i = .int .i64 k ∧ Below w.heap.size w w') (fun i _ => l.length - (intOf i).toNat)
  case atStart => exact ⟨0, by omega, rfl, Below.refl _ _⟩
  case round =>
    rename_i wr
    obtain ⟨k, hk, rfl, hb⟩ := hrel
    by_cases hlt : k < l.length
    · obtain ⟨b, o, ha, hbl, c0, c1, c2⟩ := (HR.out.below hb (Nat.le_refl _)).at_ k hlt
      obtain ⟨b', o', ha', hbl', d0, d1, d2⟩ := (HR'.out.below hb (Nat.le_refl _)).at_ k hlt
      subst ha
      subst ha'
      have hlt' : (k : Int) < l.length := by omega
      go_wp2_with fail
      go_region_with (go_at_call 21; refine (eq_tok _ _ _ _).mono ?_; rintro e w1 ⟨rfl, hb1⟩)
      all_goals
        go_wp2_with fail
        exact ⟨⟨k + 1, by omega, by go_num, hb.drew.trans (hb1.mono hb.size)⟩, by simp [intOf]; omega⟩
    · go_wp2_with fail
      go_ret
      exact ⟨rfl, hb⟩
end Go.Proofs.YtjbogjoadcikhahDoor
