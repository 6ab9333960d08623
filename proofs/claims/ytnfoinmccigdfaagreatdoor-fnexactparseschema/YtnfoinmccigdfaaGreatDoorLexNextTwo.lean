/- The token at a place: names, numbers and marks. -/
import Derived.Test.YtnfoinmccigdfaaGreatDoorLexNext
namespace Go.Proofs.YtnfoinmccigdfaaGreatDoor
open Go.ChangeShapes Go.WideShapes Go.ChangeAt Go.RowKit
set_option linter.unusedVariables false

theorem row_cell {w : World} {N : Nat} {e : TypeId} {cs : Array Value} (h : w.heap[N]? = some (.cells cs e (0, 0))) (j : Nat) : w.cell? ⟨N, j, none⟩ = cs[j]? := cell_of_row w N j cs e _ h
theorem row_frozen {w : World} {N : Nat} {e : TypeId} {cs : Array Value} (h : w.heap[N]? = some (.cells cs e (0, 0))) (j : Nat) : w.frozen? ⟨N, j, none⟩ = false := by
  simp [World.frozen?, h]
theorem row_set {w : World} {N : Nat} {e : TypeId} {cs : Array Value} (h : w.heap[N]? = some (.cells cs e (0, 0))) (j : Nat) (v : Value) : (w.setCell ⟨N, j, none⟩ v).heap[N]? = some (.cells (cs.setIfInBounds j v) e (0, 0)) := by
  rw [setCell_eq_setRow w N j cs e _ v h]; exact setRow_heap w N cs _ e _ h
theorem results22_row (tmps : Array Value) (W : World) (N : Nat) (cs : Array Value) (v5 v6 : Value) (h4 : tmps.getD 4 undef = .pointer (some ⟨N, 0, none⟩)) (h5 : tmps.getD 5 undef = v5) (h6 : tmps.getD 6 undef = v6)
    (hrow : W.heap[N]? = some (.cells cs 75 (0, 0))) (hsz : cs.size = 3) : (results Tryz.f38 tmps).run Tryz.prog W = .ok (.tuple #[.agg cs, v5, v6]) W := by
  have c39 : (Tryz.prog.info? 75).map (·.size) = some 3 := by kernel_rfl
  have hl := run_loadVar_row (P := Tryz.prog) W N 75 75 cs (0, 0) _ hrow Tryz.underlying75 rfl (by rw [hsz]; exact c39)
  have h4' : tmps[4]?.getD undef = .pointer (some ⟨N, 0, none⟩) := by simpa using h4
  have h5' : tmps[5]?.getD undef = v5 := by simpa using h5
  have h6' : tmps[6]?.getD undef = v6 := by simpa using h6
  simp [results, Tryz.results38, h4', h5', h6', asAddr, hl]

set_option maxHeartbeats 1000000 in
theorem next_name (s : ByteArray) (p : Nat) (w : World) (hs : s.size ≤ 65536) (hp : p < s.size) (hc : ¬ (s[p].toNat : Int) = 36) (hl : letB (s[p].toNat : Int) = true) :
    Calls Tryz.prog 38 #[.string s, .int .i64 p] w (NextIs s p w) := by
  have hw := we_bounds (s := s) (i := p) (by omega)
  have HT : Hid (tokAt s p = if nameB (s.extract p (we s p)) = true then some (⟨1, 0, s.extract p (we s p)⟩, we s p) else none) := by
    unfold Hid tokAt; rw [bt_lt hp, if_neg hc, if_pos hl]
  have hc' : ((s[p].toNat : Int) == 36) = false := by rw [beq_eq_false_iff_ne]; exact hc
  clear hc
  go_enter Tryz.func38, Tryz.ntmps38
  go_wp2_with fail
  refine (letter_any _ _).mono ?_
  rintro e w1 ⟨rfl, rfl⟩
  go_wp2_with fail
  refine (wordEnd_any s p _ hs (by omega)).mono ?_
  rintro e w1 ⟨rfl, rfl⟩
  generalize hq : we s p = q at *
  have HQ : Hid _ := hq
  clear hq hc' hl
  have b1 : (p : Int) ≤ q := by omega
  have b2 : (q : Int) ≤ s.size := by omega
  have hx : (s.extract p q).size ≤ maxLen := by rw [ByteArray.size_extract]; unfold maxLen; omega
  go_wp2_with fail
  generalize s.extract p q = T at *
  go_region_with (go_at_call 41; refine (spec_nameOK T _ hx).mono ?_; rintro e w2 ⟨rfl, rfl⟩)
  all_goals
    go_wp2_with fail
    refine bodyPost_ret (v := .tuple #[.agg #[.int .i64 1, .int .i64 0, .string T], .int .i64 q, .bool (nameB T)]) (by simp [results, Tryz.results38, go_sem]) rfl ⟨⟨1, 0, T⟩, q, nameB T, rfl, fun hb => by rw [HT.out, if_pos hb], fun hb => by rw [HT.out, if_neg (by rw [hb]; decide)], ?_⟩
    repeat (first | exact Below.refl _ _ | refine Below.drew ?_ | refine Below.setCell ?_ (by simp <;> omega) _ | refine Below.alloc ?_ (by simp <;> omega) _)

theorem fin_int (s : ByteArray) (p : Nat) (T : ByteArray) (q : Nat) (n : Int) (h1 : tokAt s p = (numT T.toList).map fun n => (⟨2, n, ⟨#[]⟩⟩, q)) (h2 : ∀ m, numT T.toList = some m → n = m) :
    ((numT T.toList).isSome = true → tokAt s p = some (⟨2, n, ⟨#[]⟩⟩, q)) ∧ ((numT T.toList).isSome = false → tokAt s p = none) := by
  cases hn : numT T.toList with
  | none =>
    rw [hn] at h1
    constructor
    · intro h; cases h
    · intro _; exact h1
  | some m =>
    rw [hn] at h1
    constructor
    · intro _; rw [h2 m hn]; exact h1
    · intro h; cases h

set_option maxHeartbeats 1000000 in
theorem next_int (s : ByteArray) (p : Nat) (w : World) (hs : s.size ≤ 65536) (hp : p < s.size) (hc : ¬ (s[p].toNat : Int) = 36) (hl : letB (s[p].toNat : Int) = false) (hd : (s[p].toNat : Int) = 45 ∨ digB (s[p].toNat : Int) = true) :
    Calls Tryz.prog 38 #[.string s, .int .i64 p] w (NextIs s p w) := by
  have hw := we_bounds (s := s) (i := p + 1) (by omega)
  have HT : Hid (tokAt s p = (numT (s.extract p (we s (p + 1))).toList).map fun n => (⟨2, n, ⟨#[]⟩⟩, we s (p + 1))) := by
    unfold Hid tokAt; rw [bt_lt hp, if_neg hc, if_neg (by rw [hl]; decide), if_pos hd]
  have hc' : ((s[p].toNat : Int) == 36) = false := by rw [beq_eq_false_iff_ne]; exact hc
  clear hc
  by_cases h45 : (s[p].toNat : Int) = 45
  · have h45' : ((s[p].toNat : Int) == 45) = true := by rw [h45]; rfl
    clear h45 hd
    go_enter Tryz.func38, Tryz.ntmps38
    go_wp2_with fail
    refine (letter_any _ _).mono ?_
    rintro e w1 ⟨rfl, rfl⟩
    go_wp2_with fail
    refine (wordEnd_int s _ _ hs (by omega) (by omega)).mono ?_
    rintro e w1 ⟨rfl, rfl⟩
    rw [show ((p : Int) + 1).toNat = p + 1 by omega]
    generalize hq : we s (p + 1) = q at *
    have HQ : Hid _ := hq
    clear hq hc' hl h45'
    have b1 : (p : Int) ≤ q := by omega
    have b2 : (q : Int) ≤ s.size := by omega
    have hx : (s.extract p q).size ≤ 65536 := by rw [ByteArray.size_extract]; omega
    have hx0 : 0 < (s.extract p q).size := by rw [ByteArray.size_extract]; omega
    go_wp2_with fail
    generalize s.extract p q = T at *
    refine (int_any T _ hx hx0).mono ?_
    rintro e w2 ⟨n, rfl, hn, hb2⟩
    have FF := fin_int s p T q n HT.out hn
    clear hn
    have HFF : Hid _ := FF
    clear FF
    obtain ⟨hc2, hf2⟩ := bcell hb2
    have hz2 : w.heap.size + 1 ≤ w2.heap.size := by have := hb2.size; simpa using this
    generalize (numT T.toList).isSome = ok at *
    go_wp2_with fail
    refine bodyPost_ret (v := .tuple #[.agg #[.int .i64 2, .int .i64 n, .string ⟨#[]⟩], .int .i64 q, .bool ok]) ?_ rfl ⟨⟨2, n, ⟨#[]⟩⟩, q, _, rfl, HFF.out.1, HFF.out.2, ?_⟩
    · have hrow : w2.heap[w.heap.size]? = some (.cells #[.int .i64 0, .int .i64 0, .string ⟨#[]⟩] 75 (0, 0)) := (hb2.block _ (by simp)).trans (heap_alloc_new _ _)
      exact results22_row _ _ w.heap.size _ _ _ rfl rfl rfl (row_set (row_set (row_set hrow _ _) _ _) _ _) rfl
    · refine Below.setCell ?_ (by simp) _
      refine Below.setCell ?_ (by simp) _
      refine Below.setCell ?_ (by simp) _
      exact ((Below.refl _ _).alloc (Nat.le_refl _) _).trans (hb2.mono (by simp))
  · have h45' : ((s[p].toNat : Int) == 45) = false := by rw [beq_eq_false_iff_ne]; exact h45
    have hd' : digB (s[p].toNat : Int) = true := by
      rcases hd with h | h
      · exact absurd h h45
      · exact h
    clear h45 hd
    go_enter Tryz.func38, Tryz.ntmps38
    go_wp2_with fail
    refine (letter_any _ _).mono ?_
    rintro e w1 ⟨rfl, rfl⟩
    go_wp2_with (go_at_call 60; refine (digit_any _ _).mono ?_; rintro e w1 ⟨rfl, rfl⟩)
    refine (wordEnd_int s _ _ hs (by omega) (by omega)).mono ?_
    rintro e w1 ⟨rfl, rfl⟩
    rw [show ((p : Int) + 1).toNat = p + 1 by omega]
    generalize hq : we s (p + 1) = q at *
    have HQ : Hid _ := hq
    clear hq hc' hl h45' hd'
    have b1 : (p : Int) ≤ q := by omega
    have b2 : (q : Int) ≤ s.size := by omega
    have hx : (s.extract p q).size ≤ 65536 := by rw [ByteArray.size_extract]; omega
    have hx0 : 0 < (s.extract p q).size := by rw [ByteArray.size_extract]; omega
    go_wp2_with fail
    generalize s.extract p q = T at *
    refine (int_any T _ hx hx0).mono ?_
    rintro e w2 ⟨n, rfl, hn, hb2⟩
    have FF := fin_int s p T q n HT.out hn
    clear hn
    have HFF : Hid _ := FF
    clear FF
    obtain ⟨hc2, hf2⟩ := bcell hb2
    have hz2 : w.heap.size + 1 ≤ w2.heap.size := by have := hb2.size; simpa using this
    generalize (numT T.toList).isSome = ok at *
    go_wp2_with fail
    refine bodyPost_ret (v := .tuple #[.agg #[.int .i64 2, .int .i64 n, .string ⟨#[]⟩], .int .i64 q, .bool ok]) ?_ rfl ⟨⟨2, n, ⟨#[]⟩⟩, q, _, rfl, HFF.out.1, HFF.out.2, ?_⟩
    · have hrow : w2.heap[w.heap.size]? = some (.cells #[.int .i64 0, .int .i64 0, .string ⟨#[]⟩] 75 (0, 0)) := (hb2.block _ (by simp)).trans (heap_alloc_new _ _)
      exact results22_row _ _ w.heap.size _ _ _ rfl rfl rfl (row_set (row_set (row_set hrow _ _) _ _) _ _) rfl
    · refine Below.setCell ?_ (by simp) _
      refine Below.setCell ?_ (by simp) _
      refine Below.setCell ?_ (by simp) _
      exact ((Below.refl _ _).alloc (Nat.le_refl _) _).trans (hb2.mono (by simp))
end Go.Proofs.YtnfoinmccigdfaaGreatDoor
