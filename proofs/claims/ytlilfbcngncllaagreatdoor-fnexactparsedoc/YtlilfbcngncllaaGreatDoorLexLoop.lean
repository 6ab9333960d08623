/- Reading a text into tokens: that the specification's text of it does it. -/
import Derived.Test.YtlilfbcngncllaaGreatDoorLexNum
namespace Go.Proofs.YtlilfbcngncllaaGreatDoor
open Go.ChangeShapes Go.WideShapes Go.ChangeAt Go.RowKit
set_option linter.unusedVariables false

theorem number_any (s : ByteArray) (w : World) (hs : s.size ≤ 65536) (h : 0 < s.size) :
    Calls Tryz.prog 80 #[.string s] w fun e w' => e = .returned (.tuple #[.int .i64 ((numF s.toList).getD 0), .bool (numF s.toList).isSome]) ∧ w' = w := by
  by_cases h0 : (s[0].toNat : Int) = 45
  · exact number_neg s w hs h h0
  · exact number_pos s w hs h h0
theorem numN_bound {neg : Bool} {l : List UInt8} {n : Int} (h : numN neg l = some n) : -1000000000000000000 < n ∧ n < 1000000000000000000 := by
  unfold numN at h
  split at h
  · cases h
  · rename_i hc
    obtain ⟨m, hm, rfl⟩ := Option.map_eq_some_iff.1 h
    have := Lib.decFrom_lt18 hm (by omega)
    split <;> omega
theorem numF_bound {l : List UInt8} {n : Int} (h : numF l = some n) : -1000000000000000000 < n ∧ n < 1000000000000000000 := by
  cases l with
  | nil => cases h
  | cons c r =>
    rw [numF] at h
    split at h
    · exact numN_bound h
    · exact numN_bound h

set_option maxHeartbeats 1000000 in
theorem int_any (s : ByteArray) (w : World) (hs : s.size ≤ 65536) (h : 0 < s.size) :
    Calls Tryz.prog 58 #[.string s] w fun e w' => ∃ n : Int, e = .returned (.tuple #[.int .i64 n, .bool (numT s.toList).isSome]) ∧ (∀ m, numT s.toList = some m → n = m) ∧ Below w.heap.size w w' := by
  cases hf : numF s.toList with
  | none =>
    have hn : numT s.toList = none := by
      cases ht : numT s.toList with
      | none => rfl
      | some n => rw [((numT_iff _ _).1 ht).1] at hf; cases hf
    have HN : Hid (numT s.toList = none) := hn
    have HF : Hid (numF s.toList = none) := hf
    clear hn hf
    go_enter Tryz.func58, Tryz.ntmps58
    go_wp2_with fail
    refine (number_any s _ hs h).mono ?_
    rintro e w1 ⟨rfl, rfl⟩
    rw [HF.out]
    go_wp2_with fail
    go_ret2
    exact ⟨0, by rw [HN.out]; rfl, fun m hm => by (rw [HN.out] at hm; cases hm), Below.refl _ _⟩
  | some n =>
    have hb := numF_bound hf
    have HF : Hid (numF s.toList = some n) := hf
    clear hf
    by_cases he : Lib.itoa n = s.toList
    · have he' : ((⟨(Lib.itoa n).toArray⟩ : ByteArray).toList == s.toList) = true := by rw [ByteArray.toList_mk, he]; simp
      have HT : Hid (numT s.toList = if intB n = true then some n else none) := by
        unfold Hid
        by_cases hi : intB n = true
        · rw [if_pos hi]; exact (numT_iff _ _).2 ⟨HF.out, he, hi⟩
        · rw [if_neg hi]
          cases ht : numT s.toList with
          | none => rfl
          | some m =>
            have h1 := (numT_iff _ _).1 ht
            rw [HF.out] at h1
            obtain ⟨h2, _, h3⟩ := h1
            simp only [Option.some.injEq] at h2
            rw [h2] at hi; exact absurd h3 hi
      have HI : Hid (∀ W : World, Calls Tryz.prog 81 #[.int .i64 n] W fun e w' => e = .returned (.string ⟨(Lib.itoa n).toArray⟩) ∧ Below W.heap.size W w') := fun W => digs_any n W (by omega) (by omega)
      clear he
      generalize (⟨(Lib.itoa n).toArray⟩ : ByteArray) = S at *
      cases hi : intB n
      · rw [hi] at HT
        go_enter Tryz.func58, Tryz.ntmps58
        go_wp2_with fail
        refine (number_any s _ hs h).mono ?_
        rintro e w1 ⟨rfl, rfl⟩
        rw [HF.out]
        go_wp2_with fail
        refine (HI.out _).mono ?_
        rintro e w2 ⟨rfl, hb2⟩
        go_wp2_with fail
        refine (spec_isInt n _).mono ?_
        rintro e w3 ⟨rfl, rfl⟩
        go_wp2_with fail
        go_ret2
        have e1 : numT s.toList = none := by rw [HT.out]; rfl
        exact ⟨n, by rw [e1]; rfl, fun m hm => by (rw [e1] at hm; cases hm), hb2⟩
      · rw [hi] at HT
        go_enter Tryz.func58, Tryz.ntmps58
        go_wp2_with fail
        refine (number_any s _ hs h).mono ?_
        rintro e w1 ⟨rfl, rfl⟩
        rw [HF.out]
        go_wp2_with fail
        refine (HI.out _).mono ?_
        rintro e w2 ⟨rfl, hb2⟩
        go_wp2_with fail
        refine (spec_isInt n _).mono ?_
        rintro e w3 ⟨rfl, rfl⟩
        go_wp2_with fail
        go_ret2
        have e1 : numT s.toList = some n := by rw [HT.out]; rfl
        exact ⟨n, by rw [e1]; rfl, fun m hm => by (rw [e1] at hm; simpa using hm), hb2⟩
    · have he' : ((⟨(Lib.itoa n).toArray⟩ : ByteArray).toList == s.toList) = false := by rw [ByteArray.toList_mk]; simpa using he
      have HT : Hid (numT s.toList = none) := by
        unfold Hid
        cases ht : numT s.toList with
        | none => rfl
        | some m =>
          have h1 := (numT_iff _ _).1 ht
          rw [HF.out] at h1
          obtain ⟨h2, h3, _⟩ := h1
          simp only [Option.some.injEq] at h2
          rw [← h2] at h3; exact absurd h3 he
      have HI : Hid (∀ W : World, Calls Tryz.prog 81 #[.int .i64 n] W fun e w' => e = .returned (.string ⟨(Lib.itoa n).toArray⟩) ∧ Below W.heap.size W w') := fun W => digs_any n W (by omega) (by omega)
      clear he
      generalize (⟨(Lib.itoa n).toArray⟩ : ByteArray) = S at *
      go_enter Tryz.func58, Tryz.ntmps58
      go_wp2_with fail
      refine (number_any s _ hs h).mono ?_
      rintro e w1 ⟨rfl, rfl⟩
      rw [HF.out]
      go_wp2_with fail
      refine (HI.out _).mono ?_
      rintro e w2 ⟨rfl, hb2⟩
      go_wp2_with fail
      go_ret2
      exact ⟨n, by rw [HT.out]; rfl, fun m hm => by (rw [HT.out] at hm; cases hm), hb2⟩

theorem wordEnd_int (s : ByteArray) (i : Int) (w : World) (hs : s.size ≤ 65536) (h0 : 0 ≤ i) (hi : i ≤ s.size) :
    Calls Tryz.prog 55 #[.string s, .int .i64 i] w fun e w' => e = .returned (.int .i64 (we s i.toNat)) ∧ w' = w := by
  obtain ⟨n, rfl⟩ := Int.eq_ofNat_of_zero_le h0
  exact wordEnd_any s n w hs (by omega)

def NextIs (s : ByteArray) (p : Nat) (w : World) (e : Ending) (w' : World) : Prop :=
  ∃ (x : Tk) (q : Nat) (b : Bool), e = .returned (.tuple #[.agg #[.int .i64 x.k, .int .i64 x.n, .string x.t], .int .i64 q, .bool b]) ∧ (b = true → tokAt s p = some (x, q)) ∧ (b = false → tokAt s p = none) ∧ Below w.heap.size w w'

set_option maxHeartbeats 1000000 in
theorem next_var (s : ByteArray) (p : Nat) (w : World) (hs : s.size ≤ 65536) (hp : p < s.size) (hc : (s[p].toNat : Int) = 36) :
    Calls Tryz.prog 32 #[.string s, .int .i64 p] w (NextIs s p w) := by
  have hw := we_bounds (s := s) (i := p + 1) (by omega)
  have HT : Hid (tokAt s p = if nameB (s.extract (p + 1) (we s (p + 1))) = true then some (⟨3, 0, s.extract (p + 1) (we s (p + 1))⟩, we s (p + 1)) else none) := by
    unfold Hid tokAt; rw [bt_lt hp, if_pos hc]
  have hc' : ((s[p].toNat : Int) == 36) = true := by rw [hc]; rfl
  go_enter Tryz.func32, Tryz.ntmps32
  go_wp2_with fail
  refine (wordEnd_int s _ _ hs (by omega) (by omega)).mono ?_
  rintro e w1 ⟨rfl, rfl⟩
  rw [show ((p : Int) + 1).toNat = p + 1 by omega]
  generalize hq : we s (p + 1) = q at *
  have HQ : Hid _ := hq
  clear hq hc hc'
  have b1 : (p : Int) + 1 ≤ q := by omega
  have b2 : (q : Int) ≤ s.size := by omega
  have hx : (s.extract (p + 1) q).size ≤ maxLen := by rw [ByteArray.size_extract]; unfold maxLen; omega
  go_wp2_with fail
  generalize s.extract (p + 1) q = T at *
  go_region_with (go_at_call 38; refine (spec_nameOK T _ hx).mono ?_; rintro e w2 ⟨rfl, rfl⟩)
  all_goals
    go_wp2_with fail
    refine bodyPost_ret (v := .tuple #[.agg #[.int .i64 3, .int .i64 0, .string T], .int .i64 q, .bool (nameB T)]) (by simp [results, Tryz.results32, go_sem]) rfl ⟨⟨3, 0, T⟩, q, nameB T, rfl, fun hb => by rw [HT.out, if_pos hb], fun hb => by rw [HT.out, if_neg (by rw [hb]; decide)], ?_⟩
    repeat (first | exact Below.refl _ _ | refine Below.drew ?_ | refine Below.setCell ?_ (by simp <;> omega) _ | refine Below.alloc ?_ (by simp <;> omega) _)
end Go.Proofs.YtlilfbcngncllaaGreatDoor
namespace Go.Proofs.YtlilfbcngncllaaGreatDoor
open Go.ChangeShapes Go.WideShapes Go.ChangeAt Go.RowKit
set_option linter.unusedVariables false

theorem row_cell {w : World} {N : Nat} {e : TypeId} {cs : Array Value} (h : w.heap[N]? = some (.cells cs e (0, 0))) (j : Nat) : w.cell? ⟨N, j, none⟩ = cs[j]? := cell_of_row w N j cs e _ h
theorem row_frozen {w : World} {N : Nat} {e : TypeId} {cs : Array Value} (h : w.heap[N]? = some (.cells cs e (0, 0))) (j : Nat) : w.frozen? ⟨N, j, none⟩ = false := by
  simp [World.frozen?, h]
theorem row_set {w : World} {N : Nat} {e : TypeId} {cs : Array Value} (h : w.heap[N]? = some (.cells cs e (0, 0))) (j : Nat) (v : Value) : (w.setCell ⟨N, j, none⟩ v).heap[N]? = some (.cells (cs.setIfInBounds j v) e (0, 0)) := by
  rw [setCell_eq_setRow w N j cs e _ v h]; exact setRow_heap w N cs _ e _ h
theorem results22_row (tmps : Array Value) (W : World) (N : Nat) (cs : Array Value) (v5 v6 : Value) (h4 : tmps.getD 4 undef = .pointer (some ⟨N, 0, none⟩)) (h5 : tmps.getD 5 undef = v5) (h6 : tmps.getD 6 undef = v6)
    (hrow : W.heap[N]? = some (.cells cs 66 (0, 0))) (hsz : cs.size = 3) : (results Tryz.f32 tmps).run Tryz.prog W = .ok (.tuple #[.agg cs, v5, v6]) W := by
  have c39 : (Tryz.prog.info? 66).map (·.size) = some 3 := by kernel_rfl
  have hl := run_loadVar_row (P := Tryz.prog) W N 66 66 cs (0, 0) _ hrow Tryz.underlying66 rfl (by rw [hsz]; exact c39)
  have h4' : tmps[4]?.getD undef = .pointer (some ⟨N, 0, none⟩) := by simpa using h4
  have h5' : tmps[5]?.getD undef = v5 := by simpa using h5
  have h6' : tmps[6]?.getD undef = v6 := by simpa using h6
  simp [results, Tryz.results32, h4', h5', h6', asAddr, hl]

set_option maxHeartbeats 1000000 in
theorem next_name (s : ByteArray) (p : Nat) (w : World) (hs : s.size ≤ 65536) (hp : p < s.size) (hc : ¬ (s[p].toNat : Int) = 36) (hl : letB (s[p].toNat : Int) = true) :
    Calls Tryz.prog 32 #[.string s, .int .i64 p] w (NextIs s p w) := by
  have hw := we_bounds (s := s) (i := p) (by omega)
  have HT : Hid (tokAt s p = if nameB (s.extract p (we s p)) = true then some (⟨1, 0, s.extract p (we s p)⟩, we s p) else none) := by
    unfold Hid tokAt; rw [bt_lt hp, if_neg hc, if_pos hl]
  have hc' : ((s[p].toNat : Int) == 36) = false := by rw [beq_eq_false_iff_ne]; exact hc
  clear hc
  go_enter Tryz.func32, Tryz.ntmps32
  go_wp2_with fail
  refine (letter_any _ _).mono ?_
  rintro e w1 ⟨rfl, rfl⟩
  go_wp2_with fail
  refine (wordEnd_any s p _ hs (by omega)).mono ?_
  rintro e w1 ⟨rfl, rfl⟩
  generalize hq : we s p = q at *
  have HQ : Hid _ := hq
  clear hq hc' hl
  have b1 : (p : Int) ≤ q := by omega
  have b2 : (q : Int) ≤ s.size := by omega
  have hx : (s.extract p q).size ≤ maxLen := by rw [ByteArray.size_extract]; unfold maxLen; omega
  go_wp2_with fail
  generalize s.extract p q = T at *
  go_region_with (go_at_call 38; refine (spec_nameOK T _ hx).mono ?_; rintro e w2 ⟨rfl, rfl⟩)
  all_goals
    go_wp2_with fail
    refine bodyPost_ret (v := .tuple #[.agg #[.int .i64 1, .int .i64 0, .string T], .int .i64 q, .bool (nameB T)]) (by simp [results, Tryz.results32, go_sem]) rfl ⟨⟨1, 0, T⟩, q, nameB T, rfl, fun hb => by rw [HT.out, if_pos hb], fun hb => by rw [HT.out, if_neg (by rw [hb]; decide)], ?_⟩
    repeat (first | exact Below.refl _ _ | refine Below.drew ?_ | refine Below.setCell ?_ (by simp <;> omega) _ | refine Below.alloc ?_ (by simp <;> omega) _)

theorem fin_int (s : ByteArray) (p : Nat) (T : ByteArray) (q : Nat) (n : Int) (h1 : tokAt s p = (numT T.toList).map fun n => (⟨2, n, ⟨#[]⟩⟩, q)) (h2 : ∀ m, numT T.toList = some m → n = m) :
    ((numT T.toList).isSome = true → tokAt s p = some (⟨2, n, ⟨#[]⟩⟩, q)) ∧ ((numT T.toList).isSome = false → tokAt s p = none) := by
  cases hn : numT T.toList with
  | none =>
    rw [hn] at h1
    constructor
    · intro h; cases h
    · intro _; exact h1
  | some m =>
    rw [hn] at h1
    constructor
    · intro _; rw [h2 m hn]; exact h1
    · intro h; cases h

set_option maxHeartbeats 1000000 in
theorem next_int (s : ByteArray) (p : Nat) (w : World) (hs : s.size ≤ 65536) (hp : p < s.size) (hc : ¬ (s[p].toNat : Int) = 36) (hl : letB (s[p].toNat : Int) = false) (hd : (s[p].toNat : Int) = 45 ∨ digB (s[p].toNat : Int) = true) :
    Calls Tryz.prog 32 #[.string s, .int .i64 p] w (NextIs s p w) := by
  have hw := we_bounds (s := s) (i := p + 1) (by omega)
  have HT : Hid (tokAt s p = (numT (s.extract p (we s (p + 1))).toList).map fun n => (⟨2, n, ⟨#[]⟩⟩, we s (p + 1))) := by
    unfold Hid tokAt; rw [bt_lt hp, if_neg hc, if_neg (by rw [hl]; decide), if_pos hd]
  have hc' : ((s[p].toNat : Int) == 36) = false := by rw [beq_eq_false_iff_ne]; exact hc
  clear hc
  by_cases h45 : (s[p].toNat : Int) = 45
  · have h45' : ((s[p].toNat : Int) == 45) = true := by rw [h45]; rfl
    clear h45 hd
    go_enter Tryz.func32, Tryz.ntmps32
    go_wp2_with fail
    refine (letter_any _ _).mono ?_
    rintro e w1 ⟨rfl, rfl⟩
    go_wp2_with fail
    refine (wordEnd_int s _ _ hs (by omega) (by omega)).mono ?_
    rintro e w1 ⟨rfl, rfl⟩
    rw [show ((p : Int) + 1).toNat = p + 1 by omega]
    generalize hq : we s (p + 1) = q at *
    have HQ : Hid _ := hq
    clear hq hc' hl h45'
    have b1 : (p : Int) ≤ q := by omega
    have b2 : (q : Int) ≤ s.size := by omega
    have hx : (s.extract p q).size ≤ 65536 := by rw [ByteArray.size_extract]; omega
    have hx0 : 0 < (s.extract p q).size := by rw [ByteArray.size_extract]; omega
    go_wp2_with fail
    generalize s.extract p q = T at *
    refine (int_any T _ hx hx0).mono ?_
    rintro e w2 ⟨n, rfl, hn, hb2⟩
    have FF := fin_int s p T q n HT.out hn
    clear hn
    have HFF : Hid _ := FF
    clear FF
    obtain ⟨hc2, hf2⟩ := bcell hb2
    have hz2 : w.heap.size + 1 ≤ w2.heap.size := by have := hb2.size; simpa using this
    generalize (numT T.toList).isSome = ok at *
    go_wp2_with fail
    refine bodyPost_ret (v := .tuple #[.agg #[.int .i64 2, .int .i64 n, .string ⟨#[]⟩], .int .i64 q, .bool ok]) ?_ rfl ⟨⟨2, n, ⟨#[]⟩⟩, q, _, rfl, HFF.out.1, HFF.out.2, ?_⟩
    · have hrow : w2.heap[w.heap.size]? = some (.cells #[.int .i64 0, .int .i64 0, .string ⟨#[]⟩] 66 (0, 0)) := (hb2.block _ (by simp)).trans (heap_alloc_new _ _)
      exact results22_row _ _ w.heap.size _ _ _ rfl rfl rfl (row_set (row_set (row_set hrow _ _) _ _) _ _) rfl
    · refine Below.setCell ?_ (by simp) _
      refine Below.setCell ?_ (by simp) _
      refine Below.setCell ?_ (by simp) _
      exact ((Below.refl _ _).alloc (Nat.le_refl _) _).trans (hb2.mono (by simp))
  · have h45' : ((s[p].toNat : Int) == 45) = false := by rw [beq_eq_false_iff_ne]; exact h45
    have hd' : digB (s[p].toNat : Int) = true := by
      rcases hd with h | h
      · exact absurd h h45
      · exact h
    clear h45 hd
    go_enter Tryz.func32, Tryz.ntmps32
    go_wp2_with fail
    refine (letter_any _ _).mono ?_
    rintro e w1 ⟨rfl, rfl⟩
    go_wp2_with (go_at_call 57; refine (digit_any _ _).mono ?_; rintro e w1 ⟨rfl, rfl⟩)
    refine (wordEnd_int s _ _ hs (by omega) (by omega)).mono ?_
    rintro e w1 ⟨rfl, rfl⟩
    rw [show ((p : Int) + 1).toNat = p + 1 by omega]
    generalize hq : we s (p + 1) = q at *
    have HQ : Hid _ := hq
    clear hq hc' hl h45' hd'
    have b1 : (p : Int) ≤ q := by omega
    have b2 : (q : Int) ≤ s.size := by omega
    have hx : (s.extract p q).size ≤ 65536 := by rw [ByteArray.size_extract]; omega
    have hx0 : 0 < (s.extract p q).size := by rw [ByteArray.size_extract]; omega
    go_wp2_with fail
    generalize s.extract p q = T at *
    refine (int_any T _ hx hx0).mono ?_
    rintro e w2 ⟨n, rfl, hn, hb2⟩
    have FF := fin_int s p T q n HT.out hn
    clear hn
    have HFF : Hid _ := FF
    clear FF
    obtain ⟨hc2, hf2⟩ := bcell hb2
    have hz2 : w.heap.size + 1 ≤ w2.heap.size := by have := hb2.size; simpa using this
    generalize (numT T.toList).isSome = ok at *
    go_wp2_with fail
    refine bodyPost_ret (v := .tuple #[.agg #[.int .i64 2, .int .i64 n, .string ⟨#[]⟩], .int .i64 q, .bool ok]) ?_ rfl ⟨⟨2, n, ⟨#[]⟩⟩, q, _, rfl, HFF.out.1, HFF.out.2, ?_⟩
    · have hrow : w2.heap[w.heap.size]? = some (.cells #[.int .i64 0, .int .i64 0, .string ⟨#[]⟩] 66 (0, 0)) := (hb2.block _ (by simp)).trans (heap_alloc_new _ _)
      exact results22_row _ _ w.heap.size _ _ _ rfl rfl rfl (row_set (row_set (row_set hrow _ _) _ _) _ _) rfl
    · refine Below.setCell ?_ (by simp) _
      refine Below.setCell ?_ (by simp) _
      refine Below.setCell ?_ (by simp) _
      exact ((Below.refl _ _).alloc (Nat.le_refl _) _).trans (hb2.mono (by simp))
end Go.Proofs.YtlilfbcngncllaaGreatDoor
namespace Go.Proofs.YtlilfbcngncllaaGreatDoor
open Go.ChangeShapes Go.WideShapes Go.ChangeAt Go.RowKit
set_option linter.unusedVariables false

set_option maxHeartbeats 1000000 in
theorem next_dots (s : ByteArray) (p : Nat) (w : World) (hs : s.size ≤ 65536) (hp : p < s.size) (hc : (s[p].toNat : Int) = 46) :
    Calls Tryz.prog 32 #[.string s, .int .i64 p] w (NextIs s p w) := by
  have HT : Hid (tokAt s p = if p + 3 ≤ s.size ∧ (s.extract p (p + 3)).toList = [46, 46, 46] then some (⟨4, 0, ⟨#[46, 46, 46]⟩⟩, p + 3) else none) := by
    unfold Hid tokAt; rw [bt_lt hp, hc, if_neg (by decide), if_neg (by decide), if_neg (by decide), if_pos rfl]
  have hl : letB 46 = false := by decide
  have hd : digB 46 = false := by decide
  by_cases h3 : p + 3 ≤ s.size
  · have h3' : (3 : Int) ≤ s.size - p := by omega
    have b1 : (p : Int) ≤ p + 3 := by omega
    have b2 : (p : Int) + 3 ≤ s.size := by omega
    go_enter Tryz.func32, Tryz.ntmps32
    go_wp2_with (first | (go_at_call 56; refine (letter_any _ _).mono ?_; rintro e w1 ⟨rfl, rfl⟩) | (go_at_call 57; refine (digit_any _ _).mono ?_; rintro e w1 ⟨rfl, rfl⟩))
    go_region
    go_wp2_with fail
    refine bodyPost_ret (v := .tuple #[.agg #[.int .i64 4, .int .i64 0, .string ⟨#[46, 46, 46]⟩], .int .i64 ((p + 3 : Nat) : Int), .bool ((s.extract p (p + 3)).toList == [46, 46, 46])]) (by simp [results, Tryz.results32, go_sem]) rfl ⟨⟨4, 0, ⟨#[46, 46, 46]⟩⟩, p + 3, _, rfl, fun hb => by rw [HT.out, if_pos ⟨h3, by simpa using hb⟩], fun hb => by rw [HT.out, if_neg (by rintro ⟨_, h⟩; rw [h] at hb; cases hb)], ?_⟩
    repeat (first | exact Below.refl _ _ | refine Below.drew ?_ | refine Below.setCell ?_ (by simp <;> omega) _ | refine Below.alloc ?_ (by simp <;> omega) _)
  · have h3' : decide ((3 : Int) ≤ s.size - p) = false := by simp; omega
    go_enter Tryz.func32, Tryz.ntmps32
    go_wp2_with (first | (go_at_call 56; refine (letter_any _ _).mono ?_; rintro e w1 ⟨rfl, rfl⟩) | (go_at_call 57; refine (digit_any _ _).mono ?_; rintro e w1 ⟨rfl, rfl⟩))
    go_region
    go_wp2_with fail
    refine bodyPost_ret (v := .tuple #[.agg #[.int .i64 4, .int .i64 0, .string ⟨#[46, 46, 46]⟩], .int .i64 ((p + 3 : Nat) : Int), .bool false]) (by simp [results, Tryz.results32, go_sem]) rfl ⟨⟨4, 0, ⟨#[46, 46, 46]⟩⟩, p + 3, _, rfl, (fun hb => by cases hb), (fun hb => by rw [HT.out, if_neg (by rintro ⟨h, _⟩; exact h3 h)]), ?_⟩
    repeat (first | exact Below.refl _ _ | refine Below.drew ?_ | refine Below.setCell ?_ (by simp <;> omega) _ | refine Below.alloc ?_ (by simp <;> omega) _)

set_option maxHeartbeats 1000000 in
theorem next_punct (s : ByteArray) (p : Nat) (w : World) (hs : s.size ≤ 65536) (hp : p < s.size) (h1 : ¬ (s[p].toNat : Int) = 36) (hl : letB (s[p].toNat : Int) = false) (h2 : ¬ (s[p].toNat : Int) = 45) (hd : digB (s[p].toNat : Int) = false) (h3 : ¬ (s[p].toNat : Int) = 46) :
    Calls Tryz.prog 32 #[.string s, .int .i64 p] w (NextIs s p w) := by
  have HT : Hid (tokAt s p = if punctB (s.extract p (p + 1)).toList = true then some (⟨4, 0, s.extract p (p + 1)⟩, p + 1) else none) := by
    unfold Hid tokAt; rw [bt_lt hp, if_neg h1, if_neg (by rw [hl]; decide), if_neg (by rw [hd]; rintro (h | h); exact h2 h; cases h), if_neg h3]
  have h1' : ((s[p].toNat : Int) == 36) = false := by rw [beq_eq_false_iff_ne]; exact h1
  have h2' : ((s[p].toNat : Int) == 45) = false := by rw [beq_eq_false_iff_ne]; exact h2
  have h3' : ((s[p].toNat : Int) == 46) = false := by rw [beq_eq_false_iff_ne]; exact h3
  clear h1 h2 h3
  have b1 : (p : Int) ≤ p + 1 := by omega
  have b2 : (p : Int) + 1 ≤ s.size := by omega
  go_enter Tryz.func32, Tryz.ntmps32
  go_wp2_with (first | (go_at_call 56; refine (letter_any _ _).mono ?_; rintro e w1 ⟨rfl, rfl⟩) | (go_at_call 57; refine (digit_any _ _).mono ?_; rintro e w1 ⟨rfl, rfl⟩))
  have hwr : IntKind.i64.wrap ((p : Int) + 1) = p + 1 := wrap_small _ (by omega) (by omega)
  generalize s.extract p (p + 1) = T at *
  clear h1' h2' h3' hl hd b1
  go_region_with (go_at_call 59; refine (spec_punct T _).mono ?_; rintro e w2 ⟨rfl, rfl⟩)
  all_goals
    go_wp2_with fail
    refine bodyPost_ret (v := .tuple #[.agg #[.int .i64 4, .int .i64 0, .string T], .int .i64 ((p + 1 : Nat) : Int), .bool (punctB T.toList)]) (by simp [results, Tryz.results32, go_sem]) rfl ⟨⟨4, 0, T⟩, p + 1, _, rfl, fun hb => by rw [HT.out, if_pos hb], fun hb => by rw [HT.out, if_neg (by rw [hb]; decide)], ?_⟩
    repeat (first | exact Below.refl _ _ | refine Below.drew ?_ | refine Below.setCell ?_ (by simp <;> omega) _ | refine Below.alloc ?_ (by simp <;> omega) _)

theorem next_any (s : ByteArray) (p : Nat) (w : World) (hs : s.size ≤ 65536) (hp : p < s.size) :
    Calls Tryz.prog 32 #[.string s, .int .i64 p] w (NextIs s p w) := by
  by_cases h1 : (s[p].toNat : Int) = 36
  · exact next_var s p w hs hp h1
  cases hl : letB (s[p].toNat : Int)
  · by_cases hd : (s[p].toNat : Int) = 45 ∨ digB (s[p].toNat : Int) = true
    · exact next_int s p w hs hp h1 hl hd
    · by_cases h3 : (s[p].toNat : Int) = 46
      · exact next_dots s p w hs hp h3
      · exact next_punct s p w hs hp h1 hl (fun h => hd (.inl h)) (by cases h : digB (s[p].toNat : Int); rfl; exact absurd (.inr h) hd) h3
  · exact next_name s p w hs hp h1 hl
end Go.Proofs.YtlilfbcngncllaaGreatDoor
namespace Go.Proofs.YtlilfbcngncllaaGreatDoor
open Go.ChangeShapes Go.WideShapes Go.ChangeAt Go.RowKit
set_option linter.unusedVariables false

def tv (x : Tk) : List Value := [.int .i64 x.k, .int .i64 x.n, .string x.t]
def tvs (l : List Tk) : List Value := l.flatMap tv
theorem tvs_snoc (l : List Tk) (x : Tk) : tvs l ++ [.int .i64 x.k, .int .i64 x.n, .string x.t] = tvs (l ++ [x]) := by
  simp [tvs, tv]
theorem tvs_length (l : List Tk) : (tvs l).length = l.length * 3 := by
  induction l with
  | nil => rfl
  | cons x r ih => simp only [tvs, List.flatMap_cons, List.length_append, List.length_cons] at *; simp only [tv, List.length_cons, List.length_nil]; omega
theorem own_below {w w' : World} {base : Nat} {e : TypeId} {size n : Nat} {v : Value} {xs : List Value} (h : w.ownsRow base e size v n xs) (hb : Below w.heap.size w w') : w'.ownsRow base e size v n xs := by
  refine ⟨h.1, ?_⟩
  rcases h.2 with h | ⟨g, cap, cur, h1, h2, h3, h4⟩
  · exact .inl h
  · exact .inr ⟨g, cap, cur, h1, h2, (hb.block g (Array.getElem?_eq_some_iff.1 h3).1).trans h3, h4⟩
theorem own_shape {w : World} {base : Nat} {e : TypeId} {size n : Nat} {v : Value} {xs : List Value} (h : w.ownsRow base e size v n xs) : ∃ a c, v = .slice a n c := by
  rcases h.2 with ⟨rfl, rfl⟩ | ⟨g, cap, cur, rfl, _⟩
  · exact ⟨none, 0, rfl⟩
  · exact ⟨_, _, rfl⟩
theorem info39 : (Tryz.prog.info? 66).map (fun i => (i.zero, i.size, i.bytes)) = some (some (.agg #[.int .i64 0, .int .i64 0, .string ⟨#[]⟩]), 3, 32) := by kernel_rfl

/-- What Lex hands back: a row of its own with the tokens, and the code. -/
def LexIs (r : List Tk × Int) (w : World) (e : Ending) (w' : World) : Prop :=
  ∃ a c, e = .returned (.tuple #[.slice a r.1.length c, .int .i64 r.2]) ∧ w'.ownsRow w.heap.size 66 3 (.slice a r.1.length c) r.1.length (tvs r.1) ∧ Below w.heap.size w w'

theorem own_empty_at (w : World) (base N : Nat) (hN : N = w.heap.size) (hb : base ≤ w.heap.size) : (w.alloc (.cells #[] 66)).ownsRow base 66 3 (.slice (some ⟨N, 0, none⟩) 0 0) 0 [] := by
  subst hN; exact World.ownsRow_made w #[] 0 hb (Nat.zero_le _) rfl
theorem own_empty (w : World) (base : Nat) (hb : base ≤ w.heap.size) : (w.alloc (.cells #[] 66)).ownsRow base 66 3 (.slice (some ⟨w.heap.size, 0, none⟩) 0 0) 0 [] :=
  World.ownsRow_made w #[] 0 hb (Nat.zero_le _) rfl

set_option maxHeartbeats 4000000 in
theorem spec_lex (s : ByteArray) (w : World) (hs : s.size ≤ 65536) :
    Calls Tryz.prog 18 #[.string s] w (LexIs (lexR s 0 []) w) := by
  go_enter Tryz.func18, Tryz.ntmps18
  go_wp2_with fail
  go_loopw [4, 5] (fun v i wr => ∃ (k : Nat) (acc : List Tk) (a : Option Addr) (c : Nat), k ≤ s.size ∧ i = .int .i64 k ∧ v = .slice a acc.length c ∧ acc.length ≤ 4000 ∧ Below w.heap.size w wr ∧ Hid (wr.ownsRow w.heap.size 66 3 (.slice a acc.length c) acc.length (tvs acc)) ∧ Hid (lexR s 0 [] = lexR s k acc)) (fun _ i _ => s.size - (intOf i).toNat)
  case atStart => exact ⟨0, [], _, _, by omega, rfl, rfl, by simp, (Below.refl _ _).alloc (Nat.le_refl _) _, own_empty w _ (Nat.le_refl _), rfl⟩
  case round =>
    rename_i wr
    obtain ⟨k, acc, a, c, hk, rfl, rfl, hacc, hb, HO, HL⟩ := hrel
    by_cases hlt : k < s.size
    · by_cases h35 : (s[k].toNat : Int) = 35
      · have h35' : ((s[k].toNat : Int) == 35) = true := by rw [h35]; rfl
        have HP : Hid (pb s k false = pb s k true) := by
          rw [Hid, pb_hash hlt (by rw [bt_lt hlt]; exact h35), pb_rem hlt, bt_lt hlt, h35]; rfl
        go_wp2_with fail
        clear h35'
        go_loop [5] (fun v => ∃ j : Nat, k ≤ j ∧ j ≤ s.size ∧ v = .int .i64 j ∧ Hid (pb s k false = pb s j true)) (fun v => s.size - (intOf v).toNat)
        case atStart => exact ⟨k, by omega, by omega, rfl, HP⟩
        case round =>
          obtain ⟨j, hkj, hj, rfl, HJ⟩ := hrel
          by_cases hjs : j < s.size
          · by_cases h10 : (s[j].toNat : Int) = 10
            · have h10' : ((s[j].toNat : Int) != 10) = false := by rw [h10]; rfl
              have hne : k < j := by
                rcases Nat.lt_or_ge k j with h | h
                · exact h
                · have e : j = k := by omega
                  subst e; omega
              have HQ : pb s k false = pb s j false := by
                rw [HJ.out, pb_rem hjs, pb_blank hjs (by rw [bt_lt hjs, h10]; decide) (by rw [bt_lt hjs, h10]; decide), bt_lt hjs, h10]; rfl
              have HF : Hid (lexR s 0 [] = lexR s j acc) := by rw [Hid, HL.out, lexR_skip hk hj HQ]
              clear HQ h10
              go_wp2_with fail
              exact ⟨⟨j, acc, a, c, hj, rfl, rfl, hacc, hb, HO, HF⟩, by simp [intOf]; omega⟩
            · have h10' : ((s[j].toNat : Int) != 10) = true := by rw [bne_iff_ne]; exact h10
              have HF : Hid (pb s k false = pb s (j + 1) true) := by
                rw [Hid, HJ.out, pb_rem hjs, bt_lt hjs]; congr 1; simpa using h10
              clear h10
              go_wp2_with fail
              go_round
              case rel => exact ⟨j + 1, by omega, by omega, by go_num, HF⟩
              case measure => simp [intOf]; omega
          · have HQ : pb s k false = pb s j false := by rw [HJ.out, pb_end hjs, pb_end hjs]
            have HF : Hid (lexR s 0 [] = lexR s j acc) := by rw [Hid, HL.out, lexR_skip hk hj HQ]
            clear HQ
            go_wp2_with fail
            exact ⟨⟨j, acc, a, c, hj, rfl, rfl, hacc, hb, HO, HF⟩, by simp [intOf]; omega⟩
      · have h35' : ((s[k].toNat : Int) == 35) = false := by rw [beq_eq_false_iff_ne]; exact h35
        cases hbl : blB (s[k].toNat : Int)
        · have HP : pb s k false = k := pb_tok hlt (by rw [bt_lt hlt]; exact h35) (by rw [bt_lt hlt]; exact hbl)
          have HPK : Hid (pb s k false = k) := HP
          clear HP h35
          go_wp2_with fail
          refine (space_any _ _).mono ?_
          rintro e w1 ⟨rfl, rfl⟩
          go_wp2_with fail
          refine (next_any s k _ hs hlt).mono ?_
          rintro e w2 ⟨x, q, b, rfl, hy, hn, hb2⟩
          have q2 := hb.trans (hb2.mono hb.size)
          have HO2 := own_below HO.out hb2
          cases b
          · have HR : Hid (lexR s 0 [] = ([], 3)) := by rw [Hid, HL.out, lexR_none hk acc (by rw [HPK.out]; exact hlt) (by rw [HPK.out]; exact hn rfl)]
            clear hy hn HO2
            go_wp2_with fail
            go_ret2
            rw [HR.out]
            refine ⟨_, _, rfl, own_empty_at (w2.alloc (.cells #[.int .i64 x.k, .int .i64 x.n, .string x.t] 66)) _ (w2.heap.size + 1) (by simp) ?_, (q2.alloc q2.size _).alloc ?_ _⟩
            · have := q2.size; simp; omega
            · have := q2.size; simp; omega
          · have ht := hy rfl
            have hq := tokAt_bounds hlt ht
            by_cases h4 : acc.length = 4000
            · have HR : Hid (lexR s 0 [] = ([], 6)) := by rw [Hid, HL.out, lexR_many hk acc (by rw [HPK.out]; exact hlt) (by rw [HPK.out]; exact ht) h4]
              have h4' : ((acc.length : Int) == 4000) = true := by rw [h4]; rfl
              clear hy hn HO2 ht h4
              go_wp2_with fail
              go_ret2
              rw [HR.out]
              refine ⟨_, _, rfl, own_empty_at (w2.alloc (.cells #[.int .i64 x.k, .int .i64 x.n, .string x.t] 66)) _ (w2.heap.size + 1) (by simp) ?_, (q2.alloc q2.size _).alloc ?_ _⟩
              · have := q2.size; simp; omega
              · have := q2.size; simp; omega
            · have HR : Hid (lexR s 0 [] = lexR s q (acc ++ [x])) := by rw [Hid, HL.out, lexR_some hk acc (by rw [HPK.out]; exact hlt) (by rw [HPK.out]; exact ht) h4]
              have h4' : ((acc.length : Int) == 4000) = false := by rw [beq_eq_false_iff_ne]; omega
              clear hy hn ht
              obtain ⟨i39, hi39, hz39, hs39, hy39⟩ := info_parts info39
              have HO4 : Hid (((w2.alloc (.cells #[.int .i64 x.k, .int .i64 x.n, .string x.t] 66)).alloc (.cells #[.int .i64 x.k, .int .i64 x.n, .string x.t] 66)).ownsRow w.heap.size 66 3 (.slice a acc.length c) acc.length (tvs acc)) := (HO2.alloc _).alloc _
              have HX : Hid _ := tvs_snoc acc x
              have hz2 := q2.size
              clear HO2
              go_wp2_with (at_builtin; refine wpList_append_own _ rfl _ _ 30 rfl w.heap.size 66 i39 _ 3 32 Tryz.underlying30 hi39 hz39 hs39 hy39 rfl (by decide) _ acc.length _ rfl HO4.out ⟨w2.heap.size + 1, 0, none⟩ 1 1 [.int .i64 x.k, .int .i64 x.n, .string x.t] rfl rfl ?c1 ?c2 ?c3 ?c4 ?c5 ?_)
              case c1 =>
                intro j u hu
                match j, hu with
                | 0, hu => simp at hu; subst hu; simp [Addr.add]
                | 1, hu => simp at hu; subst hu; simp [Addr.add]
                | 2, hu => simp at hu; subst hu; simp [Addr.add]
                | j + 3, hu => simp at hu
              case c2 => intro u hu; simp at hu; rcases hu with rfl | rfl | rfl <;> rfl
              case c3 => unfold maxLen; omega
              case c4 => omega
              case c5 => simp; omega
              intro v' w3 hown hgrow _
              have q3 : Below w.heap.size w w3 := ((q2.alloc q2.size _).alloc (by simp; omega) _).grown hgrow (by simp; omega) (fun g hg => (World.ownsRow.lt HO4.out g hg).1)
              rw [HX.out] at hown
              obtain ⟨a', c', rfl⟩ := own_shape hown
              have HW : Hid (w3.ownsRow w.heap.size 66 3 (.slice a' (acc ++ [x]).length c') (acc ++ [x]).length (tvs (acc ++ [x]))) := by
                rw [show (acc ++ [x]).length = acc.length + 1 by simp]; exact hown
              clear hown HO4 h4' HO
              go_wp2_with fail
              exact ⟨⟨q, acc ++ [x], a', c', hq.2, rfl, by simp, by simp; omega, q3, HW, HR⟩, by simp [intOf]; omega⟩
        · have HP : pb s k false = pb s (k + 1) false := pb_blank hlt (by rw [bt_lt hlt]; exact h35) (by rw [bt_lt hlt]; exact hbl)
          have HF : Hid (lexR s 0 [] = lexR s (k + 1) acc) := by rw [Hid, HL.out, lexR_skip hk (by omega) HP]
          clear HP h35
          go_wp2_with fail
          refine (space_any _ _).mono ?_
          rintro e w1 ⟨rfl, rfl⟩
          go_wp2_with fail
          exact ⟨⟨k + 1, acc, a, c, by omega, by go_num, rfl, hacc, hb, HO, HF⟩, by simp [intOf]; omega⟩
    · have HF : Hid (lexR s 0 [] = (acc, 0)) := by
        rw [Hid, HL.out, lexR_eq hk, if_neg]
        have := (pb_bounds hk false).1
        omega
      go_wp2_with fail
      go_ret2
      rw [HF.out]
      exact ⟨a, c, rfl, HO.out, hb⟩

end Go.Proofs.YtlilfbcngncllaaGreatDoor
