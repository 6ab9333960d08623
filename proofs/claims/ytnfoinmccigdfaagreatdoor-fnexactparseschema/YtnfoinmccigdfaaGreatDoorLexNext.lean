/- The token at a place: that the specification's text of it computes it. -/
import Derived.Test.YtnfoinmccigdfaaGreatDoorLexNum
namespace Go.Proofs.YtnfoinmccigdfaaGreatDoor
open Go.ChangeShapes Go.WideShapes Go.ChangeAt Go.RowKit
set_option linter.unusedVariables false

theorem number_any (s : ByteArray) (w : World) (hs : s.size ≤ 65536) (h : 0 < s.size) :
    Calls Tryz.prog 78 #[.string s] w fun e w' => e = .returned (.tuple #[.int .i64 ((numF s.toList).getD 0), .bool (numF s.toList).isSome]) ∧ w' = w := by
  by_cases h0 : (s[0].toNat : Int) = 45
  · exact number_neg s w hs h h0
  · exact number_pos s w hs h h0
theorem numN_bound {neg : Bool} {l : List UInt8} {n : Int} (h : numN neg l = some n) : -1000000000000000000 < n ∧ n < 1000000000000000000 := by
  unfold numN at h
  split at h
  · cases h
  · rename_i hc
    obtain ⟨m, hm, rfl⟩ := Option.map_eq_some_iff.1 h
    have := Lib.decFrom_lt18 hm (by omega)
    split <;> omega
theorem numF_bound {l : List UInt8} {n : Int} (h : numF l = some n) : -1000000000000000000 < n ∧ n < 1000000000000000000 := by
  cases l with
  | nil => cases h
  | cons c r =>
    rw [numF] at h
    split at h
    · exact numN_bound h
    · exact numN_bound h

set_option maxHeartbeats 1000000 in
theorem int_any (s : ByteArray) (w : World) (hs : s.size ≤ 65536) (h : 0 < s.size) :
    Calls Tryz.prog 61 #[.string s] w fun e w' => ∃ n : Int, e = .returned (.tuple #[.int .i64 n, .bool (numT s.toList).isSome]) ∧ (∀ m, numT s.toList = some m → n = m) ∧ Below w.heap.size w w' := by
  cases hf : numF s.toList with
  | none =>
    have hn : numT s.toList = none := by
      cases ht : numT s.toList with
      | none => rfl
      | some n => rw [((numT_iff _ _).1 ht).1] at hf; cases hf
    have HN : Hid (numT s.toList = none) := hn
    have HF : Hid (numF s.toList = none) := hf
    clear hn hf
    go_enter Tryz.func61, Tryz.ntmps61
    go_wp2_with fail
    refine (number_any s _ hs h).mono ?_
    rintro e w1 ⟨rfl, rfl⟩
    rw [HF.out]
    go_wp2_with fail
    go_ret2
    exact ⟨0, by rw [HN.out]; rfl, fun m hm => by (rw [HN.out] at hm; cases hm), Below.refl _ _⟩
  | some n =>
    have hb := numF_bound hf
    have HF : Hid (numF s.toList = some n) := hf
    clear hf
    by_cases he : Lib.itoa n = s.toList
    · have he' : ((⟨(Lib.itoa n).toArray⟩ : ByteArray).toList == s.toList) = true := by rw [ByteArray.toList_mk, he]; simp
      have HT : Hid (numT s.toList = if intB n = true then some n else none) := by
        unfold Hid
        by_cases hi : intB n = true
        · rw [if_pos hi]; exact (numT_iff _ _).2 ⟨HF.out, he, hi⟩
        · rw [if_neg hi]
          cases ht : numT s.toList with
          | none => rfl
          | some m =>
            have h1 := (numT_iff _ _).1 ht
            rw [HF.out] at h1
            obtain ⟨h2, _, h3⟩ := h1
            simp only [Option.some.injEq] at h2
            rw [h2] at hi; exact absurd h3 hi
      have HI : Hid (∀ W : World, Calls Tryz.prog 79 #[.int .i64 n] W fun e w' => e = .returned (.string ⟨(Lib.itoa n).toArray⟩) ∧ Below W.heap.size W w') := fun W => digs_any n W (by omega) (by omega)
      clear he
      generalize (⟨(Lib.itoa n).toArray⟩ : ByteArray) = S at *
      cases hi : intB n
      · rw [hi] at HT
        go_enter Tryz.func61, Tryz.ntmps61
        go_wp2_with fail
        refine (number_any s _ hs h).mono ?_
        rintro e w1 ⟨rfl, rfl⟩
        rw [HF.out]
        go_wp2_with fail
        refine (HI.out _).mono ?_
        rintro e w2 ⟨rfl, hb2⟩
        go_wp2_with fail
        refine (spec_isInt n _).mono ?_
        rintro e w3 ⟨rfl, rfl⟩
        go_wp2_with fail
        go_ret2
        have e1 : numT s.toList = none := by rw [HT.out]; rfl
        exact ⟨n, by rw [e1]; rfl, fun m hm => by (rw [e1] at hm; cases hm), hb2⟩
      · rw [hi] at HT
        go_enter Tryz.func61, Tryz.ntmps61
        go_wp2_with fail
        refine (number_any s _ hs h).mono ?_
        rintro e w1 ⟨rfl, rfl⟩
        rw [HF.out]
        go_wp2_with fail
        refine (HI.out _).mono ?_
        rintro e w2 ⟨rfl, hb2⟩
        go_wp2_with fail
        refine (spec_isInt n _).mono ?_
        rintro e w3 ⟨rfl, rfl⟩
        go_wp2_with fail
        go_ret2
        have e1 : numT s.toList = some n := by rw [HT.out]; rfl
        exact ⟨n, by rw [e1]; rfl, fun m hm => by (rw [e1] at hm; simpa using hm), hb2⟩
    · have he' : ((⟨(Lib.itoa n).toArray⟩ : ByteArray).toList == s.toList) = false := by rw [ByteArray.toList_mk]; simpa using he
      have HT : Hid (numT s.toList = none) := by
        unfold Hid
        cases ht : numT s.toList with
        | none => rfl
        | some m =>
          have h1 := (numT_iff _ _).1 ht
          rw [HF.out] at h1
          obtain ⟨h2, h3, _⟩ := h1
          simp only [Option.some.injEq] at h2
          rw [← h2] at h3; exact absurd h3 he
      have HI : Hid (∀ W : World, Calls Tryz.prog 79 #[.int .i64 n] W fun e w' => e = .returned (.string ⟨(Lib.itoa n).toArray⟩) ∧ Below W.heap.size W w') := fun W => digs_any n W (by omega) (by omega)
      clear he
      generalize (⟨(Lib.itoa n).toArray⟩ : ByteArray) = S at *
      go_enter Tryz.func61, Tryz.ntmps61
      go_wp2_with fail
      refine (number_any s _ hs h).mono ?_
      rintro e w1 ⟨rfl, rfl⟩
      rw [HF.out]
      go_wp2_with fail
      refine (HI.out _).mono ?_
      rintro e w2 ⟨rfl, hb2⟩
      go_wp2_with fail
      go_ret2
      exact ⟨n, by rw [HT.out]; rfl, fun m hm => by (rw [HT.out] at hm; cases hm), hb2⟩

theorem wordEnd_int (s : ByteArray) (i : Int) (w : World) (hs : s.size ≤ 65536) (h0 : 0 ≤ i) (hi : i ≤ s.size) :
    Calls Tryz.prog 58 #[.string s, .int .i64 i] w fun e w' => e = .returned (.int .i64 (we s i.toNat)) ∧ w' = w := by
  obtain ⟨n, rfl⟩ := Int.eq_ofNat_of_zero_le h0
  exact wordEnd_any s n w hs (by omega)

def NextIs (s : ByteArray) (p : Nat) (w : World) (e : Ending) (w' : World) : Prop :=
  ∃ (x : Tk) (q : Nat) (b : Bool), e = .returned (.tuple #[.agg #[.int .i64 x.k, .int .i64 x.n, .string x.t], .int .i64 q, .bool b]) ∧ (b = true → tokAt s p = some (x, q)) ∧ (b = false → tokAt s p = none) ∧ Below w.heap.size w w'

set_option maxHeartbeats 1000000 in
theorem next_var (s : ByteArray) (p : Nat) (w : World) (hs : s.size ≤ 65536) (hp : p < s.size) (hc : (s[p].toNat : Int) = 36) :
    Calls Tryz.prog 38 #[.string s, .int .i64 p] w (NextIs s p w) := by
  have hw := we_bounds (s := s) (i := p + 1) (by omega)
  have HT : Hid (tokAt s p = if nameB (s.extract (p + 1) (we s (p + 1))) = true then some (⟨3, 0, s.extract (p + 1) (we s (p + 1))⟩, we s (p + 1)) else none) := by
    unfold Hid tokAt; rw [bt_lt hp, if_pos hc]
  have hc' : ((s[p].toNat : Int) == 36) = true := by rw [hc]; rfl
  go_enter Tryz.func38, Tryz.ntmps38
  go_wp2_with fail
  refine (wordEnd_int s _ _ hs (by omega) (by omega)).mono ?_
  rintro e w1 ⟨rfl, rfl⟩
  rw [show ((p : Int) + 1).toNat = p + 1 by omega]
  generalize hq : we s (p + 1) = q at *
  have HQ : Hid _ := hq
  clear hq hc hc'
  have b1 : (p : Int) + 1 ≤ q := by omega
  have b2 : (q : Int) ≤ s.size := by omega
  have hx : (s.extract (p + 1) q).size ≤ maxLen := by rw [ByteArray.size_extract]; unfold maxLen; omega
  go_wp2_with fail
  generalize s.extract (p + 1) q = T at *
  go_region_with (go_at_call 41; refine (spec_nameOK T _ hx).mono ?_; rintro e w2 ⟨rfl, rfl⟩)
  all_goals
    go_wp2_with fail
    refine bodyPost_ret (v := .tuple #[.agg #[.int .i64 3, .int .i64 0, .string T], .int .i64 q, .bool (nameB T)]) (by simp [results, Tryz.results38, go_sem]) rfl ⟨⟨3, 0, T⟩, q, nameB T, rfl, fun hb => by rw [HT.out, if_pos hb], fun hb => by rw [HT.out, if_neg (by rw [hb]; decide)], ?_⟩
    repeat (first | exact Below.refl _ _ | refine Below.drew ?_ | refine Below.setCell ?_ (by simp <;> omega) _ | refine Below.alloc ?_ (by simp <;> omega) _)
end Go.Proofs.YtnfoinmccigdfaaGreatDoor
