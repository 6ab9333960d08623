/- The specification's paths: a text cut at its points, part by part. -/
import Derived.Test.YtdchpeifpiglmaaGreatDoorLexSpec
import Derived.Deep.Cut
import Derived.Test.YtdchpeifpiglmaaGreatDoorSels
import Derived.Test.YtdchpeifpiglmaaGreatDoorOuSpec
import Derived.Test.YtdchpeifpiglmaaGreatDoorGMarks
namespace Go.Proofs.YtdchpeifpiglmaaGreatDoor
open Go.ChangeShapes Go.WideShapes Go.ChangeAt Go.RowKit
set_option linter.unusedVariables false

theorem toList_len (T : ByteArray) : T.toList.length = T.size := by rw [ByteArray.toList_eq]; simp
theorem toList_at (T : ByteArray) (k : Nat) (h : k < T.size) : T.toList[k]? = some T[k] := by
  rw [ByteArray.toList_eq, List.getElem?_eq_getElem (by simpa using h)]; rfl
theorem toList_ne (T : ByteArray) (h : 0 < T.size) : T.toList ≠ [] := by
  intro e; have := toList_len T; rw [e] at this; simp at this; omega
theorem toList_head (T : ByteArray) (h : 0 < T.size) : T.toList.head? = some T[0] := by
  rw [List.head?_eq_getElem?]; exact toList_at T 0 h
theorem u8_of {c : UInt8} {n : Nat} (hn : n < 256) (h : (c.toNat : Int) = n) : c = UInt8.ofNat n := by
  have : c.toNat = n := by omega
  rw [← this]; simp
theorem digit_of (c : UInt8) (h : 48 ≤ (c.toNat : Int) ∧ (c.toNat : Int) ≤ 57) : Lib.digitVal c = some (c.toNat - 48) := by
  unfold Lib.digitVal; rw [if_pos (by omega)]
theorem decFrom_bad (T : ByteArray) (k : Nat) (h : k < T.size) (hd : ¬ (48 ≤ (T[k].toNat : Int) ∧ (T[k].toNat : Int) ≤ 57)) : Lib.decFrom 0 T.toList = none := by
  cases e : Lib.decFrom 0 T.toList with
  | none => rfl
  | some n =>
    obtain ⟨d, hv⟩ := Lib.digit_of_decFrom _ _ _ e k T[k] (toList_at T k h)
    have := Lib.digitVal_eq hv
    omega
theorem numN_empty {neg : Bool} (T : ByteArray) (h : T.size = 0) : numN neg T.toList = none := by
  unfold numN; rw [if_pos]; left
  exact List.length_eq_zero_iff.1 (by rw [toList_len]; exact h)
theorem numN_long {neg : Bool} (T : ByteArray) (h : 18 < T.size) : numN neg T.toList = none := by
  unfold numN; rw [if_pos]; right; left; rw [toList_len]; exact h
theorem numN_zero_neg (T : ByteArray) (h : 0 < T.size) (z : (T[0].toNat : Int) = 48) : numN true T.toList = none := by
  unfold numN; rw [if_pos]; right; right
  exact ⟨by rw [toList_head T h, u8_of (n := 48) (by decide) z]; rfl, .inr rfl⟩
theorem numN_zero_pos (T : ByteArray) (h : 0 < T.size) (z : (T[0].toNat : Int) = 48) (one : 1 < T.size) : numN false T.toList = none := by
  unfold numN; rw [if_pos]; right; right
  exact ⟨by rw [toList_head T h, u8_of (n := 48) (by decide) z]; rfl, .inl (by rw [toList_len]; exact one)⟩
theorem numN_neg (T : ByteArray) (h : 0 < T.size) (h18 : T.size ≤ 18) (z : ¬ (T[0].toNat : Int) = 48) : numN true T.toList = (Lib.decFrom 0 T.toList).map fun (m : Nat) => -(m : Int) := by
  unfold numN; rw [if_neg]
  · rfl
  rintro (h1 | h1 | ⟨h1, _⟩)
  · exact toList_ne T h h1
  · rw [toList_len] at h1; omega
  · rw [toList_head T h] at h1
    simp only [Option.some.injEq] at h1
    rw [h1] at z; exact z rfl
theorem numN_pos (T : ByteArray) (h : 0 < T.size) (h18 : T.size ≤ 18) (z : (T[0].toNat : Int) = 48 → ¬ 1 < T.size) : numN false T.toList = (Lib.decFrom 0 T.toList).map fun (m : Nat) => (m : Int) := by
  unfold numN; rw [if_neg]
  · rfl
  rintro (h1 | h1 | ⟨h1, h2⟩)
  · exact toList_ne T h h1
  · rw [toList_len] at h1; omega
  · rw [toList_head T h] at h1
    simp only [Option.some.injEq] at h1
    rcases h2 with h2 | h2
    · rw [toList_len] at h2
      exact z (by rw [h1]; rfl) h2
    · cases h2
theorem numF_neg (s : ByteArray) (h : 0 < s.size) (h0 : (s[0].toNat : Int) = 45) : numF s.toList = numN true (s.extract 1 s.size).toList := by
  have hh := toList_head s h
  have e : (s.extract 1 s.size).toList = s.toList.tail := by
    rw [ByteArray.toList_eq, ByteArray.toList_eq, ByteArray.data_extract, Array.toList_extract]
    have hl : s.data.toList.length = s.size := by simp
    rw [List.extract_eq_take_drop, ← List.drop_one, List.take_of_length_le (by rw [List.length_drop, hl]; exact Nat.le_refl _)]
  cases hc : s.toList with
  | nil => exact absurd hc (toList_ne s h)
  | cons c r =>
    rw [hc] at hh e
    simp only [List.head?_cons, Option.some.injEq] at hh
    rw [numF, if_pos (by rw [hh, u8_of (n := 45) (by decide) h0]; rfl), e, List.tail_cons]
theorem numF_pos (s : ByteArray) (h : 0 < s.size) (h0 : ¬ (s[0].toNat : Int) = 45) : numF s.toList = numN false s.toList := by
  have hh := toList_head s h
  cases hc : s.toList with
  | nil => exact absurd hc (toList_ne s h)
  | cons c r =>
    rw [hc] at hh
    simp only [List.head?_cons, Option.some.injEq] at hh
    rw [numF, if_neg (by rw [hh]; intro e; rw [e] at h0; exact h0 rfl)]

set_option maxHeartbeats 4000000 in
theorem number_neg (s : ByteArray) (w : World) (hs : s.size ≤ 1048576) (h : 0 < s.size) (h0 : (s[0].toNat : Int) = 45) :
    Calls Tryz.prog 83 #[.string s] w fun e w' => e = .returned (.tuple #[.int .i64 ((numF s.toList).getD 0), .bool (numF s.toList).isSome]) ∧ w' = w := by
  have h0' : ((s[0].toNat : Int) == 45) = true := by rw [h0]; rfl
  have HN : Hid (numF s.toList = numN true (s.extract 1 s.size).toList) := numF_neg s h h0
  have hsz : (s.extract 1 s.size).size = s.size - 1 := by simp
  go_enter Tryz.func83, Tryz.ntmps83
  go_upto_region 5 with (fail)
  clear h0 h0' h
  generalize s.extract 1 s.size = T at *
  have hT : T.size ≤ 1048576 := by omega
  clear hsz
  by_cases t0 : T.size = 0
  · have HZ : Hid (numF s.toList = none) := by rw [Hid, HN.out, numN_empty T t0]
    have t0' : ((T.size : Int) == 0) = true := by rw [t0]; rfl
    go_wp2_with fail
    go_ret2
    exact ⟨by rw [HZ.out]; rfl, rfl⟩
  by_cases t18 : 18 < T.size
  · have HZ : Hid (numF s.toList = none) := by rw [Hid, HN.out, numN_long T t18]
    have t0' : ((T.size : Int) == 0) = false := by rw [beq_eq_false_iff_ne]; omega
    go_wp2_with fail
    go_ret2
    exact ⟨by rw [HZ.out]; rfl, rfl⟩
  have t0' : ((T.size : Int) == 0) = false := by rw [beq_eq_false_iff_ne]; omega
  have hp : 0 < T.size := by omega
  by_cases z : (T[0].toNat : Int) = 48
  · have z' : ((T[0].toNat : Int) == 48) = true := by rw [z]; rfl
    have HZ : Hid (numF s.toList = none) := by rw [Hid, HN.out, numN_zero_neg T hp z]
    by_cases one : 1 < T.size
    · go_wp2_with fail
      go_ret2
      exact ⟨by rw [HZ.out]; rfl, rfl⟩
    · go_wp2_with fail
      go_ret2
      exact ⟨by rw [HZ.out]; rfl, rfl⟩
  have z' : ((T[0].toNat : Int) == 48) = false := by rw [beq_eq_false_iff_ne]; exact z
  have HD : Hid (numF s.toList = (Lib.decFrom 0 T.toList).map fun (m : Nat) => -(m : Int)) := by rw [Hid, HN.out, numN_neg T hp (by omega) z]
  clear z
  go_wp2_with fail
  clear z' t0' t0
  go_loop [5, 6] (fun n i => ∃ k m : Nat, k ≤ T.size ∧ i = .int .i64 k ∧ n = .int .i64 m ∧ m < 1000000000000000000 ∧ Hid (Lib.decFrom 0 (T.toList.take k) = some m)) (fun _ i => T.size - (intOf i).toNat)
  case atStart => exact ⟨0, 0, by omega, rfl, rfl, by omega, rfl⟩
  case round =>
    obtain ⟨k, m, hk, rfl, rfl, hm, HK⟩ := hrel
    by_cases hlt : k < T.size
    · have hb : T[k].toNat < 256 := T[k].toNat_lt
      by_cases hd : 48 ≤ (T[k].toNat : Int) ∧ (T[k].toNat : Int) ≤ 57
      · have hm17 : m < 100000000000000000 := Lib.decFrom_take_lt HK.out (by omega)
        have HF : Hid (Lib.decFrom 0 (T.toList.take (k + 1)) = some (m * 10 + (T[k].toNat - 48))) := Lib.decFrom_take T.toList k 0 m T[k] _ HK.out (toList_at T k hlt) (digit_of T[k] hd)
        obtain ⟨hd1, hd2⟩ := hd
        go_wp2_with fail
        go_round
        case rel => exact ⟨k + 1, m * 10 + (T[k].toNat - 48), by omega, by go_num, by congr 1; omega, by omega, HF⟩
        case measure => simp [intOf]; omega
      · have HZ : Hid (numF s.toList = none) := by rw [Hid, HD.out, decFrom_bad T k hlt hd]; rfl
        by_cases hl : (T[k].toNat : Int) < 48
        · clear hd
          go_wp2_with fail
          go_ret2
          exact ⟨by rw [HZ.out]; rfl, rfl⟩
        · have hg : 57 < (T[k].toNat : Int) := by omega
          clear hd
          go_wp2_with fail
          go_ret2
          exact ⟨by rw [HZ.out]; rfl, rfl⟩
    · have HF : Hid (numF s.toList = some (-1 * (m : Int))) := by
        have e := HK.out
        rw [List.take_of_length_le (by rw [toList_len]; omega)] at e
        rw [Hid, HD.out, e, Option.map_some]
        congr 1; omega
      go_wp2_with fail
      go_ret2
      exact ⟨by rw [HF.out]; first | rfl | (simp), rfl⟩

set_option maxHeartbeats 4000000 in
theorem number_pos (T : ByteArray) (w : World) (hs : T.size ≤ 1048576) (h : 0 < T.size) (h0 : ¬ (T[0].toNat : Int) = 45) :
    Calls Tryz.prog 83 #[.string T] w fun e w' => e = .returned (.tuple #[.int .i64 ((numF T.toList).getD 0), .bool (numF T.toList).isSome]) ∧ w' = w := by
  have h0' : ((T[0].toNat : Int) == 45) = false := by rw [beq_eq_false_iff_ne]; exact h0
  have HN : Hid (numF T.toList = numN false T.toList) := numF_pos T h h0
  go_enter Tryz.func83, Tryz.ntmps83
  go_upto_region 5 with (fail)
  clear h0 h0'
  by_cases t0 : T.size = 0
  · have HZ : Hid (numF T.toList = none) := by rw [Hid, HN.out, numN_empty T t0]
    have t0' : ((T.size : Int) == 0) = true := by rw [t0]; rfl
    go_wp2_with fail
    go_ret2
    exact ⟨by rw [HZ.out]; rfl, rfl⟩
  by_cases t18 : 18 < T.size
  · have HZ : Hid (numF T.toList = none) := by rw [Hid, HN.out, numN_long T t18]
    have t0' : ((T.size : Int) == 0) = false := by rw [beq_eq_false_iff_ne]; omega
    go_wp2_with fail
    go_ret2
    exact ⟨by rw [HZ.out]; rfl, rfl⟩
  have t0' : ((T.size : Int) == 0) = false := by rw [beq_eq_false_iff_ne]; omega
  have hp : 0 < T.size := by omega
  by_cases z : (T[0].toNat : Int) = 48
  · have z' : ((T[0].toNat : Int) == 48) = true := by rw [z]; rfl
    by_cases one : 1 < T.size
    · have HZ : Hid (numF T.toList = none) := by rw [Hid, HN.out, numN_zero_pos T hp z one]
      go_wp2_with fail
      go_ret2
      exact ⟨by rw [HZ.out]; rfl, rfl⟩
    · have HD : Hid (numF T.toList = (Lib.decFrom 0 T.toList).map fun (m : Nat) => (m : Int)) := by rw [Hid, HN.out, numN_pos T hp (by omega) (by omega)]
      clear z
      go_wp2_with fail
      clear z' t0' t0
      go_loop [5, 6] (fun n i => ∃ k m : Nat, k ≤ T.size ∧ i = .int .i64 k ∧ n = .int .i64 m ∧ m < 1000000000000000000 ∧ Hid (Lib.decFrom 0 (T.toList.take k) = some m)) (fun _ i => T.size - (intOf i).toNat)
      case atStart => exact ⟨0, 0, by omega, rfl, rfl, by omega, rfl⟩
      case round =>
        obtain ⟨k, m, hk, rfl, rfl, hm, HK⟩ := hrel
        by_cases hlt : k < T.size
        · have hb : T[k].toNat < 256 := T[k].toNat_lt
          by_cases hd : 48 ≤ (T[k].toNat : Int) ∧ (T[k].toNat : Int) ≤ 57
          · have hm17 : m < 100000000000000000 := Lib.decFrom_take_lt HK.out (by omega)
            have HF : Hid (Lib.decFrom 0 (T.toList.take (k + 1)) = some (m * 10 + (T[k].toNat - 48))) := Lib.decFrom_take T.toList k 0 m T[k] _ HK.out (toList_at T k hlt) (digit_of T[k] hd)
            obtain ⟨hd1, hd2⟩ := hd
            go_wp2_with fail
            go_round
            case rel => exact ⟨k + 1, m * 10 + (T[k].toNat - 48), by omega, by go_num, by congr 1; omega, by omega, HF⟩
            case measure => simp [intOf]; omega
          · have HZ : Hid (numF T.toList = none) := by rw [Hid, HD.out, decFrom_bad T k hlt hd]; rfl
            by_cases hl : (T[k].toNat : Int) < 48
            · clear hd
              go_wp2_with fail
              go_ret2
              exact ⟨by rw [HZ.out]; rfl, rfl⟩
            · have hg : 57 < (T[k].toNat : Int) := by omega
              clear hd
              go_wp2_with fail
              go_ret2
              exact ⟨by rw [HZ.out]; rfl, rfl⟩
        · have HF : Hid (numF T.toList = some (1 * (m : Int))) := by
            have e := HK.out
            rw [List.take_of_length_le (by rw [toList_len]; omega)] at e
            rw [Hid, HD.out, e, Option.map_some]
            congr 1; omega
          go_wp2_with fail
          go_ret2
          exact ⟨by rw [HF.out]; first | rfl | (simp), rfl⟩
  have z' : ((T[0].toNat : Int) == 48) = false := by rw [beq_eq_false_iff_ne]; exact z
  have HD : Hid (numF T.toList = (Lib.decFrom 0 T.toList).map fun (m : Nat) => (m : Int)) := by rw [Hid, HN.out, numN_pos T hp (by omega) (by omega)]
  clear z
  go_wp2_with fail
  clear z' t0' t0
  go_loop [5, 6] (fun n i => ∃ k m : Nat, k ≤ T.size ∧ i = .int .i64 k ∧ n = .int .i64 m ∧ m < 1000000000000000000 ∧ Hid (Lib.decFrom 0 (T.toList.take k) = some m)) (fun _ i => T.size - (intOf i).toNat)
  case atStart => exact ⟨0, 0, by omega, rfl, rfl, by omega, rfl⟩
  case round =>
    obtain ⟨k, m, hk, rfl, rfl, hm, HK⟩ := hrel
    by_cases hlt : k < T.size
    · have hb : T[k].toNat < 256 := T[k].toNat_lt
      by_cases hd : 48 ≤ (T[k].toNat : Int) ∧ (T[k].toNat : Int) ≤ 57
      · have hm17 : m < 100000000000000000 := Lib.decFrom_take_lt HK.out (by omega)
        have HF : Hid (Lib.decFrom 0 (T.toList.take (k + 1)) = some (m * 10 + (T[k].toNat - 48))) := Lib.decFrom_take T.toList k 0 m T[k] _ HK.out (toList_at T k hlt) (digit_of T[k] hd)
        obtain ⟨hd1, hd2⟩ := hd
        go_wp2_with fail
        go_round
        case rel => exact ⟨k + 1, m * 10 + (T[k].toNat - 48), by omega, by go_num, by congr 1; omega, by omega, HF⟩
        case measure => simp [intOf]; omega
      · have HZ : Hid (numF T.toList = none) := by rw [Hid, HD.out, decFrom_bad T k hlt hd]; rfl
        by_cases hl : (T[k].toNat : Int) < 48
        · clear hd
          go_wp2_with fail
          go_ret2
          exact ⟨by rw [HZ.out]; rfl, rfl⟩
        · have hg : 57 < (T[k].toNat : Int) := by omega
          clear hd
          go_wp2_with fail
          go_ret2
          exact ⟨by rw [HZ.out]; rfl, rfl⟩
    · have HF : Hid (numF T.toList = some (1 * (m : Int))) := by
        have e := HK.out
        rw [List.take_of_length_le (by rw [toList_len]; omega)] at e
        rw [Hid, HD.out, e, Option.map_some]
        congr 1; omega
      go_wp2_with fail
      go_ret2
      exact ⟨by rw [HF.out]; first | rfl | (simp), rfl⟩
theorem number_any (s : ByteArray) (w : World) (hs : s.size ≤ 1048576) (h : 0 < s.size) :
    Calls Tryz.prog 83 #[.string s] w fun e w' => e = .returned (.tuple #[.int .i64 ((numF s.toList).getD 0), .bool (numF s.toList).isSome]) ∧ w' = w := by
  by_cases h0 : (s[0].toNat : Int) = 45
  · exact number_neg s w hs h h0
  · exact number_pos s w hs h h0
theorem numN_bound {neg : Bool} {l : List UInt8} {n : Int} (h : numN neg l = some n) : -1000000000000000000 < n ∧ n < 1000000000000000000 := by
  unfold numN at h
  split at h
  · cases h
  · rename_i hc
    obtain ⟨m, hm, rfl⟩ := Option.map_eq_some_iff.1 h
    have := Lib.decFrom_lt18 hm (by omega)
    split <;> omega
theorem numF_bound {l : List UInt8} {n : Int} (h : numF l = some n) : -1000000000000000000 < n ∧ n < 1000000000000000000 := by
  cases l with
  | nil => cases h
  | cons c r =>
    rw [numF] at h
    split at h
    · exact numN_bound h
    · exact numN_bound h

set_option maxHeartbeats 1000000 in
theorem int_any (s : ByteArray) (w : World) (hs : s.size ≤ 1048576) (h : 0 < s.size) :
    Calls Tryz.prog 67 #[.string s] w fun e w' => ∃ n : Int, e = .returned (.tuple #[.int .i64 n, .bool (numT s.toList).isSome]) ∧ (∀ m, numT s.toList = some m → n = m) ∧ Below w.heap.size w w' := by
  cases hf : numF s.toList with
  | none =>
    have hn : numT s.toList = none := by
      cases ht : numT s.toList with
      | none => rfl
      | some n => rw [((numT_iff _ _).1 ht).1] at hf; cases hf
    have HN : Hid (numT s.toList = none) := hn
    have HF : Hid (numF s.toList = none) := hf
    clear hn hf
    go_enter Tryz.func67, Tryz.ntmps67
    go_wp2_with fail
    refine (number_any s _ hs h).mono ?_
    rintro e w1 ⟨rfl, rfl⟩
    rw [HF.out]
    go_wp2_with fail
    go_ret2
    exact ⟨0, by rw [HN.out]; rfl, fun m hm => by (rw [HN.out] at hm; cases hm), Below.refl _ _⟩
  | some n =>
    have hb := numF_bound hf
    have HF : Hid (numF s.toList = some n) := hf
    clear hf
    by_cases he : Lib.itoa n = s.toList
    · have he' : ((⟨(Lib.itoa n).toArray⟩ : ByteArray).toList == s.toList) = true := by rw [ByteArray.toList_mk, he]; simp
      have HT : Hid (numT s.toList = if intB n = true then some n else none) := by
        unfold Hid
        by_cases hi : intB n = true
        · rw [if_pos hi]; exact (numT_iff _ _).2 ⟨HF.out, he, hi⟩
        · rw [if_neg hi]
          cases ht : numT s.toList with
          | none => rfl
          | some m =>
            have h1 := (numT_iff _ _).1 ht
            rw [HF.out] at h1
            obtain ⟨h2, _, h3⟩ := h1
            simp only [Option.some.injEq] at h2
            rw [h2] at hi; exact absurd h3 hi
      have HI : Hid (∀ W : World, Calls Tryz.prog 84 #[.int .i64 n] W fun e w' => e = .returned (.string ⟨(Lib.itoa n).toArray⟩) ∧ Below W.heap.size W w') := fun W => digs_any n W (by omega) (by omega)
      clear he
      generalize (⟨(Lib.itoa n).toArray⟩ : ByteArray) = S at *
      cases hi : intB n
      · rw [hi] at HT
        go_enter Tryz.func67, Tryz.ntmps67
        go_wp2_with fail
        refine (number_any s _ hs h).mono ?_
        rintro e w1 ⟨rfl, rfl⟩
        rw [HF.out]
        go_wp2_with fail
        refine (HI.out _).mono ?_
        rintro e w2 ⟨rfl, hb2⟩
        go_wp2_with fail
        refine (spec_isInt n _).mono ?_
        rintro e w3 ⟨rfl, rfl⟩
        go_wp2_with fail
        go_ret2
        have e1 : numT s.toList = none := by rw [HT.out]; rfl
        exact ⟨n, by rw [e1]; rfl, fun m hm => by (rw [e1] at hm; cases hm), hb2⟩
      · rw [hi] at HT
        go_enter Tryz.func67, Tryz.ntmps67
        go_wp2_with fail
        refine (number_any s _ hs h).mono ?_
        rintro e w1 ⟨rfl, rfl⟩
        rw [HF.out]
        go_wp2_with fail
        refine (HI.out _).mono ?_
        rintro e w2 ⟨rfl, hb2⟩
        go_wp2_with fail
        refine (spec_isInt n _).mono ?_
        rintro e w3 ⟨rfl, rfl⟩
        go_wp2_with fail
        go_ret2
        have e1 : numT s.toList = some n := by rw [HT.out]; rfl
        exact ⟨n, by rw [e1]; rfl, fun m hm => by (rw [e1] at hm; simpa using hm), hb2⟩
    · have he' : ((⟨(Lib.itoa n).toArray⟩ : ByteArray).toList == s.toList) = false := by rw [ByteArray.toList_mk]; simpa using he
      have HT : Hid (numT s.toList = none) := by
        unfold Hid
        cases ht : numT s.toList with
        | none => rfl
        | some m =>
          have h1 := (numT_iff _ _).1 ht
          rw [HF.out] at h1
          obtain ⟨h2, h3, _⟩ := h1
          simp only [Option.some.injEq] at h2
          rw [← h2] at h3; exact absurd h3 he
      have HI : Hid (∀ W : World, Calls Tryz.prog 84 #[.int .i64 n] W fun e w' => e = .returned (.string ⟨(Lib.itoa n).toArray⟩) ∧ Below W.heap.size W w') := fun W => digs_any n W (by omega) (by omega)
      clear he
      generalize (⟨(Lib.itoa n).toArray⟩ : ByteArray) = S at *
      go_enter Tryz.func67, Tryz.ntmps67
      go_wp2_with fail
      refine (number_any s _ hs h).mono ?_
      rintro e w1 ⟨rfl, rfl⟩
      rw [HF.out]
      go_wp2_with fail
      refine (HI.out _).mono ?_
      rintro e w2 ⟨rfl, hb2⟩
      go_wp2_with fail
      go_ret2
      exact ⟨n, by rw [HT.out]; rfl, fun m hm => by (rw [HT.out] at hm; cases hm), hb2⟩

end Go.Proofs.YtdchpeifpiglmaaGreatDoor
namespace Go.Proofs.YtdchpeifpiglmaaGreatDoor.G
open Go.ChangeShapes Go.WideShapes Go.ChangeAt Go.RowKit
set_option linter.unusedVariables false

end Go.Proofs.YtdchpeifpiglmaaGreatDoor.G
namespace Go.Proofs.YtdchpeifpiglmaaGreatDoor.G
open Go.ChangeShapes Go.WideShapes Go.ChangeAt Go.RowKit
set_option linter.unusedVariables false

theorem app_str (x : List ByteArray) (z : ByteArray) (v : Value) (base h : Nat) (W : World) (ho : W.ownsRow base 9 1 v x.length (kV x)) (hu : W.heap[h]? = some (.cells #[.string z] 9 (0, 0))) (hk : x.length ≤ 1048576) (hb : base ≤ W.heap.size) :
    ∃ g cap W', (Builtin.append_ #[27, 27] 27 #[v, .slice (some ⟨h, 0, none⟩) 1 1]).run Tryz.prog W = .ok (.slice (some ⟨g, 0, none⟩) (x.length + 1) cap) W' ∧ W'.ownsRow base 9 1 (.slice (some ⟨g, 0, none⟩) (x.length + 1) cap) (x.length + 1) (kV (x ++ [z])) ∧ W.grownBy W' v.ownBlock ∧ (v.ownBlock = some g ∨ g = W.heap.size) ∧ g < W'.heap.size := by
  obtain ⟨i, hi, hz, hsz, hby⟩ := info_str
  have e : kV (x ++ [z]) = kV x ++ [.string z] := by simp [kV]
  rw [e]
  exact run_append_lies (P := Tryz.prog) W 27 27 base 9 i _ 1 16 Tryz.underlying27 hi hz hsz hby rfl (by decide) v x.length (kV x) ho ⟨h, 0, none⟩ 1 1 [.string z] rfl (fun j y hx => by
    have hj : j = 0 := by have := (List.getElem?_eq_some_iff.1 hx).1; simpa using this
    subst hj
    simp only [List.getElem?_cons_zero, Option.some.injEq] at hx
    subst hx
    rw [add_plain]
    exact row_cell hu 0) (fun y hy => by rw [List.mem_singleton.1 hy]; rfl) (by omega) (by unfold maxLen; omega) (by omega) hb W.heap.size rfl
theorem wpList_app_str {P : Program} {ops : Array Oper} {rest : List Oper} {o : Oper} {a : Act} {Q : Exit → Act → World → Prop} {w : World} (hgd : o.guard = none) (s x : Operand) (t : TypeId)
    (ho : o.op = .call { callee := .builtin .append, args := #[s, x], argTypes := #[t, t] }) (sv xv rv : Value) (w' : World) (hs : a.eval s = sv) (hx : a.eval x = xv)
    (hr : (Builtin.append_ #[t, t] o.type #[sv, xv]).run P w = .ok rv w') (h : wpList P ops Q rest (a.put o.dst rv) w') : wpList P ops Q (o :: rest) a w := by
  refine wpList_plain hgd fun K hK => ?_
  unfold Oper.wp execOp
  simp only [ho, resolve, invoke, builtin, Sem.run_bind, Sem.run_pure, Result.andThen_ok, List.map_toArray, List.map_cons, List.map_nil, hs, hx, hr]
  exact hK _ _ h
theorem own_setK {w : World} {base size n : Nat} {e : TypeId} {v : Value} {xs : List Value} (h : w.ownsRow base e size v n xs) {w' : World} (hk : ∀ g, v.ownBlock = some g → w'.heap[g]? = w.heap[g]?) : w'.ownsRow base e size v n xs := by
  refine ⟨h.1, ?_⟩
  rcases h.2 with h0 | ⟨g, cap, cur, rfl, h1, h2, h3⟩
  · exact .inl h0
  · exact .inr ⟨g, cap, cur, rfl, h1, (hk g rfl).trans h2, h3⟩
theorem own_baseK {w : World} {base size n : Nat} {e : TypeId} {v : Value} {xs : List Value} (h : w.ownsRow base e size v n xs) (g : Nat) (hg : v.ownBlock = some g) : base ≤ g := by
  rcases h.2 with ⟨e, _⟩ | ⟨g', cap, cur, e, h1, _⟩
  · subst e; cases hg
  · subst e
    simp only [Value.ownBlock, Option.some.injEq] at hg
    omega
theorem own_ltK {w : World} {base size n : Nat} {e : TypeId} {v : Value} {xs : List Value} (h : w.ownsRow base e size v n xs) (g : Nat) (hg : v.ownBlock = some g) : g < w.heap.size := by
  rcases h.2 with ⟨e, _⟩ | ⟨g', cap, cur, e, h1, h2, _⟩
  · subst e; cases hg
  · subst e
    simp only [Value.ownBlock, Option.some.injEq] at hg
    subst hg
    exact (Array.getElem?_eq_some_iff.1 h2).1
theorem own_belowK {w w' : World} {base size n : Nat} {e : TypeId} {v : Value} {xs : List Value} (h : w.ownsRow base e size v n xs) (hb : Below w.heap.size w w') : w'.ownsRow base e size v n xs :=
  own_setK h (fun g hg => hb.block g (own_ltK h g hg))
theorem Ous.len_size : ∀ l : Ous, l.len ≤ l.size
  | .nil => Nat.le_refl _
  | .cons h sub rest => by have := Ous.len_size rest; simp only [Ous.len, Ous.size]; omega
theorem words_cons (ob : Bool) (ks : List ByteArray) (i : Nat) (h : Oh) (sub rest : Ous) : wordsO ob (ks.drop i) (.cons h sub rest) = keyed ob (ks.getD i ⟨#[]⟩) (outT h sub) :: wordsO ob (ks.drop (i + 1)) rest := by
  rw [wordsO, List.tail_drop, List.headD_eq_head?_getD, List.head?_drop, List.getD_eq_getElem?_getD]; rfl
end Go.Proofs.YtdchpeifpiglmaaGreatDoor.G
namespace Go.Proofs.YtdchpeifpiglmaaGreatDoor.G
open Go.ChangeShapes Go.WideShapes Go.ChangeAt Go.RowKit
set_option linter.unusedVariables false

set_option maxHeartbeats 1000000 in
theorem number_nil (s : ByteArray) (w : World) (h : s.size = 0) :
    Calls Tryz.prog 83 #[.string s] w fun e w' => e = .returned (.tuple #[.int .i64 0, .bool false]) ∧ w' = w := by
  go_enter Tryz.func83, Tryz.ntmps83
  go_wp2_with fail
  go_ret2
  exact ⟨rfl, rfl⟩
theorem numT_nil {s : ByteArray} (h : s.size = 0) : numT s.toList = none := by
  have e : s.toList = [] := List.length_eq_zero_iff.1 (by rw [toList_len]; exact h)
  rw [e]
  cases ht : numT [] with
  | none => rfl
  | some n => have := ((numT_iff _ _).1 ht).1; cases this
set_option maxHeartbeats 1000000 in
theorem int_all (s : ByteArray) (w : World) (hs : s.size ≤ 1048576) :
    Calls Tryz.prog 67 #[.string s] w fun e w' => ∃ n : Int, e = .returned (.tuple #[.int .i64 n, .bool (numT s.toList).isSome]) ∧ (∀ m, numT s.toList = some m → n = m) ∧ Below w.heap.size w w' := by
  by_cases h : 0 < s.size
  · exact int_any s w hs h
  · have h0 : s.size = 0 := by omega
    have HN : Hid (numT s.toList = none) := numT_nil h0
    have HZ : Hid (s.size = 0) := h0
    clear h h0
    go_enter Tryz.func67, Tryz.ntmps67
    go_wp2_with fail
    refine (number_nil s _ HZ.out).mono ?_
    rintro e w1 ⟨rfl, rfl⟩
    go_wp2_with fail
    go_ret2
    exact ⟨0, by rw [HN.out]; rfl, fun m hm => by (rw [HN.out] at hm; cases hm), Below.refl _ _⟩
theorem splitL_part : ∀ {l p : List UInt8}, p ∈ splitL l → p.length ≤ l.length
  | [], p, h => by simp [splitL] at h; subst h; exact Nat.le_refl _
  | c :: r, p, h => by
    rw [splitL] at h
    split at h
    · rcases List.mem_cons.1 h with rfl | h
      · exact Nat.zero_le _
      · have := splitL_part h; simp; omega
    · split at h
      · rename_i q qs he
        rcases List.mem_cons.1 h with rfl | h
        · have := splitL_part (l := r) (p := q) (by rw [he]; simp)
          simp; omega
        · have := splitL_part (l := r) (p := p) (by rw [he]; simp [h])
          simp; omega
      · rename_i he; exact absurd he (splitL_ne r)
theorem splitL_len : ∀ l : List UInt8, (splitL l).length ≤ l.length + 1
  | [] => by simp [splitL]
  | c :: r => by
    have ih := splitL_len r
    rw [splitL]
    split
    · simp; omega
    · split
      · rename_i q qs he; rw [he] at ih; simp at ih ⊢; omega
      · simp
/-- What is cut off till now, where the part under way begins, and that no point lies in it. -/
def CutAt (s : ByteArray) (xs : List ByteArray) (f i : Nat) : Prop := splitL s.toList = xs.map (·.toList) ++ splitL (s.toList.drop f) ∧ ∀ c ∈ (s.extract f i).toList, c ≠ 46
theorem CutAt.start (s : ByteArray) : CutAt s [] 0 0 := by
  refine ⟨by simp, fun c hc => ?_⟩
  rw [toList_extract] at hc
  simp at hc
theorem ext_succ (s : ByteArray) (f i : Nat) (hf : f ≤ i) (hi : i < s.size) : (s.extract f (i + 1)).toList = (s.extract f i).toList ++ [s[i]] := by
  have hg := toList_get s i hi
  rw [toList_extract, toList_extract, show i + 1 - f = (i - f) + 1 by omega, List.take_add_one, List.getElem?_drop, show f + (i - f) = i by omega, hg]
  rfl
theorem CutAt.go {s : ByteArray} {xs : List ByteArray} {f i : Nat} (h : CutAt s xs f i) (hf : f ≤ i) (hi : i < s.size) (hc : s[i] ≠ 46) : CutAt s xs f (i + 1) := by
  refine ⟨h.1, fun c hm => ?_⟩
  rw [ext_succ s f i hf hi] at hm
  rcases List.mem_append.1 hm with hm | hm
  · exact h.2 c hm
  · rw [List.mem_singleton.1 hm]; exact hc
theorem CutAt.cut {s : ByteArray} {xs : List ByteArray} {f i : Nat} (h : CutAt s xs f i) (hf : f ≤ i) (hi : i < s.size) (hc : s[i] = 46) : CutAt s (xs ++ [s.extract f i]) (i + 1) (i + 1) := by
  refine ⟨?_, fun c hm => ?_⟩
  · have e : s.toList.drop f = (s.extract f i).toList ++ 46 :: s.toList.drop (i + 1) := by
      have hg := toList_get s i hi
      rw [toList_extract, ← hc]
      have hd : s.toList.drop i = s[i] :: s.toList.drop (i + 1) := by
        have hl : i < s.toList.length := by rw [toList_len]; exact hi
        rw [List.drop_eq_getElem_cons hl]
        rw [List.getElem?_eq_getElem hl] at hg
        simp only [Option.some.injEq] at hg
        rw [hg]
      rw [← hd]
      conv => lhs; rw [← List.take_append_drop (i - f) (s.toList.drop f)]
      rw [List.drop_drop, show f + (i - f) = i by omega]
    rw [h.1, e, splitL_cut h.2]
    simp
  · rw [toList_extract] at hm
    simp at hm
theorem CutAt.fin {s : ByteArray} {xs : List ByteArray} {f : Nat} (h : CutAt s xs f s.size) (hf : f ≤ s.size) : (xs ++ [s.extract f s.size]).map (·.toList) = splitL s.toList := by
  have e : s.toList.drop f = (s.extract f s.size).toList := by
    rw [toList_extract, List.take_of_length_le (by rw [List.length_drop, toList_len]; exact Nat.le_refl _)]
  rw [h.1, e, splitL_none h.2]
  simp
theorem u8_eq {c : UInt8} (h : (c.toNat : Int) = 46) : c = 46 := u8_of (n := 46) (by decide) h
set_option maxHeartbeats 4000000 in
theorem spec_cut (s : ByteArray) (w : World) (hs : s.size ≤ 1048576) :
    Calls Tryz.prog 66 #[.string s, .int .u8 46] w fun e w' => ∃ (a : Option Addr) (c : Nat) (ps : List ByteArray), e = .returned (.slice a ps.length c) ∧ KeRow 0 w'.heap.size w' a ps ∧ ps.map (·.toList) = splitL s.toList ∧ Below w.heap.size w w' := by
  obtain ⟨V, hV⟩ : ∃ x : World, x = w.alloc (.cells #[] 9) := ⟨_, rfl⟩
  have ba : Below w.heap.size w V := by rw [hV]; exact (Below.refl _ _).alloc (Nat.le_refl _) _
  have ca : V.heap[w.heap.size]? = some (.cells #[] 9 (0, 0)) := by rw [hV]; exact heap_alloc_new _ _
  have BA : Hid (Below w.heap.size w V) := ba
  have OA : Hid (V.ownsRow w.heap.size 9 1 (.slice (some ⟨w.heap.size, 0, none⟩) 0 0) 0 []) := ⟨rfl, .inr ⟨_, 0, #[], rfl, Nat.le_refl _, ca, Nat.le_refl _, Nat.zero_le _, rfl, rfl⟩⟩
  clear ba ca
  go_enter Tryz.func66, Tryz.ntmps66
  go_wp2_with fail
  rw [← hV]
  clear hV
  go_loopw [5, 6, 7] (fun v x y w' => ∃ (xs : List ByteArray) (f i : Nat), x = .int .i64 f ∧ y = .int .i64 i ∧ f ≤ i ∧ i ≤ s.size ∧ xs.length ≤ f ∧ Hid (w'.ownsRow w.heap.size 9 1 v xs.length (kV xs)) ∧ Hid (Below w.heap.size w w') ∧ Hid (CutAt s xs f i)) (fun _ _ y _ => s.size - (intOf y).toNat)
  case atStart => exact ⟨[], 0, 0, rfl, rfl, by omega, by omega, by simp, OA, BA, CutAt.start s⟩
  case round =>
    obtain ⟨wo, rfl⟩ : ∃ x, x = wr := ⟨_, rfl⟩
    obtain ⟨xs, f, i, rfl, rfl, hf, hi, hx, HO, HB, HC⟩ := hrel
    obtain ⟨t, ht⟩ : ∃ t, t = s.extract f i := ⟨_, rfl⟩
    obtain ⟨wb, hwb⟩ : ∃ x : World, x = wo.alloc (.cells #[.string t] 9) := ⟨_, rfl⟩
    have bb : Below wo.heap.size wo wb := by rw [hwb]; exact (Below.refl _ _).alloc (Nat.le_refl _) _
    have cb : wb.heap[wo.heap.size]? = some (.cells #[.string t] 9 (0, 0)) := by rw [hwb]; exact heap_alloc_new _ _
    have z2 := HB.out.size
    have zb := bb.size
    obtain ⟨g, cap, W', hrun, o1, o2, _, o3⟩ := app_str xs t u5 w.heap.size wo.heap.size wb (own_belowK HO.out bb) cb (by omega) (by omega)
    have HRUN : Hid _ := hrun
    have O3 : Hid (W'.ownsRow w.heap.size 9 1 (.slice (some ⟨g, 0, none⟩) (xs.length + 1) cap) (xs ++ [t]).length (kV (xs ++ [t]))) := by rw [Hid]; simpa using o1
    have B3 : Hid (Below w.heap.size w W') := Below.grown (HB.out.trans (bb.mono z2)) o2 (by omega) (fun k hk => own_baseK HO.out k hk)
    clear hrun o1 o2 o3 bb cb z2 zb
    by_cases hlt : i < s.size
    · by_cases hd : (s[i].toNat : Int) = 46
      · have C3 : Hid (CutAt s (xs ++ [t]) (i + 1) (i + 1)) := by rw [Hid, ht]; exact HC.out.cut hf hlt (u8_eq hd)
        have hd' : ((s[i].toNat : Int) == 46) = true := by rw [hd]; rfl
        rw [ht] at hwb
        go_wp2_with (first | (at_builtin; rw [← hwb]; refine wpList_app_str rfl _ _ _ rfl _ _ _ _ rfl rfl HRUN.out ?_) | fail)
        exact ⟨⟨xs ++ [t], i + 1, i + 1, by go_num, by go_num, by omega, by omega, by simp; omega, O3, B3, C3⟩, by simp [intOf]; omega⟩
      · have C3 : Hid (CutAt s xs f (i + 1)) := HC.out.go hf hlt (fun e => hd (by rw [e]; rfl))
        have hd' : ((s[i].toNat : Int) == 46) = false := by rw [beq_eq_false_iff_ne]; exact hd
        clear hwb HRUN O3 B3 ht
        go_wp2_with fail
        exact ⟨⟨xs, f, i + 1, rfl, by go_num, by omega, by omega, hx, HO, HB, C3⟩, by simp [intOf]; omega⟩
    · obtain rfl : i = s.size := by omega
      have C3 : Hid ((xs ++ [t]).map (·.toList) = splitL s.toList) := by rw [Hid, ht]; exact HC.out.fin hf
      obtain ⟨a', c', hv, hrow⟩ := kV_row O3.out
      have HRW : Hid _ := hrow
      rw [ht] at hwb
      clear hrow
      go_wp2_with (first | (at_builtin; rw [← hwb]; refine wpList_app_str rfl _ _ _ rfl _ _ _ _ rfl rfl HRUN.out ?_) | fail)
      go_ret
      exact ⟨a', c', xs ++ [t], by rw [List.length_append]; first | rfl | (simp at hv ⊢; exact hv), HRW.out, C3.out, B3.out⟩
theorem partB_name {s : ByteArray} (h : nameB s = true) : partB s = true := by unfold partB; rw [h]; rfl
theorem partB_num {s : ByteArray} {n : Int} (h : nameB s = false) (hn : numT s.toList = some n) : partB s = decide (0 ≤ n) := by unfold partB placeB; rw [h, hn]; rfl
theorem partB_none {s : ByteArray} (h : nameB s = false) (hn : numT s.toList = none) : partB s = false := by unfold partB placeB; rw [h, hn]; rfl
theorem pathB_of {s : ByteArray} {ps : List ByteArray} (h : ps.map (·.toList) = splitL s.toList) : pathB s = ps.all partB := by
  unfold pathB
  rw [← h, List.all_map]
  congr 1
  funext x
  exact partL_of x
theorem all_drop {ps : List ByteArray} {k : Nat} (h : k < ps.length) : (ps.drop k).all partB = (partB ps[k] && (ps.drop (k + 1)).all partB) := by
  rw [List.drop_eq_getElem_cons h, List.all_cons]
set_option maxHeartbeats 4000000 in
theorem spec_path (s : ByteArray) (w : World) (hs : s.size ≤ 1048576) :
    Calls Tryz.prog 46 #[.string s] w fun e w' => e = .returned (.bool (pathB s)) ∧ Below w.heap.size w w' := by
  go_enter Tryz.func46, Tryz.ntmps46
  go_wp2_with fail
  refine (spec_cut s w hs).mono ?_
  rintro e w1 ⟨a, c, ps, rfl, hr, hm, hb⟩
  have HP : Hid (pathB s = ps.all partB) := pathB_of hm
  have hn : ps.length ≤ 1048577 := by
    have h1 := congrArg List.length hm
    have h2 := splitL_len s.toList
    rw [toList_len] at h2
    rw [List.length_map] at h1
    omega
  have HS : Hid (∀ x ∈ ps, x.size ≤ 1048576) := fun x hx => by
    have h1 : x.toList ∈ splitL s.toList := by rw [← hm]; exact List.mem_map.2 ⟨x, hx, rfl⟩
    have h2 := splitL_part h1
    rw [toList_len, toList_len] at h2
    omega
  have KR : Hid (∀ W, Below w1.heap.size w1 W → KeRow 0 W.heap.size W a ps ∧ Below w.heap.size w W) := fun W hW => ⟨KeRow.up hr hW, hb.trans (hW.mono hb.size)⟩
  clear hm hr hb
  go_wp2_with fail
  go_loopw [4] (fun i w' => ∃ k : Nat, k ≤ ps.length ∧ i = .int .i64 k ∧ Hid (Below w1.heap.size w1 w') ∧ Hid (pathB s = (ps.drop k).all partB)) (fun i _ => ps.length - (intOf i).toNat)
  case atStart => exact ⟨0, by omega, rfl, Below.refl _ _, HP⟩
  case round =>
    obtain ⟨wo, rfl⟩ : ∃ x, x = wr := ⟨_, rfl⟩
    obtain ⟨k, hk, rfl, HB, HD⟩ := hrel
    by_cases hlt : k < ps.length
    · obtain ⟨b, o, ha, _, hbl, c0⟩ := KeRow.cells (KR.out _ HB.out).1 k hlt
      have hz : ps[k].size ≤ 1048576 := HS.out _ (List.getElem_mem hlt)
      have HD1 : Hid (pathB s = (partB ps[k] && (ps.drop (k + 1)).all partB)) := by rw [Hid, HD.out]; exact all_drop hlt
      subst ha
      clear HD
      obtain ⟨z, hzz⟩ : ∃ z, z = ps[k] := ⟨_, rfl⟩
      rw [← hzz] at c0 hz HD1
      clear hzz
      go_wp2_with fail
      refine (int_all z _ hz).mono ?_
      rintro e w2 ⟨n, rfl, hnm, hb2⟩
      have HB2 : Hid (Below w1.heap.size w1 w2) := HB.out.trans (hb2.mono HB.out.size)
      have c2 : w2.cell? ⟨b, o + k, none⟩ = some (.string z) := (hb2.cell (p := ⟨b, o + k, none⟩) hbl).trans c0
      have HBW : Hid (Below w.heap.size w w2) := (KR.out _ HB2.out).2
      clear c0 hb2
      cases hnb : nameB z
      · cases hnt : numT z.toList with
        | none =>
          have HF : Hid (pathB s = false) := by rw [Hid, HD1.out, partB_none hnb hnt]; rfl
          simp only [Option.isSome_none]
          go_wp2_with fail
          refine (spec_nameB z _ (by unfold maxLen; omega) hnb).mono ?_
          rintro e w3 ⟨rfl, rfl⟩
          go_wp2_with fail
          go_ret
          exact ⟨by rw [HF.out]; rfl, HBW.out⟩
        | some m =>
          obtain rfl : n = m := hnm m hnt
          simp only [Option.isSome_some]
          by_cases hneg : n < 0
          · have HF : Hid (pathB s = false) := by rw [Hid, HD1.out, partB_num hnb hnt, decide_eq_false (by omega)]; rfl
            go_wp2_with fail
            refine (spec_nameB z _ (by unfold maxLen; omega) hnb).mono ?_
            rintro e w3 ⟨rfl, rfl⟩
            go_wp2_with fail
            go_ret
            exact ⟨by rw [HF.out]; rfl, HBW.out⟩
          · have HF : Hid (pathB s = (ps.drop (k + 1)).all partB) := by rw [Hid, HD1.out, partB_num hnb hnt, decide_eq_true (by omega)]; rfl
            go_wp2_with fail
            refine (spec_nameB z _ (by unfold maxLen; omega) hnb).mono ?_
            rintro e w3 ⟨rfl, rfl⟩
            go_wp2_with fail
            exact ⟨⟨k + 1, by omega, by go_num, HB2, HF⟩, by simp [intOf]; omega⟩
      · have HF : Hid (pathB s = (ps.drop (k + 1)).all partB) := by rw [Hid, HD1.out, partB_name hnb]; rfl
        generalize (numT z.toList).isSome = B
        go_wp2_with fail
        refine (spec_nameB z _ (by unfold maxLen; omega) hnb).mono ?_
        rintro e w3 ⟨rfl, rfl⟩
        go_wp2_with fail
        exact ⟨⟨k + 1, by omega, by go_num, HB2, HF⟩, by simp [intOf]; omega⟩
    · obtain rfl : k = ps.length := by omega
      have HE : Hid (pathB s = true) := by rw [Hid, HD.out, List.drop_length]; rfl
      go_wp2_with fail
      go_ret
      exact ⟨by rw [HE.out]; rfl, (KR.out _ HB.out).2⟩
end Go.Proofs.YtdchpeifpiglmaaGreatDoor.G
