/- Numbers: that the specification's texts of them compute what they should. -/
import Derived.Test.YtlilfbcngncllaaGreatDoorLexSpec
import Derived.Deep.Cut
namespace Go.Proofs.YtlilfbcngncllaaGreatDoor
open Go.ChangeShapes Go.WideShapes Go.ChangeAt Go.RowKit
set_option linter.unusedVariables false

theorem toList_len (T : ByteArray) : T.toList.length = T.size := by rw [ByteArray.toList_eq]; simp
theorem toList_at (T : ByteArray) (k : Nat) (h : k < T.size) : T.toList[k]? = some T[k] := by
  rw [ByteArray.toList_eq, List.getElem?_eq_getElem (by simpa using h)]; rfl
theorem toList_ne (T : ByteArray) (h : 0 < T.size) : T.toList ≠ [] := by
  intro e; have := toList_len T; rw [e] at this; simp at this; omega
theorem toList_head (T : ByteArray) (h : 0 < T.size) : T.toList.head? = some T[0] := by
  rw [List.head?_eq_getElem?]; exact toList_at T 0 h
theorem u8_of {c : UInt8} {n : Nat} (hn : n < 256) (h : (c.toNat : Int) = n) : c = UInt8.ofNat n := by
  have : c.toNat = n := by omega
  rw [← this]; simp
theorem digit_of (c : UInt8) (h : 48 ≤ (c.toNat : Int) ∧ (c.toNat : Int) ≤ 57) : Lib.digitVal c = some (c.toNat - 48) := by
  unfold Lib.digitVal; rw [if_pos (by omega)]
theorem decFrom_bad (T : ByteArray) (k : Nat) (h : k < T.size) (hd : ¬ (48 ≤ (T[k].toNat : Int) ∧ (T[k].toNat : Int) ≤ 57)) : Lib.decFrom 0 T.toList = none := by
  cases e : Lib.decFrom 0 T.toList with
  | none => rfl
  | some n =>
    obtain ⟨d, hv⟩ := Lib.digit_of_decFrom _ _ _ e k T[k] (toList_at T k h)
    have := Lib.digitVal_eq hv
    omega
theorem numN_empty {neg : Bool} (T : ByteArray) (h : T.size = 0) : numN neg T.toList = none := by
  unfold numN; rw [if_pos]; left
  exact List.length_eq_zero_iff.1 (by rw [toList_len]; exact h)
theorem numN_long {neg : Bool} (T : ByteArray) (h : 18 < T.size) : numN neg T.toList = none := by
  unfold numN; rw [if_pos]; right; left; rw [toList_len]; exact h
theorem numN_zero_neg (T : ByteArray) (h : 0 < T.size) (z : (T[0].toNat : Int) = 48) : numN true T.toList = none := by
  unfold numN; rw [if_pos]; right; right
  exact ⟨by rw [toList_head T h, u8_of (n := 48) (by decide) z]; rfl, .inr rfl⟩
theorem numN_zero_pos (T : ByteArray) (h : 0 < T.size) (z : (T[0].toNat : Int) = 48) (one : 1 < T.size) : numN false T.toList = none := by
  unfold numN; rw [if_pos]; right; right
  exact ⟨by rw [toList_head T h, u8_of (n := 48) (by decide) z]; rfl, .inl (by rw [toList_len]; exact one)⟩
theorem numN_neg (T : ByteArray) (h : 0 < T.size) (h18 : T.size ≤ 18) (z : ¬ (T[0].toNat : Int) = 48) : numN true T.toList = (Lib.decFrom 0 T.toList).map fun (m : Nat) => -(m : Int) := by
  unfold numN; rw [if_neg]
  · rfl
  rintro (h1 | h1 | ⟨h1, _⟩)
  · exact toList_ne T h h1
  · rw [toList_len] at h1; omega
  · rw [toList_head T h] at h1
    simp only [Option.some.injEq] at h1
    rw [h1] at z; exact z rfl
theorem numN_pos (T : ByteArray) (h : 0 < T.size) (h18 : T.size ≤ 18) (z : (T[0].toNat : Int) = 48 → ¬ 1 < T.size) : numN false T.toList = (Lib.decFrom 0 T.toList).map fun (m : Nat) => (m : Int) := by
  unfold numN; rw [if_neg]
  · rfl
  rintro (h1 | h1 | ⟨h1, h2⟩)
  · exact toList_ne T h h1
  · rw [toList_len] at h1; omega
  · rw [toList_head T h] at h1
    simp only [Option.some.injEq] at h1
    rcases h2 with h2 | h2
    · rw [toList_len] at h2
      exact z (by rw [h1]; rfl) h2
    · cases h2
theorem numF_neg (s : ByteArray) (h : 0 < s.size) (h0 : (s[0].toNat : Int) = 45) : numF s.toList = numN true (s.extract 1 s.size).toList := by
  have hh := toList_head s h
  have e : (s.extract 1 s.size).toList = s.toList.tail := by
    rw [ByteArray.toList_eq, ByteArray.toList_eq, ByteArray.data_extract, Array.toList_extract]
    have hl : s.data.toList.length = s.size := by simp
    rw [List.extract_eq_take_drop, ← List.drop_one, List.take_of_length_le (by rw [List.length_drop, hl]; exact Nat.le_refl _)]
  cases hc : s.toList with
  | nil => exact absurd hc (toList_ne s h)
  | cons c r =>
    rw [hc] at hh e
    simp only [List.head?_cons, Option.some.injEq] at hh
    rw [numF, if_pos (by rw [hh, u8_of (n := 45) (by decide) h0]; rfl), e, List.tail_cons]
theorem numF_pos (s : ByteArray) (h : 0 < s.size) (h0 : ¬ (s[0].toNat : Int) = 45) : numF s.toList = numN false s.toList := by
  have hh := toList_head s h
  cases hc : s.toList with
  | nil => exact absurd hc (toList_ne s h)
  | cons c r =>
    rw [hc] at hh
    simp only [List.head?_cons, Option.some.injEq] at hh
    rw [numF, if_neg (by rw [hh]; intro e; rw [e] at h0; exact h0 rfl)]

set_option maxHeartbeats 4000000 in
theorem number_neg (s : ByteArray) (w : World) (hs : s.size ≤ 65536) (h : 0 < s.size) (h0 : (s[0].toNat : Int) = 45) :
    Calls Tryz.prog 80 #[.string s] w fun e w' => e = .returned (.tuple #[.int .i64 ((numF s.toList).getD 0), .bool (numF s.toList).isSome]) ∧ w' = w := by
  have h0' : ((s[0].toNat : Int) == 45) = true := by rw [h0]; rfl
  have HN : Hid (numF s.toList = numN true (s.extract 1 s.size).toList) := numF_neg s h h0
  have hsz : (s.extract 1 s.size).size = s.size - 1 := by simp
  go_enter Tryz.func80, Tryz.ntmps80
  go_upto_region 5 with (fail)
  clear h0 h0' h
  generalize s.extract 1 s.size = T at *
  have hT : T.size ≤ 65536 := by omega
  clear hsz
  by_cases t0 : T.size = 0
  · have HZ : Hid (numF s.toList = none) := by rw [Hid, HN.out, numN_empty T t0]
    have t0' : ((T.size : Int) == 0) = true := by rw [t0]; rfl
    go_wp2_with fail
    go_ret2
    exact ⟨by rw [HZ.out]; rfl, rfl⟩
  by_cases t18 : 18 < T.size
  · have HZ : Hid (numF s.toList = none) := by rw [Hid, HN.out, numN_long T t18]
    have t0' : ((T.size : Int) == 0) = false := by rw [beq_eq_false_iff_ne]; omega
    go_wp2_with fail
    go_ret2
    exact ⟨by rw [HZ.out]; rfl, rfl⟩
  have t0' : ((T.size : Int) == 0) = false := by rw [beq_eq_false_iff_ne]; omega
  have hp : 0 < T.size := by omega
  by_cases z : (T[0].toNat : Int) = 48
  · have z' : ((T[0].toNat : Int) == 48) = true := by rw [z]; rfl
    have HZ : Hid (numF s.toList = none) := by rw [Hid, HN.out, numN_zero_neg T hp z]
    by_cases one : 1 < T.size
    · go_wp2_with fail
      go_ret2
      exact ⟨by rw [HZ.out]; rfl, rfl⟩
    · go_wp2_with fail
      go_ret2
      exact ⟨by rw [HZ.out]; rfl, rfl⟩
  have z' : ((T[0].toNat : Int) == 48) = false := by rw [beq_eq_false_iff_ne]; exact z
  have HD : Hid (numF s.toList = (Lib.decFrom 0 T.toList).map fun (m : Nat) => -(m : Int)) := by rw [Hid, HN.out, numN_neg T hp (by omega) z]
  clear z
  go_wp2_with fail
  clear z' t0' t0
  go_loop [5, 6] (fun n i => ∃ k m : Nat, k ≤ T.size ∧ i = .int .i64 k ∧ n = .int .i64 m ∧ m < 1000000000000000000 ∧ Hid (Lib.decFrom 0 (T.toList.take k) = some m)) (fun _ i => T.size - (intOf i).toNat)
  case atStart => exact ⟨0, 0, by omega, rfl, rfl, by omega, rfl⟩
  case round =>
    obtain ⟨k, m, hk, rfl, rfl, hm, HK⟩ := hrel
    by_cases hlt : k < T.size
    · have hb : T[k].toNat < 256 := T[k].toNat_lt
      by_cases hd : 48 ≤ (T[k].toNat : Int) ∧ (T[k].toNat : Int) ≤ 57
      · have hm17 : m < 100000000000000000 := Lib.decFrom_take_lt HK.out (by omega)
        have HF : Hid (Lib.decFrom 0 (T.toList.take (k + 1)) = some (m * 10 + (T[k].toNat - 48))) := Lib.decFrom_take T.toList k 0 m T[k] _ HK.out (toList_at T k hlt) (digit_of T[k] hd)
        obtain ⟨hd1, hd2⟩ := hd
        go_wp2_with fail
        go_round
        case rel => exact ⟨k + 1, m * 10 + (T[k].toNat - 48), by omega, by go_num, by congr 1; omega, by omega, HF⟩
        case measure => simp [intOf]; omega
      · have HZ : Hid (numF s.toList = none) := by rw [Hid, HD.out, decFrom_bad T k hlt hd]; rfl
        by_cases hl : (T[k].toNat : Int) < 48
        · clear hd
          go_wp2_with fail
          go_ret2
          exact ⟨by rw [HZ.out]; rfl, rfl⟩
        · have hg : 57 < (T[k].toNat : Int) := by omega
          clear hd
          go_wp2_with fail
          go_ret2
          exact ⟨by rw [HZ.out]; rfl, rfl⟩
    · have HF : Hid (numF s.toList = some (-1 * (m : Int))) := by
        have e := HK.out
        rw [List.take_of_length_le (by rw [toList_len]; omega)] at e
        rw [Hid, HD.out, e, Option.map_some]
        congr 1; omega
      go_wp2_with fail
      go_ret2
      exact ⟨by rw [HF.out]; first | rfl | (simp), rfl⟩

set_option maxHeartbeats 4000000 in
theorem number_pos (T : ByteArray) (w : World) (hs : T.size ≤ 65536) (h : 0 < T.size) (h0 : ¬ (T[0].toNat : Int) = 45) :
    Calls Tryz.prog 80 #[.string T] w fun e w' => e = .returned (.tuple #[.int .i64 ((numF T.toList).getD 0), .bool (numF T.toList).isSome]) ∧ w' = w := by
  have h0' : ((T[0].toNat : Int) == 45) = false := by rw [beq_eq_false_iff_ne]; exact h0
  have HN : Hid (numF T.toList = numN false T.toList) := numF_pos T h h0
  go_enter Tryz.func80, Tryz.ntmps80
  go_upto_region 5 with (fail)
  clear h0 h0'
  by_cases t0 : T.size = 0
  · have HZ : Hid (numF T.toList = none) := by rw [Hid, HN.out, numN_empty T t0]
    have t0' : ((T.size : Int) == 0) = true := by rw [t0]; rfl
    go_wp2_with fail
    go_ret2
    exact ⟨by rw [HZ.out]; rfl, rfl⟩
  by_cases t18 : 18 < T.size
  · have HZ : Hid (numF T.toList = none) := by rw [Hid, HN.out, numN_long T t18]
    have t0' : ((T.size : Int) == 0) = false := by rw [beq_eq_false_iff_ne]; omega
    go_wp2_with fail
    go_ret2
    exact ⟨by rw [HZ.out]; rfl, rfl⟩
  have t0' : ((T.size : Int) == 0) = false := by rw [beq_eq_false_iff_ne]; omega
  have hp : 0 < T.size := by omega
  by_cases z : (T[0].toNat : Int) = 48
  · have z' : ((T[0].toNat : Int) == 48) = true := by rw [z]; rfl
    by_cases one : 1 < T.size
    · have HZ : Hid (numF T.toList = none) := by rw [Hid, HN.out, numN_zero_pos T hp z one]
      go_wp2_with fail
      go_ret2
      exact ⟨by rw [HZ.out]; rfl, rfl⟩
    · have HD : Hid (numF T.toList = (Lib.decFrom 0 T.toList).map fun (m : Nat) => (m : Int)) := by rw [Hid, HN.out, numN_pos T hp (by omega) (by omega)]
      clear z
      go_wp2_with fail
      clear z' t0' t0
      go_loop [5, 6] (fun n i => ∃ k m : Nat, k ≤ T.size ∧ i = .int .i64 k ∧ n = .int .i64 m ∧ m < 1000000000000000000 ∧ Hid (Lib.decFrom 0 (T.toList.take k) = some m)) (fun _ i => T.size - (intOf i).toNat)
      case atStart => exact ⟨0, 0, by omega, rfl, rfl, by omega, rfl⟩
      case round =>
        obtain ⟨k, m, hk, rfl, rfl, hm, HK⟩ := hrel
        by_cases hlt : k < T.size
        · have hb : T[k].toNat < 256 := T[k].toNat_lt
          by_cases hd : 48 ≤ (T[k].toNat : Int) ∧ (T[k].toNat : Int) ≤ 57
          · have hm17 : m < 100000000000000000 := Lib.decFrom_take_lt HK.out (by omega)
            have HF : Hid (Lib.decFrom 0 (T.toList.take (k + 1)) = some (m * 10 + (T[k].toNat - 48))) := Lib.decFrom_take T.toList k 0 m T[k] _ HK.out (toList_at T k hlt) (digit_of T[k] hd)
            obtain ⟨hd1, hd2⟩ := hd
            go_wp2_with fail
            go_round
            case rel => exact ⟨k + 1, m * 10 + (T[k].toNat - 48), by omega, by go_num, by congr 1; omega, by omega, HF⟩
            case measure => simp [intOf]; omega
          · have HZ : Hid (numF T.toList = none) := by rw [Hid, HD.out, decFrom_bad T k hlt hd]; rfl
            by_cases hl : (T[k].toNat : Int) < 48
            · clear hd
              go_wp2_with fail
              go_ret2
              exact ⟨by rw [HZ.out]; rfl, rfl⟩
            · have hg : 57 < (T[k].toNat : Int) := by omega
              clear hd
              go_wp2_with fail
              go_ret2
              exact ⟨by rw [HZ.out]; rfl, rfl⟩
        · have HF : Hid (numF T.toList = some (1 * (m : Int))) := by
            have e := HK.out
            rw [List.take_of_length_le (by rw [toList_len]; omega)] at e
            rw [Hid, HD.out, e, Option.map_some]
            congr 1; omega
          go_wp2_with fail
          go_ret2
          exact ⟨by rw [HF.out]; first | rfl | (simp), rfl⟩
  have z' : ((T[0].toNat : Int) == 48) = false := by rw [beq_eq_false_iff_ne]; exact z
  have HD : Hid (numF T.toList = (Lib.decFrom 0 T.toList).map fun (m : Nat) => (m : Int)) := by rw [Hid, HN.out, numN_pos T hp (by omega) (by omega)]
  clear z
  go_wp2_with fail
  clear z' t0' t0
  go_loop [5, 6] (fun n i => ∃ k m : Nat, k ≤ T.size ∧ i = .int .i64 k ∧ n = .int .i64 m ∧ m < 1000000000000000000 ∧ Hid (Lib.decFrom 0 (T.toList.take k) = some m)) (fun _ i => T.size - (intOf i).toNat)
  case atStart => exact ⟨0, 0, by omega, rfl, rfl, by omega, rfl⟩
  case round =>
    obtain ⟨k, m, hk, rfl, rfl, hm, HK⟩ := hrel
    by_cases hlt : k < T.size
    · have hb : T[k].toNat < 256 := T[k].toNat_lt
      by_cases hd : 48 ≤ (T[k].toNat : Int) ∧ (T[k].toNat : Int) ≤ 57
      · have hm17 : m < 100000000000000000 := Lib.decFrom_take_lt HK.out (by omega)
        have HF : Hid (Lib.decFrom 0 (T.toList.take (k + 1)) = some (m * 10 + (T[k].toNat - 48))) := Lib.decFrom_take T.toList k 0 m T[k] _ HK.out (toList_at T k hlt) (digit_of T[k] hd)
        obtain ⟨hd1, hd2⟩ := hd
        go_wp2_with fail
        go_round
        case rel => exact ⟨k + 1, m * 10 + (T[k].toNat - 48), by omega, by go_num, by congr 1; omega, by omega, HF⟩
        case measure => simp [intOf]; omega
      · have HZ : Hid (numF T.toList = none) := by rw [Hid, HD.out, decFrom_bad T k hlt hd]; rfl
        by_cases hl : (T[k].toNat : Int) < 48
        · clear hd
          go_wp2_with fail
          go_ret2
          exact ⟨by rw [HZ.out]; rfl, rfl⟩
        · have hg : 57 < (T[k].toNat : Int) := by omega
          clear hd
          go_wp2_with fail
          go_ret2
          exact ⟨by rw [HZ.out]; rfl, rfl⟩
    · have HF : Hid (numF T.toList = some (1 * (m : Int))) := by
        have e := HK.out
        rw [List.take_of_length_le (by rw [toList_len]; omega)] at e
        rw [Hid, HD.out, e, Option.map_some]
        congr 1; omega
      go_wp2_with fail
      go_ret2
      exact ⟨by rw [HF.out]; first | rfl | (simp), rfl⟩
end Go.Proofs.YtlilfbcngncllaaGreatDoor
