/- The specification's paths: a text cut at its points, part by part. -/
import Derived.Test.YtoaeggfnlenjkaaGreatDoorOuOwn
import Derived.Test.YtoaeggfnlenjkaaGreatDoorDtNum
import Derived.Test.YtoaeggfnlenjkaaGreatDoorOuDraw
namespace Go.Proofs.YtoaeggfnlenjkaaGreatDoor.G
open Go.ChangeShapes Go.WideShapes Go.ChangeAt Go.RowKit
set_option linter.unusedVariables false

set_option maxHeartbeats 1000000 in
theorem number_nil (s : ByteArray) (w : World) (h : s.size = 0) :
    Calls Tryz.prog 115 #[.string s] w fun e w' => e = .returned (.tuple #[.int .i64 0, .bool false]) ∧ w' = w := by
  go_enter Tryz.func115, Tryz.ntmps115
  go_wp2_with fail
  go_ret2
  exact ⟨rfl, rfl⟩
theorem numT_nil {s : ByteArray} (h : s.size = 0) : numT s.toList = none := by
  have e : s.toList = [] := List.length_eq_zero_iff.1 (by rw [toList_len]; exact h)
  rw [e]
  cases ht : numT [] with
  | none => rfl
  | some n => have := ((numT_iff _ _).1 ht).1; cases this
set_option maxHeartbeats 1000000 in
theorem int_all (s : ByteArray) (w : World) (hs : s.size ≤ 1048576) :
    Calls Tryz.prog 86 #[.string s] w fun e w' => ∃ n : Int, e = .returned (.tuple #[.int .i64 n, .bool (numT s.toList).isSome]) ∧ (∀ m, numT s.toList = some m → n = m) ∧ Below w.heap.size w w' := by
  by_cases h : 0 < s.size
  · exact int_any s w hs h
  · have h0 : s.size = 0 := by omega
    have HN : Hid (numT s.toList = none) := numT_nil h0
    have HZ : Hid (s.size = 0) := h0
    clear h h0
    go_enter Tryz.func86, Tryz.ntmps86
    go_wp2_with fail
    refine (number_nil s _ HZ.out).mono ?_
    rintro e w1 ⟨rfl, rfl⟩
    go_wp2_with fail
    go_ret2
    exact ⟨0, by rw [HN.out]; rfl, fun m hm => by (rw [HN.out] at hm; cases hm), Below.refl _ _⟩
theorem splitL_part : ∀ {l p : List UInt8}, p ∈ splitL l → p.length ≤ l.length
  | [], p, h => by simp [splitL] at h; subst h; exact Nat.le_refl _
  | c :: r, p, h => by
    rw [splitL] at h
    split at h
    · rcases List.mem_cons.1 h with rfl | h
      · exact Nat.zero_le _
      · have := splitL_part h; simp; omega
    · split at h
      · rename_i q qs he
        rcases List.mem_cons.1 h with rfl | h
        · have := splitL_part (l := r) (p := q) (by rw [he]; simp)
          simp; omega
        · have := splitL_part (l := r) (p := p) (by rw [he]; simp [h])
          simp; omega
      · rename_i he; exact absurd he (splitL_ne r)
theorem splitL_len : ∀ l : List UInt8, (splitL l).length ≤ l.length + 1
  | [] => by simp [splitL]
  | c :: r => by
    have ih := splitL_len r
    rw [splitL]
    split
    · simp; omega
    · split
      · rename_i q qs he; rw [he] at ih; simp at ih ⊢; omega
      · simp
/-- What is cut off till now, where the part under way begins, and that no point lies in it. -/
def CutAt (s : ByteArray) (xs : List ByteArray) (f i : Nat) : Prop := splitL s.toList = xs.map (·.toList) ++ splitL (s.toList.drop f) ∧ ∀ c ∈ (s.extract f i).toList, c ≠ 46
theorem CutAt.start (s : ByteArray) : CutAt s [] 0 0 := by
  refine ⟨by simp, fun c hc => ?_⟩
  rw [toList_extract] at hc
  simp at hc
theorem ext_succ (s : ByteArray) (f i : Nat) (hf : f ≤ i) (hi : i < s.size) : (s.extract f (i + 1)).toList = (s.extract f i).toList ++ [s[i]] := by
  have hg := toList_get s i hi
  rw [toList_extract, toList_extract, show i + 1 - f = (i - f) + 1 by omega, List.take_add_one, List.getElem?_drop, show f + (i - f) = i by omega, hg]
  rfl
theorem CutAt.go {s : ByteArray} {xs : List ByteArray} {f i : Nat} (h : CutAt s xs f i) (hf : f ≤ i) (hi : i < s.size) (hc : s[i] ≠ 46) : CutAt s xs f (i + 1) := by
  refine ⟨h.1, fun c hm => ?_⟩
  rw [ext_succ s f i hf hi] at hm
  rcases List.mem_append.1 hm with hm | hm
  · exact h.2 c hm
  · rw [List.mem_singleton.1 hm]; exact hc
theorem CutAt.cut {s : ByteArray} {xs : List ByteArray} {f i : Nat} (h : CutAt s xs f i) (hf : f ≤ i) (hi : i < s.size) (hc : s[i] = 46) : CutAt s (xs ++ [s.extract f i]) (i + 1) (i + 1) := by
  refine ⟨?_, fun c hm => ?_⟩
  · have e : s.toList.drop f = (s.extract f i).toList ++ 46 :: s.toList.drop (i + 1) := by
      have hg := toList_get s i hi
      rw [toList_extract, ← hc]
      have hd : s.toList.drop i = s[i] :: s.toList.drop (i + 1) := by
        have hl : i < s.toList.length := by rw [toList_len]; exact hi
        rw [List.drop_eq_getElem_cons hl]
        rw [List.getElem?_eq_getElem hl] at hg
        simp only [Option.some.injEq] at hg
        rw [hg]
      rw [← hd]
      conv => lhs; rw [← List.take_append_drop (i - f) (s.toList.drop f)]
      rw [List.drop_drop, show f + (i - f) = i by omega]
    rw [h.1, e, splitL_cut h.2]
    simp
  · rw [toList_extract] at hm
    simp at hm
theorem CutAt.fin {s : ByteArray} {xs : List ByteArray} {f : Nat} (h : CutAt s xs f s.size) (hf : f ≤ s.size) : (xs ++ [s.extract f s.size]).map (·.toList) = splitL s.toList := by
  have e : s.toList.drop f = (s.extract f s.size).toList := by
    rw [toList_extract, List.take_of_length_le (by rw [List.length_drop, toList_len]; exact Nat.le_refl _)]
  rw [h.1, e, splitL_none h.2]
  simp
theorem u8_eq {c : UInt8} (h : (c.toNat : Int) = 46) : c = 46 := u8_of (n := 46) (by decide) h
set_option maxHeartbeats 4000000 in
theorem spec_cut (s : ByteArray) (w : World) (hs : s.size ≤ 1048576) :
    Calls Tryz.prog 85 #[.string s, .int .u8 46] w fun e w' => ∃ (a : Option Addr) (c : Nat) (ps : List ByteArray), e = .returned (.slice a ps.length c) ∧ KeRow 0 w'.heap.size w' a ps ∧ ps.map (·.toList) = splitL s.toList ∧ Below w.heap.size w w' := by
  obtain ⟨V, hV⟩ : ∃ x : World, x = w.alloc (.cells #[] 9) := ⟨_, rfl⟩
  have ba : Below w.heap.size w V := by rw [hV]; exact (Below.refl _ _).alloc (Nat.le_refl _) _
  have ca : V.heap[w.heap.size]? = some (.cells #[] 9 (0, 0)) := by rw [hV]; exact heap_alloc_new _ _
  have BA : Hid (Below w.heap.size w V) := ba
  have OA : Hid (V.ownsRow w.heap.size 9 1 (.slice (some ⟨w.heap.size, 0, none⟩) 0 0) 0 []) := ⟨rfl, .inr ⟨_, 0, #[], rfl, Nat.le_refl _, ca, Nat.le_refl _, Nat.zero_le _, rfl, rfl⟩⟩
  clear ba ca
  go_enter Tryz.func85, Tryz.ntmps85
  go_wp2_with fail
  rw [← hV]
  clear hV
  go_loopw [5, 6, 7] (fun v x y w' => ∃ (xs : List ByteArray) (f i : Nat), x = .int .i64 f ∧ y = .int .i64 i ∧ f ≤ i ∧ i ≤ s.size ∧ xs.length ≤ f ∧ Hid (w'.ownsRow w.heap.size 9 1 v xs.length (kV xs)) ∧ Hid (Below w.heap.size w w') ∧ Hid (CutAt s xs f i)) (fun _ _ y _ => s.size - (intOf y).toNat)
  case atStart => exact ⟨[], 0, 0, rfl, rfl, by omega, by omega, by simp, OA, BA, CutAt.start s⟩
  case round =>
    obtain ⟨wo, rfl⟩ : ∃ x, x = wr := ⟨_, rfl⟩
    obtain ⟨xs, f, i, rfl, rfl, hf, hi, hx, HO, HB, HC⟩ := hrel
    obtain ⟨t, ht⟩ : ∃ t, t = s.extract f i := ⟨_, rfl⟩
    obtain ⟨wb, hwb⟩ : ∃ x : World, x = wo.alloc (.cells #[.string t] 9) := ⟨_, rfl⟩
    have bb : Below wo.heap.size wo wb := by rw [hwb]; exact (Below.refl _ _).alloc (Nat.le_refl _) _
    have cb : wb.heap[wo.heap.size]? = some (.cells #[.string t] 9 (0, 0)) := by rw [hwb]; exact heap_alloc_new _ _
    have z2 := HB.out.size
    have zb := bb.size
    obtain ⟨g, cap, W', hrun, o1, o2, _, o3⟩ := app_str xs t u5 w.heap.size wo.heap.size wb (own_belowK HO.out bb) cb (by omega) (by omega)
    have HRUN : Hid _ := hrun
    have O3 : Hid (W'.ownsRow w.heap.size 9 1 (.slice (some ⟨g, 0, none⟩) (xs.length + 1) cap) (xs ++ [t]).length (kV (xs ++ [t]))) := by rw [Hid]; simpa using o1
    have B3 : Hid (Below w.heap.size w W') := Below.grown (HB.out.trans (bb.mono z2)) o2 (by omega) (fun k hk => own_baseK HO.out k hk)
    clear hrun o1 o2 o3 bb cb z2 zb
    by_cases hlt : i < s.size
    · by_cases hd : (s[i].toNat : Int) = 46
      · have C3 : Hid (CutAt s (xs ++ [t]) (i + 1) (i + 1)) := by rw [Hid, ht]; exact HC.out.cut hf hlt (u8_eq hd)
        have hd' : ((s[i].toNat : Int) == 46) = true := by rw [hd]; rfl
        rw [ht] at hwb
        go_wp2_with (first | (at_builtin; rw [← hwb]; refine wpList_app_str rfl _ _ _ rfl _ _ _ _ rfl rfl HRUN.out ?_) | fail)
        exact ⟨⟨xs ++ [t], i + 1, i + 1, by go_num, by go_num, by omega, by omega, by simp; omega, O3, B3, C3⟩, by simp [intOf]; omega⟩
      · have C3 : Hid (CutAt s xs f (i + 1)) := HC.out.go hf hlt (fun e => hd (by rw [e]; rfl))
        have hd' : ((s[i].toNat : Int) == 46) = false := by rw [beq_eq_false_iff_ne]; exact hd
        clear hwb HRUN O3 B3 ht
        go_wp2_with fail
        exact ⟨⟨xs, f, i + 1, rfl, by go_num, by omega, by omega, hx, HO, HB, C3⟩, by simp [intOf]; omega⟩
    · obtain rfl : i = s.size := by omega
      have C3 : Hid ((xs ++ [t]).map (·.toList) = splitL s.toList) := by rw [Hid, ht]; exact HC.out.fin hf
      obtain ⟨a', c', hv, hrow⟩ := kV_row O3.out
      have HRW : Hid _ := hrow
      rw [ht] at hwb
      clear hrow
      go_wp2_with (first | (at_builtin; rw [← hwb]; refine wpList_app_str rfl _ _ _ rfl _ _ _ _ rfl rfl HRUN.out ?_) | fail)
      go_ret
      exact ⟨a', c', xs ++ [t], by rw [List.length_append]; first | rfl | (simp at hv ⊢; exact hv), HRW.out, C3.out, B3.out⟩
theorem partB_name {s : ByteArray} (h : nameB s = true) : partB s = true := by unfold partB; rw [h]; rfl
theorem partB_num {s : ByteArray} {n : Int} (h : nameB s = false) (hn : numT s.toList = some n) : partB s = decide (0 ≤ n) := by unfold partB placeB; rw [h, hn]; rfl
theorem partB_none {s : ByteArray} (h : nameB s = false) (hn : numT s.toList = none) : partB s = false := by unfold partB placeB; rw [h, hn]; rfl
theorem pathB_of {s : ByteArray} {ps : List ByteArray} (h : ps.map (·.toList) = splitL s.toList) : pathB s = ps.all partB := by
  unfold pathB
  rw [← h, List.all_map]
  congr 1
  funext x
  exact partL_of x
theorem all_drop {ps : List ByteArray} {k : Nat} (h : k < ps.length) : (ps.drop k).all partB = (partB ps[k] && (ps.drop (k + 1)).all partB) := by
  rw [List.drop_eq_getElem_cons h, List.all_cons]
set_option maxHeartbeats 4000000 in
theorem spec_path (s : ByteArray) (w : World) (hs : s.size ≤ 1048576) :
    Calls Tryz.prog 42 #[.string s] w fun e w' => e = .returned (.bool (pathB s)) ∧ Below w.heap.size w w' := by
  go_enter Tryz.func42, Tryz.ntmps42
  go_wp2_with fail
  refine (spec_cut s w hs).mono ?_
  rintro e w1 ⟨a, c, ps, rfl, hr, hm, hb⟩
  have HP : Hid (pathB s = ps.all partB) := pathB_of hm
  have hn : ps.length ≤ 1048577 := by
    have h1 := congrArg List.length hm
    have h2 := splitL_len s.toList
    rw [toList_len] at h2
    rw [List.length_map] at h1
    omega
  have HS : Hid (∀ x ∈ ps, x.size ≤ 1048576) := fun x hx => by
    have h1 : x.toList ∈ splitL s.toList := by rw [← hm]; exact List.mem_map.2 ⟨x, hx, rfl⟩
    have h2 := splitL_part h1
    rw [toList_len, toList_len] at h2
    omega
  have KR : Hid (∀ W, Below w1.heap.size w1 W → KeRow 0 W.heap.size W a ps ∧ Below w.heap.size w W) := fun W hW => ⟨KeRow.up hr hW, hb.trans (hW.mono hb.size)⟩
  clear hm hr hb
  go_wp2_with fail
  go_loopw [4] (fun i w' => ∃ k : Nat, k ≤ ps.length ∧ i = .int .i64 k ∧ Hid (Below w1.heap.size w1 w') ∧ Hid (pathB s = (ps.drop k).all partB)) (fun i _ => ps.length - (intOf i).toNat)
  case atStart => exact ⟨0, by omega, rfl, Below.refl _ _, HP⟩
  case round =>
    obtain ⟨wo, rfl⟩ : ∃ x, x = wr := ⟨_, rfl⟩
    obtain ⟨k, hk, rfl, HB, HD⟩ := hrel
    by_cases hlt : k < ps.length
    · obtain ⟨b, o, ha, _, hbl, c0⟩ := KeRow.cells (KR.out _ HB.out).1 k hlt
      have hz : ps[k].size ≤ 1048576 := HS.out _ (List.getElem_mem hlt)
      have HD1 : Hid (pathB s = (partB ps[k] && (ps.drop (k + 1)).all partB)) := by rw [Hid, HD.out]; exact all_drop hlt
      subst ha
      clear HD
      obtain ⟨z, hzz⟩ : ∃ z, z = ps[k] := ⟨_, rfl⟩
      rw [← hzz] at c0 hz HD1
      clear hzz
      go_wp2_with fail
      refine (int_all z _ hz).mono ?_
      rintro e w2 ⟨n, rfl, hnm, hb2⟩
      have HB2 : Hid (Below w1.heap.size w1 w2) := HB.out.trans (hb2.mono HB.out.size)
      have c2 : w2.cell? ⟨b, o + k, none⟩ = some (.string z) := (hb2.cell (p := ⟨b, o + k, none⟩) hbl).trans c0
      have HBW : Hid (Below w.heap.size w w2) := (KR.out _ HB2.out).2
      clear c0 hb2
      cases hnb : nameB z
      · cases hnt : numT z.toList with
        | none =>
          have HF : Hid (pathB s = false) := by rw [Hid, HD1.out, partB_none hnb hnt]; rfl
          simp only [Option.isSome_none]
          go_wp2_with fail
          refine (spec_nameB z _ (by unfold maxLen; omega) hnb).mono ?_
          rintro e w3 ⟨rfl, rfl⟩
          go_wp2_with fail
          go_ret
          exact ⟨by rw [HF.out]; rfl, HBW.out⟩
        | some m =>
          obtain rfl : n = m := hnm m hnt
          simp only [Option.isSome_some]
          by_cases hneg : n < 0
          · have HF : Hid (pathB s = false) := by rw [Hid, HD1.out, partB_num hnb hnt, decide_eq_false (by omega)]; rfl
            go_wp2_with fail
            refine (spec_nameB z _ (by unfold maxLen; omega) hnb).mono ?_
            rintro e w3 ⟨rfl, rfl⟩
            go_wp2_with fail
            go_ret
            exact ⟨by rw [HF.out]; rfl, HBW.out⟩
          · have HF : Hid (pathB s = (ps.drop (k + 1)).all partB) := by rw [Hid, HD1.out, partB_num hnb hnt, decide_eq_true (by omega)]; rfl
            go_wp2_with fail
            refine (spec_nameB z _ (by unfold maxLen; omega) hnb).mono ?_
            rintro e w3 ⟨rfl, rfl⟩
            go_wp2_with fail
            exact ⟨⟨k + 1, by omega, by go_num, HB2, HF⟩, by simp [intOf]; omega⟩
      · have HF : Hid (pathB s = (ps.drop (k + 1)).all partB) := by rw [Hid, HD1.out, partB_name hnb]; rfl
        generalize (numT z.toList).isSome = B
        go_wp2_with fail
        refine (spec_nameB z _ (by unfold maxLen; omega) hnb).mono ?_
        rintro e w3 ⟨rfl, rfl⟩
        go_wp2_with fail
        exact ⟨⟨k + 1, by omega, by go_num, HB2, HF⟩, by simp [intOf]; omega⟩
    · obtain rfl : k = ps.length := by omega
      have HE : Hid (pathB s = true) := by rw [Hid, HD.out, List.drop_length]; rfl
      go_wp2_with fail
      go_ret
      exact ⟨by rw [HE.out]; rfl, (KR.out _ HB.out).2⟩
end Go.Proofs.YtoaeggfnlenjkaaGreatDoor.G
