/- The program's paths. -/
import Derived.Test.YtoaeggfnlenjkaaGreatDoorDtSpec
import Derived.Test.YtoaeggfnlenjkaaGreatDoorDtTok
import Derived.Test.YtoaeggfnlenjkaaGreatDoorOuTextBoth
namespace Go.Proofs.YtoaeggfnlenjkaaGreatDoor.G
open Go.ChangeShapes Go.WideShapes Go.ChangeAt Go.RowKit
set_option linter.unusedVariables false

/-- Where the first point lies: none, or at i, and none ahead of it. -/
theorem index_at : ∀ l : List UInt8, (Lib.indexByte l 46 = -1 ∧ ∀ c ∈ l, c ≠ 46) ∨ ∃ p r, l = p ++ 46 :: r ∧ Lib.indexByte l 46 = p.length ∧ ∀ c ∈ p, c ≠ 46
  | [] => .inl ⟨rfl, by simp⟩
  | b :: l => by
    rw [Lib.indexByte]
    by_cases hb : b = 46
    · subst hb
      exact .inr ⟨[], l, rfl, by simp, by simp⟩
    · rw [if_neg (by simpa using hb)]
      rcases index_at l with ⟨h1, h2⟩ | ⟨p, r, rfl, h2, h3⟩
      · refine .inl ⟨by rw [h1]; rfl, ?_⟩
        intro c hc
        rcases List.mem_cons.1 hc with rfl | hc
        · exact hb
        · exact h2 c hc
      · refine .inr ⟨b :: p, r, rfl, ?_, ?_⟩
        · rw [h2, if_neg (by simp)]; simp
        · intro c hc
          rcases List.mem_cons.1 hc with rfl | hc
          · exact hb
          · exact h3 c hc
/-- What strings.Cut at a point answers. -/
def CutV (s part rest : ByteArray) (more : Bool) : Prop := (more = false ∧ part = s ∧ pathB s = partB s) ∨ (more = true ∧ pathB s = (partB part && pathB rest) ∧ rest.size < s.size ∧ part.size ≤ s.size)
theorem path_none {s : ByteArray} (h : ∀ c ∈ s.toList, c ≠ 46) : pathB s = partB s := by
  unfold pathB; rw [splitL_none h]; simp [partL_of]
theorem path_cut {s : ByteArray} {i : Nat} {p r : List UInt8} (hs : s.toList = p ++ 46 :: r) (hi : i = p.length) (hp : ∀ c ∈ p, c ≠ 46) : pathB s = (partB (s.extract 0 i) && pathB (s.extract (i + 1) s.size)) := by
  have hlen : s.size = p.length + (r.length + 1) := by have := congrArg List.length hs; rw [toList_len] at this; simpa using this
  have e1 : (s.extract 0 i).toList = p := by rw [toList_extract, hs, hi]; simp
  have e2 : (s.extract (i + 1) s.size).toList = r := by
    rw [toList_extract, hs, hi, show p ++ 46 :: r = (p ++ [46]) ++ r by simp, List.drop_left' (by simp), List.take_of_length_le (by omega)]
  unfold pathB
  rw [e2, hs, splitL_cut hp, List.all_cons, ← partL_of, e1]
set_option maxHeartbeats 2000000 in
theorem lite_cut (s : ByteArray) (w : World) (hs : s.size ≤ 1048576) :
    Calls Tryz.prog 133 #[.string s, .string ⟨#[46]⟩] w fun e w' => ∃ part rest more, e = .returned (.tuple #[.string part, .string rest, .bool more]) ∧ CutV s part rest more ∧ Below w.heap.size w w' := by
  have key := index_at s.toList
  rw [ByteArray.toList_eq] at key
  rcases key with ⟨h1, h2⟩ | ⟨p, r, h1, h2, h3⟩
  · have HC : Hid (pathB s = partB s) := path_none (by rw [ByteArray.toList_eq]; exact h2)
    have HI := Tryz.stringslite_Index_one s 46
    rw [h1] at HI
    clear h1 h2
    go_enter Tryz.func133, Tryz.ntmps133
    go_wp2_with fail
    refine (HI _).mono ?_
    rintro e w1 ⟨rfl, rfl⟩
    clear HI
    go_wp2_with fail
    go_ret3
    exact ⟨s, ⟨#[]⟩, false, rfl, .inl ⟨rfl, rfl, HC.out⟩, Below.refl _ _⟩
  · have hlen : s.size = p.length + (r.length + 1) := by have := congrArg List.length h1; simpa using this
    obtain ⟨i, hi⟩ : ∃ i, i = p.length := ⟨_, rfl⟩
    have HC : Hid (pathB s = (partB (s.extract 0 i) && pathB (s.extract (i + 1) s.size))) := path_cut (by rw [ByteArray.toList_eq]; exact h1) hi h3
    have HI := Tryz.stringslite_Index_one s 46
    rw [h2, ← hi] at HI
    have HII : Hid _ := HI
    have hi1 : i + 1 ≤ s.size := by omega
    have hi2 : (i : Int) + 1 ≤ s.size := by omega
    have hi3 : (i : Int) ≤ s.size := by omega
    have m1 : (⟨#[46]⟩ : ByteArray).size = 1 := rfl
    clear h1 h2 h3 HI hlen hi
    go_enter Tryz.func133, Tryz.ntmps133
    go_wp2_with fail
    refine (HII.out _).mono ?_
    rintro e w1 ⟨rfl, rfl⟩
    go_upto_region 3 with fail
    go_quiet (fail)
    go_wp2_with fail
    go_ret3
    refine ⟨s.extract 0 i, s.extract (i + 1) s.size, true, rfl, .inr ⟨rfl, HC.out, ?_, ?_⟩, ?_⟩
    · rw [ByteArray.size_extract]; omega
    · rw [ByteArray.size_extract]; omega
    · exact ⟨rfl, rfl, rfl, Nat.le_refl _, fun _ _ => rfl⟩
set_option maxHeartbeats 1000000 in
theorem str_cut (s : ByteArray) (w : World) (hs : s.size ≤ 1048576) :
    Calls Tryz.prog 112 #[.string s, .string ⟨#[46]⟩] w fun e w' => ∃ part rest more, e = .returned (.tuple #[.string part, .string rest, .bool more]) ∧ CutV s part rest more ∧ Below w.heap.size w w' := by
  go_enter Tryz.func112, Tryz.ntmps112
  go_wp2_with fail
  refine (lite_cut s _ hs).mono ?_
  rintro e w1 ⟨part, rest, more, rfl, hc, hb⟩
  have HC : Hid _ := hc
  have HB : Hid _ := hb
  clear hc hb
  go_wp2_with fail
  go_ret3
  exact ⟨part, rest, more, rfl, HC.out, HB.out⟩
theorem place_of (l : List UInt8) : placeB l = (decide (0 ≤ (numTok l).n) && tokB (numTok l).k (numTok l).n (numTok l).t) := by
  obtain ⟨h1, h2⟩ := tok_num l
  unfold placeB
  cases ht : tokB (numTok l).k (numTok l).n (numTok l).t
  · rw [h2 ht]; simp
  · rw [(h1 ht).1]; simp
theorem numTok_t (l : List UInt8) : (numTok l).t = ⟨#[]⟩ := by
  unfold numTok
  split
  · split <;> rfl
  · rfl
set_option maxHeartbeats 2000000 in
theorem impl_place (s : ByteArray) (w : World) (hs : s.size ≤ 1048576) (hv : Vars w) :
    Calls Tryz.prog 114 #[.string s] w fun e w' => e = .returned (.bool (placeB s.toList)) ∧ Below w.heap.size w w' := by
  have HV : Hid _ := hv
  have HP : Hid (placeB s.toList = (decide (0 ≤ (numTok s.toList).n) && tokB (numTok s.toList).k (numTok s.toList).n (numTok s.toList).t)) := place_of s.toList
  have htz : (numTok s.toList).t.size ≤ maxLen := by rw [numTok_t]; decide
  clear hv
  go_enter Tryz.func114, Tryz.ntmps114
  go_wp2_with fail
  refine (number_tok s _ hs HV.out).mono ?_
  rintro e w1 ⟨rfl, hb1⟩
  have HB1 : Hid _ := hb1
  clear hb1 HV
  generalize numTok s.toList = q at *
  obtain ⟨U, hU⟩ : ∃ X, X = w1.alloc (.cells #[.int .i64 q.k, .int .i64 q.n, .string q.t] 174) := ⟨_, rfl⟩
  have BU : Below w1.heap.size w1 U := by rw [hU]; exact (Below.refl _ _).alloc (Nat.le_refl _) _
  have c0 : U.heap[w1.heap.size]? = some (.cells #[.int .i64 q.k, .int .i64 q.n, .string q.t] 174 (0, 0)) := by rw [hU]; exact heap_alloc_new _ _
  have x0 := fun o => row_cell c0 o
  have HBU : Hid (Below w.heap.size w U) := HB1.out.trans (BU.mono HB1.out.size)
  clear BU c0
  by_cases hn : 0 ≤ q.n
  · have HF : Hid (tokB q.k q.n q.t = placeB s.toList) := by rw [Hid, HP.out, decide_eq_true hn]; rfl
    go_upto_region 2 with fail
    rw [← hU]
    clear hU
    go_wp2_with fail
    refine (impl_tokOK q.k q.n q.t _ htz).mono ?_
    rintro e w2 ⟨rfl, hb2⟩
    have HB2 : Hid (Below w.heap.size w w2) := HBU.out.trans (hb2.mono HBU.out.size)
    clear hb2 x0
    go_wp2_with fail
    go_ret
    exact ⟨ret_bool HF.out, HB2.out⟩
  · have HF : Hid (false = placeB s.toList) := by rw [Hid, HP.out, decide_eq_false hn]; rfl
    go_upto_region 2 with fail
    rw [← hU]
    clear hU
    go_wp2_with fail
    go_ret
    exact ⟨ret_bool HF.out, HBU.out⟩
def szV : Value → Nat | .string r => r.size | _ => 0
set_option maxHeartbeats 4000000 in
theorem impl_path (s : ByteArray) (w : World) (hs : s.size ≤ 1048576) (hv : Vars w) :
    Calls Tryz.prog 83 #[.string s] w fun e w' => e = .returned (.bool (pathB s)) ∧ Below w.heap.size w w' := by
  have HV : Hid (∀ W, Below w.heap.size w W → Vars W) := fun W hW => hv.up hW
  clear hv
  go_enter Tryz.func83, Tryz.ntmps83
  go_wp2_with fail
  go_loopw [0] (fun v w' => ∃ r : ByteArray, v = .string r ∧ r.size ≤ s.size ∧ Hid (Below w.heap.size w w') ∧ Hid (pathB s = pathB r)) (fun v _ => szV v)
  case atStart => exact ⟨s, rfl, Nat.le_refl _, Below.refl _ _, rfl⟩
  case round =>
    obtain ⟨wo, rfl⟩ : ∃ x, x = wr := ⟨_, rfl⟩
    obtain ⟨r, rfl, hr, HB, HD⟩ := hrel
    go_wp2_with fail
    refine (str_cut r _ (by omega)).mono ?_
    rintro e w1 ⟨part, rest, more, rfl, hc, hb1⟩
    have HB1 : Hid (Below w.heap.size w w1) := HB.out.trans (hb1.mono HB.out.size)
    clear hb1
    rcases hc with ⟨rfl, rfl, hcc⟩ | ⟨rfl, hcc, hlt, hpz⟩
    · cases hnb : nameB part
      · go_wp2_with fail
        refine (impl_nameOK part _ (by unfold maxLen; omega)).mono ?_
        rintro e w2 ⟨rfl, hb2⟩
        have HB2 : Hid (Below w.heap.size w w2) := HB1.out.trans (hb2.mono HB1.out.size)
        clear hb2
        rw [hnb]
        cases hpl : placeB part.toList
        · have HF : Hid (false = pathB s) := by rw [Hid, HD.out, hcc]; unfold partB; rw [hnb, hpl]; rfl
          go_wp2_with fail
          refine (impl_place part _ (by omega) (HV.out _ HB2.out)).mono ?_
          rintro e w3 ⟨rfl, hb3⟩
          have HB3 : Hid (Below w.heap.size w w3) := HB2.out.trans (hb3.mono HB2.out.size)
          clear hb3
          rw [hpl]
          go_wp2_with fail
          go_ret
          exact ⟨ret_bool HF.out, HB3.out⟩
        · have HF : Hid (true = pathB s) := by rw [Hid, HD.out, hcc]; unfold partB; rw [hnb, hpl]; rfl
          go_wp2_with fail
          refine (impl_place part _ (by omega) (HV.out _ HB2.out)).mono ?_
          rintro e w3 ⟨rfl, hb3⟩
          have HB3 : Hid (Below w.heap.size w w3) := HB2.out.trans (hb3.mono HB2.out.size)
          clear hb3
          rw [hpl]
          go_wp2_with fail
          go_ret
          exact ⟨ret_bool HF.out, HB3.out⟩
      · have HF : Hid (true = pathB s) := by rw [Hid, HD.out, hcc]; unfold partB; rw [hnb]; rfl
        go_wp2_with fail
        refine (impl_nameOK part _ (by unfold maxLen; omega)).mono ?_
        rintro e w2 ⟨rfl, hb2⟩
        have HB2 : Hid (Below w.heap.size w w2) := HB1.out.trans (hb2.mono HB1.out.size)
        clear hb2
        rw [hnb]
        go_wp2_with fail
        go_ret
        exact ⟨ret_bool HF.out, HB2.out⟩
    · cases hnb : nameB part
      · go_wp2_with fail
        refine (impl_nameOK part _ (by unfold maxLen; omega)).mono ?_
        rintro e w2 ⟨rfl, hb2⟩
        have HB2 : Hid (Below w.heap.size w w2) := HB1.out.trans (hb2.mono HB1.out.size)
        clear hb2
        rw [hnb]
        cases hpl : placeB part.toList
        · have HF : Hid (false = pathB s) := by rw [Hid, HD.out, hcc]; unfold partB; rw [hnb, hpl]; rfl
          go_wp2_with fail
          refine (impl_place part _ (by omega) (HV.out _ HB2.out)).mono ?_
          rintro e w3 ⟨rfl, hb3⟩
          have HB3 : Hid (Below w.heap.size w w3) := HB2.out.trans (hb3.mono HB2.out.size)
          clear hb3
          rw [hpl]
          go_wp2_with fail
          go_ret
          exact ⟨ret_bool HF.out, HB3.out⟩
        · have HF : Hid (pathB s = pathB rest) := by rw [Hid, HD.out, hcc]; unfold partB; rw [hnb, hpl]; rfl
          go_wp2_with fail
          refine (impl_place part _ (by omega) (HV.out _ HB2.out)).mono ?_
          rintro e w3 ⟨rfl, hb3⟩
          have HB3 : Hid (Below w.heap.size w w3) := HB2.out.trans (hb3.mono HB2.out.size)
          clear hb3
          rw [hpl]
          go_wp2_with fail
          exact ⟨⟨rest, rfl, by omega, HB3, HF⟩, hlt⟩
      · have HF : Hid (pathB s = pathB rest) := by rw [Hid, HD.out, hcc]; unfold partB; rw [hnb]; rfl
        go_wp2_with fail
        refine (impl_nameOK part _ (by unfold maxLen; omega)).mono ?_
        rintro e w2 ⟨rfl, hb2⟩
        have HB2 : Hid (Below w.heap.size w w2) := HB1.out.trans (hb2.mono HB1.out.size)
        clear hb2
        rw [hnb]
        go_wp2_with fail
        exact ⟨⟨rest, rfl, by omega, HB2, HF⟩, hlt⟩
set_option maxHeartbeats 2000000 in
theorem impl_paths (a : Option Addr) (c : Nat) (ps : List ByteArray) (w : World) (hp : KeRow 0 w.heap.size w a ps) (hz : sumW ps ≤ 1048576) (hv : Vars w) :
    Calls Tryz.prog 40 #[.slice a ps.length c] w fun e w' => e = .returned (.bool (pathsB ps)) ∧ Below w.heap.size w w' := by
  have HV : Hid (∀ W, Below w.heap.size w W → Vars W ∧ KeRow 0 W.heap.size W a ps) := fun W hW => ⟨hv.up hW, KeRow.up hp hW⟩
  have HZ : Hid _ := hz
  have hln := len_sumW ps
  have hln2 : ps.length ≤ 1048576 := by omega
  clear hv hp hz hln
  go_enter Tryz.func40, Tryz.ntmps40
  go_wp2_with fail
  go_loopw [7] (fun i w' => ∃ k : Nat, k ≤ ps.length ∧ i = .int .i64 k ∧ Hid (Below w.heap.size w w') ∧ Hid (pathsB ps = (ps.drop k).all pathB)) (fun i _ => ps.length - (intOf i).toNat)
  case atStart => exact ⟨0, by omega, rfl, Below.refl _ _, rfl⟩
  case round =>
    obtain ⟨wo, rfl⟩ : ∃ x, x = wr := ⟨_, rfl⟩
    obtain ⟨k, hk, rfl, HB, HD⟩ := hrel
    obtain ⟨q1, q5⟩ := HV.out _ HB.out
    by_cases hlt : k < ps.length
    · obtain ⟨b, o, ha, _, hbl, ck⟩ := KeRow.cells q5 k hlt
      have hkz : ps[k].size ≤ 1048576 := by have := mem_sumW (List.getElem_mem hlt); have := HZ.out; omega
      have HD1 : Hid (pathsB ps = (pathB ps[k] && (ps.drop (k + 1)).all pathB)) := by rw [Hid, HD.out, List.drop_eq_getElem_cons hlt, List.all_cons]
      have Q1 : Hid _ := q1
      have hlt' : (k : Int) < ps.length := by omega
      subst ha
      clear q1 q5 HD
      go_wp2_with fail
      refine (impl_path ps[k] _ hkz Q1.out).mono ?_
      rintro e w2 ⟨rfl, hb2⟩
      have HB2 : Hid (Below w.heap.size w w2) := HB.out.trans (hb2.mono HB.out.size)
      clear hb2
      cases hpk : pathB ps[k]
      · have HF : Hid (false = pathsB ps) := by rw [Hid, HD1.out, hpk]; rfl
        go_wp2_with fail
        go_ret
        exact ⟨ret_bool HF.out, HB2.out⟩
      · have HF : Hid (pathsB ps = (ps.drop (k + 1)).all pathB) := by rw [Hid, HD1.out, hpk]; rfl
        go_wp2_with fail
        exact ⟨⟨k + 1, by omega, by go_num, HB2, HF⟩, by simp [intOf]; omega⟩
    · obtain rfl : k = ps.length := by omega
      have HE : Hid (true = pathsB ps) := by rw [Hid, HD.out, List.drop_length]; rfl
      clear q1 q5
      go_wp2_with fail
      go_ret
      exact ⟨ret_bool HE.out, HB.out⟩
end Go.Proofs.YtoaeggfnlenjkaaGreatDoor.G
