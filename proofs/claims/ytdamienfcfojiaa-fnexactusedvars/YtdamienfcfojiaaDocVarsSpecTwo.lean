/- UsedVars: the specification's side. -/
import Derived.Test.YtdamienfcfojiaaDocVarsSpec
import Derived.Test.YtdamienfcfojiaaDocUseThree
import Derived.Test.YtdamienfcfojiaaDocSpecOK
namespace Go.Proofs.Ytdamienfcfojiaa
open Go.ChangeShapes Go.WideShapes Go.ChangeAt Go.RowKit
set_option linter.unusedVariables false

set_option maxHeartbeats 8000000 in
set_option maxRecDepth 40000 in
theorem spec_used (a : Option Addr) (c : Nat) (l : List De) (w : World) (hr : DeRow 0 w.heap.size w a l) (hb : DefsBd 1048576 l) (hwt : G.cnt wtD l ≤ 1048576) :
    Calls Try.prog 5 #[.agg #[.slice a l.length c]] w fun e w' => SaysS w.heap.size w' (UsR l) e ∧ Below w.heap.size w w' := by
  have K1 : Hid (DeRow 0 w.heap.size w a l) := hr
  have HB : Hid (DefsBd 1048576 l) := hb
  have hl : l.length ≤ 1048576 := hb.1
  clear hr hb
  obtain ⟨i27, hi27, hz27, hs27, hy27⟩ := info_str
  go_enter Try.func5, Try.ntmps5
  go_wp2_with fail
  refine (spec_doc a c l _ (DeRow.up K1.out ?b0) HB.out.1 HB.out.2).mono ?_
  case b0 => exact (Below.refl _ _).alloc (Nat.le_refl _) _
  rintro e w1 ⟨rfl, hb1⟩
  have z1 : w.heap.size + 1 ≤ w1.heap.size := by have := hb1.size; simpa using this
  have Q1 : Hid (Below w.heap.size w w1) := ((Below.refl _ _).alloc (Nat.le_refl _) _).trans (hb1.mono (by simp))
  have HC0 : Hid (w1.cell? ⟨w.heap.size, 0, none⟩ = some (.slice a l.length c)) := (hb1.cell (p := ⟨w.heap.size, 0, none⟩) (by simp)).trans (row_cell (heap_alloc_new _ _) 0)
  clear hb1
  cases hdb : docB l with
  | false =>
    have HN : Hid (UsR l [] 1) := .inl ⟨hdb, rfl, rfl⟩
    clear hdb
    go_wp2_with fail
    go_ret2
    exact ⟨⟨[], 1, _, _, rfl, HN.out, .inl rfl⟩, Q1.out.alloc (by omega) _⟩
  | true =>
  have HDB : Hid (docB l = true) := hdb
  clear hdb
  go_wp2_with fail
  go_loopw [4, 5] (fun s i w' => ∃ (k : Nat) (ms : List ByteArray), k ≤ l.length ∧ i = .int .i64 k ∧ Hid (Below w1.heap.size w1 w') ∧ Hid (OutS (fun _ => False) w1.heap.size w' s ms) ∧ Hid (ms = addAll [] (varsL (l.take k)))) (fun _ i _ => l.length - (intOf i).toNat)
  case atStart => exact ⟨0, [], by omega, rfl, (Below.refl _ _).alloc (Nat.le_refl _) _, ⟨World.ownsRow_made w1 #[] 0 (Nat.le_refl _) (Nat.zero_le _) (by simp), fun _ _ h => h⟩, rfl⟩
  case round =>
    obtain ⟨k, ms, hk, rfl, HBW, HO, HV⟩ := hrel
    have hbz := HBW.out.size
    have ks : wr.cell? ⟨w.heap.size, 0, none⟩ = some (.slice a l.length c) := (HBW.out.cell (p := ⟨w.heap.size, 0, none⟩) (show w.heap.size < w1.heap.size by omega)).trans HC0.out
    have Br : Hid (Below w.heap.size w wr) := Q1.out.trans (HBW.out.mono (by omega))
    by_cases hlt : k < l.length
    case neg =>
      have hV := HV.out
      rw [List.take_of_length_le (by omega)] at hV
      have HU : Hid (UsR l ms 0) := .inr ⟨HDB.out, hV, rfl⟩
      obtain ⟨a9, c9, hs9, R9⟩ := StOwn.of HO.out.1
      subst hs9
      have R9' : Hid (StOwn w.heap.size wr.heap.size wr a9 ms) := OwnR.wide R9 (by omega) (Nat.le_refl _)
      clear R9 HO HV hV
      go_wp2_with fail
      go_ret2
      exact ⟨⟨ms, 0, a9, c9, rfl, HU.out, R9'.out⟩, Br.out⟩
    obtain ⟨b, o, a3, c3, ha, _, hbl, d0, d1, d2, d3, r3⟩ := DeRow.cells (DeRow.keep K1.out (Below.agree Br.out (Nat.le_refl _))) k hlt
    subst ha
    have R3 : Hid (SelRow 0 wr.heap.size wr a3 l[k].sels) := SelRow.wide r3 (Nat.le_refl _) (by omega)
    obtain ⟨x1, x2, x3, x4⟩ := HB.out.2 _ (List.getElem_mem hlt)
    have X4 : Hid (SelsBd 1048576 l[k].sels) := x4
    have q6 : wtD l[k] = 1 + wtS l[k].sels := rfl
    have q3 := G.cnt_take wtD hlt
    have q4 := G.cnt_le wtD l (k + 1)
    have q5 := vw_wt l[k].sels
    have q1 := addAll_len (varsL (l.take k)) []
    have q2 := varsL_len (l.take k)
    simp only [List.length_nil] at q1
    have hms : ms.length + vwS l[k].sels ≤ 2097152 := by rw [HV.out]; omega
    have HV2 : Hid (addAll [] (varsL (l.take (k + 1))) = addAll ms (varsS l[k].sels)) := by rw [Hid, varsL_take hlt, addAll_append, HV.out]
    clear q1 q2 q3 q4 q5 q6 r3 x4 HV
    obtain ⟨V, rfl⟩ : ∃ x, x = wr := ⟨_, rfl⟩
    go_wp2_with fail
    refine (vars_sels l[k].sels a3 c3 _ R3.out x3 X4.out (by omega)).mono ?_
    rintro e w3 ⟨am, cm, rfl, hst3, hb3⟩
    have hlS := addAll_len (varsS l[k].sels) []
    have hvS := varsS_len l[k].sels
    have hmo : (addAll [] (varsS l[k].sels)).length ≤ vwS l[k].sels := by simp only [List.length_nil] at hlS; omega
    have HVS : Hid (addAll ms (addAll [] (varsS l[k].sels)) = addAll ms (varsS l[k].sels)) := addAll_twice _ _
    have SM : Hid (StOwn V.heap.size w3.heap.size w3 am (addAll [] (varsS l[k].sels))) := hst3
    have z3 := hb3.size
    have Q3 : Hid (Below w1.heap.size w1 w3) := HBW.out.trans (hb3.mono (by omega))
    generalize addAll [] (varsS l[k].sels) = mo at *
    have O3 : Hid (OutS (fun g => V.heap.size ≤ g ∧ g < w3.heap.size) w1.heap.size w3 u4 ms) := ⟨(HO.out.keep hb3).1, fun g hg hp => by have := (World.ownsRow.lt HO.out.1 g hg).2; omega⟩
    clear hst3 hlS hvS hb3 HO d0 d1 d2 d3 ks
    go_wp2_with fail
    go_loopw [4, 7] (fun s i w' => ∃ (j : Nat), j ≤ mo.length ∧ i = .int .i64 j ∧ Hid (Below w1.heap.size w1 w') ∧ w3.heap.size ≤ w'.heap.size ∧ Hid (∀ g, V.heap.size ≤ g → g < w3.heap.size → w'.heap[g]? = w3.heap[g]?) ∧ Hid (OutS (fun g => V.heap.size ≤ g ∧ g < w3.heap.size) w1.heap.size w' s (addAll ms (mo.take j)))) (fun _ i _ => mo.length - (intOf i).toNat)
    case atStart => exact ⟨0, by omega, rfl, Q3, Nat.le_refl _, fun _ _ _ => rfl, O3⟩
    case round =>
      obtain ⟨j, hj, rfl, HBI, hzi, HAG, HOI⟩ := hrel
      have hbi := HBI.out.size
      by_cases hjt : j < mo.length
      case neg =>
        have HE : Hid (OutS (fun _ => False) w1.heap.size wr u4 (addAll ms (varsS l[k].sels))) := by
          have h9 := HOI.out
          rw [List.take_of_length_le (by omega), HVS.out] at h9
          exact ⟨h9.1, fun _ _ h => h⟩
        clear HOI
        go_wp2_with fail
        exact ⟨⟨k + 1, _, by omega, by go_num, HBI, HE, HV2.out.symm⟩, by simp [intOf]; omega⟩
      have SR : Hid (StRow 0 wr.heap.size wr am mo) := Row.wide (OwnR.row (OwnR.keep SM.out (fun g h1 h2 => HAG.out g h1 h2))) (Nat.zero_le _) (by omega)
      obtain ⟨b', o', ha', _, hbl', f0⟩ := StRow.cell SR.out j hjt
      subst ha'
      have hlb := addAll_len (mo.take j) ms
      rw [List.length_take] at hlb
      have hps : (addAll ms (mo.take j)).length ≤ 2097152 := by omega
      have HVN : Hid (addAll ms (mo.take (j + 1)) = addV (addAll ms (mo.take j)) mo[j]) := addAll_take hjt
      generalize addAll ms (mo.take j) = ps at *
      clear hlb
      obtain ⟨a0, c0, hs0, hst⟩ := StOwn.of HOI.out.1
      subst hs0
      have HS : Hid (StRow 0 wr.heap.size wr a0 ps) := Row.wide (OwnR.row hst) (Nat.zero_le _) (Nat.le_refl _)
      have HG : Hid (∀ g, (Value.slice a0 ps.length c0).ownBlock = some g → (w1.heap.size ≤ g ∧ g < wr.heap.size) ∧ ¬ (V.heap.size ≤ g ∧ g < w3.heap.size)) := fun g hg => ⟨World.ownsRow.lt HOI.out.1 g hg, HOI.out.2 g hg⟩
      clear hst
      go_wp2_with fail
      refine (str_in a0 c0 ps mo[j] _ HS.out (by omega)).mono ?_
      rintro e w2 ⟨rfl, rfl⟩
      cases hh : hasS ps mo[j] with
      | true =>
        have HE : Hid (addAll ms (mo.take (j + 1)) = ps) := by rw [Hid, HVN.out]; exact addV_yes hh
        go_wp2_with fail
        exact ⟨⟨j + 1, by omega, by go_num, HBI, hzi, HAG, by rw [HE.out]; exact HOI.out⟩, by simp [intOf]; omega⟩
      | false =>
      have HE : Hid (addAll ms (mo.take (j + 1)) = ps ++ [mo[j]]) := by rw [Hid, HVN.out]; exact addV_no hh
      have HOA : Hid ((w2.alloc (.cells #[.string mo[j]] 9)).ownsRow w1.heap.size 9 1 (.slice a0 ps.length c0) ps.length (stV ps)) := owns_keep HOI.out.1 fun g hg => Below.heap_alloc _ _ _ (HG.out g hg).1.2
      have HWA : Hid (∀ j' u, ([.string mo[j]] : List Value)[j']? = some u → (w2.alloc (.cells #[.string mo[j]] 9)).cell? ((⟨w2.heap.size, 0, none⟩ : Addr).add j') = some u) := World.news_of_block (heap_alloc_new _ _)
      go_wp2_with (first | (at_builtin; revert hps) | fail)
      intro hps
      refine wpList_append_lies _ rfl _ _ 26 rfl w1.heap.size 9 i27 _ 1 16 Try.underlying26 hi27 hz27 hs27 hy27 rfl (by decide) (.slice a0 ps.length c0) ps.length (stV ps) rfl HOA.out ⟨w2.heap.size, 0, none⟩ 1 1 [.string mo[j]] (by simp [go_sem]) rfl HWA.out st_one (by decide) (by unfold maxLen; omega) (by omega) (by simp; omega) (w2.heap.size + 1) (by simp) ?_
      intro g cap w4 hown4 hgrow hat hlt4
      have Q4 : Hid (Below w1.heap.size w1 w4) := (HBI.out.alloc (by omega) _).grown hgrow (by simp; omega) (fun k hk => (HG.out k hk).1.1)
      have O4 : Hid (OutS (fun g => V.heap.size ≤ g ∧ g < w3.heap.size) w1.heap.size w4 (.slice (some ⟨g, 0, none⟩) (ps.length + 1) cap) (ps ++ [mo[j]])) := OutS.snoc hown4 (by
        rcases hat with h | h
        · exact (HG.out g h).2
        · omega)
      have A4 : Hid (∀ g, V.heap.size ≤ g → g < w3.heap.size → w4.heap[g]? = w3.heap[g]?) := fun g h1 h2 => ((hgrow.block g (by simp; omega) (fun e => (HG.out g e.symm).2 ⟨h1, h2⟩)).trans (Below.heap_alloc _ _ _ (by omega))).trans (HAG.out g h1 h2)
      have Z4 : w3.heap.size ≤ w4.heap.size := by have := hgrow.size; simp at this; omega
      clear hown4 hgrow hat hlt4 f0
      go_wp2_with fail
      exact ⟨⟨j + 1, by omega, by go_num, Q4, Z4, A4, by rw [HE.out]; exact O4.out⟩, by simp [intOf]; omega⟩
end Go.Proofs.Ytdamienfcfojiaa
