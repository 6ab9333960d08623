/- The specification's variables of selections. -/
import Derived.Test.YtdamienfcfojiaaDocUse
namespace Go.Proofs.Ytdamienfcfojiaa
open Go.ChangeShapes Go.WideShapes Go.ChangeAt Go.RowKit
set_option linter.unusedVariables false

theorem st_one {t : ByteArray} : ∀ u ∈ ([.string t] : List Value), u.oneCell' = true := by simp [Value.oneCell']
/-- Names that a call adds to, in a block that is none of some. -/
def OutS (Pr : Nat → Prop) (base : Nat) (w : World) (s : Value) (ms : List ByteArray) : Prop := w.ownsRow base 9 1 s ms.length (stV ms) ∧ ∀ g, s.ownBlock = some g → ¬ Pr g
theorem OutS.keep {Pr : Nat → Prop} {base : Nat} {w w' : World} {s : Value} {ms : List ByteArray} (h : OutS Pr base w s ms) (hb : Below w.heap.size w w') : OutS Pr base w' s ms :=
  ⟨owns_keep h.1 fun g hg => hb.block g (World.ownsRow.lt h.1 g hg).2, h.2⟩
theorem OutS.snoc {Pr : Nat → Prop} {base : Nat} {w : World} {g cap : Nat} {ms : List ByteArray} {t : ByteArray} (h : w.ownsRow base 9 1 (.slice (some ⟨g, 0, none⟩) (ms.length + 1) cap) (ms.length + 1) (stV ms ++ [.string t])) (hg : ¬ Pr g) : OutS Pr base w (.slice (some ⟨g, 0, none⟩) (ms.length + 1) cap) (ms ++ [t]) := by
  refine ⟨?_, fun k hk => by simp only [Value.ownBlock, Option.some.injEq] at hk; rw [← hk]; exact hg⟩
  have e1 : (ms ++ [t]).length = ms.length + 1 := by simp
  have e2 : stV (ms ++ [t]) = stV ms ++ [.string t] := by simp [stV]
  rw [e1, e2]; exact h
theorem addV_no {ms : List ByteArray} {t : ByteArray} (h : hasS ms t = false) : addV ms t = ms ++ [t] := by unfold addV; rw [if_neg (by rw [h]; simp)]
theorem addV_yes {ms : List ByteArray} {t : ByteArray} (h : hasS ms t = true) : addV ms t = ms := by unfold addV; rw [if_pos h]
theorem addAll_take {ns l : List ByteArray} {k : Nat} (hk : k < l.length) : addAll ns (l.take (k + 1)) = addV (addAll ns (l.take k)) l[k] := by
  rw [List.take_succ_eq_append_getElem hk, addAll_snoc]

def VarsSels (l : Sels) : Prop := ∀ (a : Option Addr) (c : Nat) (w : World), SelRow 0 w.heap.size w a l → l.len ≤ 1048576 → SelsBd 1048576 l → vwS l ≤ 2097152 →
    Calls Try.prog 15 #[.slice a l.len c] w fun e w' => ∃ a' c', e = .returned (.slice a' (addAll [] (varsS l)).length c') ∧ StOwn w.heap.size w'.heap.size w' a' (addAll [] (varsS l)) ∧ Below w.heap.size w w'

set_option maxHeartbeats 8000000 in
set_option maxRecDepth 40000 in
theorem vars_sels (l : Sels) : VarsSels l := by
  induction hN : l.size using Nat.strongRecOn generalizing l with
  | _ N ih =>
  subst hN
  intro a c w hr hl hbd hvw
  have IH : Hid (∀ sub : Sels, sub.size < l.size → VarsSels sub) := fun sub hsub => ih sub.size hsub sub rfl
  have HR : Hid (SelFrom 0 w.heap.size w a 0 l) := hr.from_
  have HB : Hid (SelsBd 1048576 l) := hbd
  clear hr ih hbd
  obtain ⟨i27, hi27, hz27, hs27, hy27⟩ := info_str
  go_enter Try.func15, Try.ntmps15
  go_wp2_with fail
  go_loopw [3, 4] (fun s i w' => ∃ (k : Nat) (ms : List ByteArray) (rest : Sels), Hid (l.len = k + rest.len) ∧ i = .int .i64 k ∧ Hid (Below w.heap.size w w') ∧ Hid (rest.size ≤ l.size) ∧ Hid (SelsBd 1048576 rest) ∧ Hid (SelFrom 0 w.heap.size w a k rest) ∧ Hid (OutS (fun _ => False) w.heap.size w' s ms) ∧ Hid (addAll [] (varsS l) = addAll ms (varsS rest)) ∧ Hid (ms.length + vwS rest ≤ 2097152)) (fun _ i _ => l.len - (intOf i).toNat)
  case atStart => exact ⟨0, [], l, by simp [Hid], rfl, (Below.refl _ _).alloc (Nat.le_refl _) _, Nat.le_refl _, HB, HR, ⟨World.ownsRow_made w #[] 0 (Nat.le_refl _) (Nat.zero_le _) (by simp), fun _ _ h => h⟩, rfl, by simpa [Hid] using hvw⟩
  case round =>
    obtain ⟨k, ms, rest, HK, rfl, HBW, HZ, HD, HF, HO, HV, HL⟩ := hrel
    have hbz := HBW.out.size
    cases rest with
    | nil =>
      have hk' : ¬ k < l.len := by rw [HK.out]; simp only [Sels.len]; omega
      have hV := HV.out
      simp only [varsS] at hV
      have hV : addAll [] (varsS l) = ms := hV
      have HVV : Hid (addAll [] (varsS l) = ms) := hV
      obtain ⟨a9, c9, rfl, R9⟩ := StOwn.of HO.out.1
      have R9' : Hid (StOwn w.heap.size wr.heap.size wr a9 ms) := R9
      clear R9 HO HV hV
      go_wp2_with fail
      go_ret
      refine ⟨a9, c9, ?_, by rw [HVV.out]; exact R9'.out, HBW.out⟩
      rw [HVV.out]; rfl
    | cons h sub rest =>
      have hlt : k < l.len := by rw [HK.out]; simp only [Sels.len]; omega
      have HK2 : Hid (l.len = k + 1 + rest.len) := by rw [Hid, HK.out]; simp only [Sels.len]; omega
      obtain ⟨b, o, a1, c1, a2, c2, a3, c3, ha, _, hbl, d0, d1, d2, d3, d4, d5, r1, r2, r3, _⟩ := HF.out.step
      have HF2 : Hid (SelFrom 0 w.heap.size w a (k + 1) rest) := SelFrom.next HF.out
      subst ha
      have D3 : Hid (∀ W', Below w.heap.size w W' → W'.cell? ⟨b, o + k * 6 + 3, none⟩ = some (.slice a1 h.args.length c1)) := fun W' hB => (hB.cell (p := ⟨b, o + k * 6 + 3, none⟩) hbl).trans d3
      have D4 : Hid (∀ W', Below w.heap.size w W' → W'.cell? ⟨b, o + k * 6 + 4, none⟩ = some (.slice a2 h.dirs.length c2)) := fun W' hB => (hB.cell (p := ⟨b, o + k * 6 + 4, none⟩) hbl).trans d4
      have D5 : Hid (∀ W', Below w.heap.size w W' → W'.cell? ⟨b, o + k * 6 + 5, none⟩ = some (.slice a3 sub.len c3)) := fun W' hB => (hB.cell (p := ⟨b, o + k * 6 + 5, none⟩) hbl).trans d5
      have R1 : Hid (ArRow 0 w.heap.size w a1 h.args) := r1
      have R2 : Hid (DiRow 0 w.heap.size w a2 h.dirs) := r2
      have R3 : Hid (SelRow 0 w.heap.size w a3 sub) := r3
      obtain ⟨⟨x1, x2, x3, x4, x5, x6⟩, e2, e3, e4⟩ := HD.out
      have X4 : Hid (∀ x ∈ h.args, ArBd 1048576 x) := x4
      have X6 : Hid (∀ x ∈ h.dirs, DiBd 1048576 x) := x6
      have E3 : Hid (SelsBd 1048576 sub) := e3
      have E4 : Hid (SelsBd 1048576 rest) := e4
      have HZ2 : Hid (rest.size ≤ l.size) := by have := HZ.out; simp only [Sels.size] at this; unfold Hid; omega
      have IS : Hid (VarsSels sub) := IH.out sub (by have := HZ.out; simp only [Sels.size] at this; omega)
      have hL := HL.out
      simp only [vwS] at hL
      have HV0 : Hid (addAll [] (varsS l) = addAll (addAll ms (varsH h)) (varsS sub ++ varsS rest)) := by rw [Hid, HV.out]; exact addAll_append _ _ _
      have HVH : Hid (addAll ms (varsH h) = addAll (addAll ms (varsA h.args)) (varsD h.dirs)) := addAll_append _ _ _
      clear r1 r2 r3 e3 e4 x4 x6 d0 d1 d2 d3 d4 d5 HV HF
      go_wp2_with fail
      have HO : Hid (OutS (fun _ => False) w.heap.size wr u3 (addAll ms (varsA (h.args.take 0)))) := HO
      go_loopw [3, 5] (fun s i w' => ∃ (j : Nat), j ≤ h.args.length ∧ i = .int .i64 j ∧ Hid (Below w.heap.size w w') ∧ Hid (OutS (fun _ => False) w.heap.size w' s (addAll ms (varsA (h.args.take j))))) (fun _ i _ => h.args.length - (intOf i).toNat)
      case atStart => exact ⟨0, by omega, rfl, HBW, HO⟩
      case round =>
        obtain ⟨j, hj, rfl, HBI, HOI⟩ := hrel
        have hbi := HBI.out.size
        have q3 := D3.out _ HBI.out
        by_cases hjt : j < h.args.length
        case pos =>
          obtain ⟨b', o', ha', _, hbl', f0, f1, f2, f3⟩ := (R1.out.keep (Below.agree HBI.out (Nat.le_refl _))).cells_ar j hjt
          subst ha'
          have hsz : h.args[j].v.t.size ≤ 1048576 := (X4.out _ (List.getElem_mem hjt)).2
          have hlb := addAll_len (varsA (h.args.take j)) ms
          have hvb := varsA_len (h.args.take j)
          rw [List.length_take] at hvb
          have hps : (addAll ms (varsA (h.args.take j))).length ≤ 2097152 := by omega
          have HVN : Hid (addAll ms (varsA (h.args.take (j + 1))) = addAll (addAll ms (varsA (h.args.take j))) (vaVar h.args[j].v)) := by rw [Hid, varsA_take hjt, addAll_append]
          generalize addAll ms (varsA (h.args.take j)) = ps at *
          clear hlb hvb
          cases h4 : (h.args[j].v.k == 4) with
          | false =>
            have HE : Hid (addAll ms (varsA (h.args.take (j + 1))) = ps) := by rw [Hid, HVN.out]; exact add_none _ h4
            go_wp2_with fail
            exact ⟨⟨j + 1, by omega, by go_num, HBI.out.alloc (by omega) _, by rw [HE.out]; exact HOI.out.keep ((Below.refl _ _).alloc (Nat.le_refl _) _)⟩, by simp [intOf]; omega⟩
          | true =>
          obtain ⟨a0, c0, hs0, hst⟩ := StOwn.of HOI.out.1
          subst hs0
          have HS : Hid (StRow 0 wr.heap.size wr a0 ps) := Row.wide (OwnR.row hst) (Nat.zero_le _) (Nat.le_refl _)
          have HG : Hid (∀ g, (Value.slice a0 ps.length c0).ownBlock = some g → w.heap.size ≤ g ∧ g < wr.heap.size) := World.ownsRow.lt HOI.out.1
          clear hst
          go_wp2_with fail
          refine (str_in a0 c0 ps h.args[j].v.t _ (Row.up HS.out ?b0) (by omega)).mono ?_
          case b0 => exact (Below.refl _ _).alloc (Nat.le_refl _) _
          rintro e w1 ⟨rfl, hw1⟩
          have z1 : w1.heap.size = wr.heap.size + 1 := by rw [hw1]; simp
          have B1 : Hid (Below wr.heap.size wr w1) := by rw [hw1]; exact (Below.refl _ _).alloc (Nat.le_refl _) _
          have v1 : w1.cell? ⟨wr.heap.size, 2, none⟩ = some (.string h.args[j].v.t) := by rw [hw1]; exact row_cell (heap_alloc_new _ _) 2
          clear hw1 f0 f1 f2 f3
          cases hh : hasS ps h.args[j].v.t with
          | true =>
            have HE : Hid (addAll ms (varsA (h.args.take (j + 1))) = ps) := by rw [Hid, HVN.out, add_one _ h4]; exact addV_yes hh
            go_wp2_with fail
            exact ⟨⟨j + 1, by omega, by go_num, HBI.out.trans (B1.out.mono (by omega)), by rw [HE.out]; exact HOI.out.keep B1.out⟩, by simp [intOf]; omega⟩
          | false =>
          have HE : Hid (addAll ms (varsA (h.args.take (j + 1))) = ps ++ [h.args[j].v.t]) := by rw [Hid, HVN.out, add_one _ h4]; exact addV_no hh
          have HOA : Hid ((w1.alloc (.cells #[.string h.args[j].v.t] 9)).ownsRow w.heap.size 9 1 (.slice a0 ps.length c0) ps.length (stV ps)) := owns_keep HOI.out.1 fun g hg => (Below.heap_alloc _ _ _ (by have := HG.out g hg; omega)).trans (B1.out.block g (HG.out g hg).2)
          have HWA : Hid (∀ j' u, ([.string h.args[j].v.t] : List Value)[j']? = some u → (w1.alloc (.cells #[.string h.args[j].v.t] 9)).cell? ((⟨w1.heap.size, 0, none⟩ : Addr).add j') = some u) := World.news_of_block (heap_alloc_new _ _)
          go_wp2_with (first | (at_builtin; revert hps) | fail)
          intro hps
          refine wpList_append_lies _ rfl _ _ 26 rfl w.heap.size 9 i27 _ 1 16 Try.underlying26 hi27 hz27 hs27 hy27 rfl (by decide) (.slice a0 ps.length c0) ps.length (stV ps) rfl HOA.out ⟨w1.heap.size, 0, none⟩ 1 1 [.string h.args[j].v.t] (by simp [go_sem]) rfl HWA.out st_one (by decide) (by unfold maxLen; omega) (by omega) (by simp; omega) (w1.heap.size + 1) (by simp) ?_
          intro g cap w4 hown4 hgrow hat hlt4
          have Q4 : Hid (Below w.heap.size w w4) := ((HBI.out.trans (B1.out.mono (by omega))).alloc (by omega) _).grown hgrow (by simp; omega) (fun k hk => (HG.out k hk).1)
          have O4 : Hid (OutS (fun _ => False) w.heap.size w4 (.slice (some ⟨g, 0, none⟩) (ps.length + 1) cap) (ps ++ [h.args[j].v.t])) := OutS.snoc hown4 (fun h => h)
          clear hown4 hgrow hat hlt4 v1
          go_wp2_with fail
          exact ⟨⟨j + 1, by omega, by go_num, Q4, by rw [HE.out]; exact O4.out⟩, by simp [intOf]; omega⟩
        have HO : Hid (OutS (fun _ => False) w.heap.size wr u3 (addAll (addAll ms (varsA h.args)) (varsD (h.dirs.take 0)))) := by have := HOI.out; rwa [List.take_of_length_le (by omega)] at this
        have hlA := addAll_len (varsA h.args) ms
        have hvA := varsA_len h.args
        have hlA2 : (addAll ms (varsA h.args)).length ≤ ms.length + h.args.length := by omega
        generalize addAll ms (varsA h.args) = ma at *
        have HBV : Hid (Below w.heap.size w wr) := HBI.out
        clear HOI HBI hlA hvA hbi X4 R1
        go_wp2_with fail
        go_loopw [3, 7] (fun s i w' => ∃ (j : Nat), j ≤ h.dirs.length ∧ i = .int .i64 j ∧ Hid (Below w.heap.size w w') ∧ Hid (OutS (fun _ => False) w.heap.size w' s (addAll ma (varsD (h.dirs.take j))))) (fun _ i _ => h.dirs.length - (intOf i).toNat)
        case atStart => exact ⟨0, by omega, rfl, HBV, HO⟩
        case round =>
          obtain ⟨j, hj, rfl, HBI, HOI⟩ := hrel
          have hbi := HBI.out.size
          have q4 := D4.out _ HBI.out
          by_cases hjt : j < h.dirs.length
          case pos =>
            obtain ⟨b', o', ha', _, hbl', f0, f1, f2, f3⟩ := (R2.out.keep (Below.agree HBI.out (Nat.le_refl _))).cells_di j hjt
            subst ha'
            have hsz : h.dirs[j].v.t.size ≤ 1048576 := X6.out _ (List.getElem_mem hjt)
            have hlb := addAll_len (varsD (h.dirs.take j)) ma
            have hvb := varsD_len (h.dirs.take j)
            rw [List.length_take] at hvb
            have hps : (addAll ma (varsD (h.dirs.take j))).length ≤ 2097152 := by omega
            have HVN : Hid (addAll ma (varsD (h.dirs.take (j + 1))) = addAll (addAll ma (varsD (h.dirs.take j))) (vaVar h.dirs[j].v)) := by rw [Hid, varsD_take hjt, addAll_append]
            generalize addAll ma (varsD (h.dirs.take j)) = ps at *
            clear hlb hvb
            cases h4 : (h.dirs[j].v.k == 4) with
            | false =>
              have HE : Hid (addAll ma (varsD (h.dirs.take (j + 1))) = ps) := by rw [Hid, HVN.out]; exact add_none _ h4
              go_wp2_with fail
              exact ⟨⟨j + 1, by omega, by go_num, HBI.out.alloc (by omega) _, by rw [HE.out]; exact HOI.out.keep ((Below.refl _ _).alloc (Nat.le_refl _) _)⟩, by simp [intOf]; omega⟩
            | true =>
            obtain ⟨a0, c0, hs0, hst⟩ := StOwn.of HOI.out.1
            subst hs0
            have HS : Hid (StRow 0 wr.heap.size wr a0 ps) := Row.wide (OwnR.row hst) (Nat.zero_le _) (Nat.le_refl _)
            have HG : Hid (∀ g, (Value.slice a0 ps.length c0).ownBlock = some g → w.heap.size ≤ g ∧ g < wr.heap.size) := World.ownsRow.lt HOI.out.1
            clear hst
            go_wp2_with fail
            refine (str_in a0 c0 ps h.dirs[j].v.t _ (Row.up HS.out ?b0) (by omega)).mono ?_
            case b0 => exact (Below.refl _ _).alloc (Nat.le_refl _) _
            rintro e w1 ⟨rfl, hw1⟩
            have z1 : w1.heap.size = wr.heap.size + 1 := by rw [hw1]; simp
            have B1 : Hid (Below wr.heap.size wr w1) := by rw [hw1]; exact (Below.refl _ _).alloc (Nat.le_refl _) _
            have v1 : w1.cell? ⟨wr.heap.size, 2, none⟩ = some (.string h.dirs[j].v.t) := by rw [hw1]; exact row_cell (heap_alloc_new _ _) 2
            clear hw1 f0 f1 f2 f3
            cases hh : hasS ps h.dirs[j].v.t with
            | true =>
              have HE : Hid (addAll ma (varsD (h.dirs.take (j + 1))) = ps) := by rw [Hid, HVN.out, add_one _ h4]; exact addV_yes hh
              go_wp2_with fail
              exact ⟨⟨j + 1, by omega, by go_num, HBI.out.trans (B1.out.mono (by omega)), by rw [HE.out]; exact HOI.out.keep B1.out⟩, by simp [intOf]; omega⟩
            | false =>
            have HE : Hid (addAll ma (varsD (h.dirs.take (j + 1))) = ps ++ [h.dirs[j].v.t]) := by rw [Hid, HVN.out, add_one _ h4]; exact addV_no hh
            have HOA : Hid ((w1.alloc (.cells #[.string h.dirs[j].v.t] 9)).ownsRow w.heap.size 9 1 (.slice a0 ps.length c0) ps.length (stV ps)) := owns_keep HOI.out.1 fun g hg => (Below.heap_alloc _ _ _ (by have := HG.out g hg; omega)).trans (B1.out.block g (HG.out g hg).2)
            have HWA : Hid (∀ j' u, ([.string h.dirs[j].v.t] : List Value)[j']? = some u → (w1.alloc (.cells #[.string h.dirs[j].v.t] 9)).cell? ((⟨w1.heap.size, 0, none⟩ : Addr).add j') = some u) := World.news_of_block (heap_alloc_new _ _)
            go_wp2_with (first | (at_builtin; revert hps) | fail)
            intro hps
            refine wpList_append_lies _ rfl _ _ 26 rfl w.heap.size 9 i27 _ 1 16 Try.underlying26 hi27 hz27 hs27 hy27 rfl (by decide) (.slice a0 ps.length c0) ps.length (stV ps) rfl HOA.out ⟨w1.heap.size, 0, none⟩ 1 1 [.string h.dirs[j].v.t] (by simp [go_sem]) rfl HWA.out st_one (by decide) (by unfold maxLen; omega) (by omega) (by simp; omega) (w1.heap.size + 1) (by simp) ?_
            intro g cap w4 hown4 hgrow hat hlt4
            have Q4 : Hid (Below w.heap.size w w4) := ((HBI.out.trans (B1.out.mono (by omega))).alloc (by omega) _).grown hgrow (by simp; omega) (fun k hk => (HG.out k hk).1)
            have O4 : Hid (OutS (fun _ => False) w.heap.size w4 (.slice (some ⟨g, 0, none⟩) (ps.length + 1) cap) (ps ++ [h.dirs[j].v.t])) := OutS.snoc hown4 (fun h => h)
            clear hown4 hgrow hat hlt4 v1
            go_wp2_with fail
            exact ⟨⟨j + 1, by omega, by go_num, Q4, by rw [HE.out]; exact O4.out⟩, by simp [intOf]; omega⟩
          have HO : Hid (OutS (fun _ => False) w.heap.size wr u3 (addAll ms (varsH h))) := by have := HOI.out; rw [List.take_of_length_le (by omega)] at this; rw [HVH.out]; exact this
          have hlD := addAll_len (varsD h.dirs) ma
          have hvD := varsD_len h.dirs
          have hmh : (addAll ms (varsH h)).length ≤ ms.length + h.args.length + h.dirs.length := by rw [HVH.out]; omega
          generalize addAll ms (varsH h) = mh at *
          have q5 := D5.out _ HBI.out
          have HBV2 : Hid (Below w.heap.size w wr) := HBI.out
          obtain ⟨V, rfl⟩ : ∃ x, x = wr := ⟨_, rfl⟩
          clear HOI hlD hvD X6 R2
          go_wp2_with fail
          refine (IS.out a3 c3 _ (SelRow.up R3.out HBV2.out) e2 E3.out (by omega)).mono ?_
          rintro e w3 ⟨am, cm, rfl, hst3, hb3⟩
          have hlS := addAll_len (varsS sub) []
          have hvS := varsS_len sub
          have hms : (addAll [] (varsS sub)).length ≤ vwS sub := by simp only [List.length_nil] at hlS; omega
          have HVS : Hid (addAll mh (addAll [] (varsS sub)) = addAll mh (varsS sub)) := addAll_twice _ _
          have HVB : Hid (VsBd 1048576 (addAll [] (varsS sub)) → True) := fun _ => trivial
          have SM : Hid (StOwn V.heap.size w3.heap.size w3 am (addAll [] (varsS sub))) := hst3
          have z3 := hb3.size
          have B3 : Hid (Below V.heap.size V w3) := hb3
          have Q3 : Hid (Below w.heap.size w w3) := HBV2.out.trans (hb3.mono (by omega))
          generalize addAll [] (varsS sub) = mo at *
          have O3 : Hid (OutS (fun g => V.heap.size ≤ g ∧ g < w3.heap.size) w.heap.size w3 u3 mh) := ⟨(HO.out.keep hb3).1, fun g hg hp => by have := (World.ownsRow.lt HO.out.1 g hg).2; omega⟩
          clear hst3 hlS hvS hb3 HO
          go_wp2_with fail
          go_loopw [3, 10] (fun s i w' => ∃ (j : Nat), j ≤ mo.length ∧ i = .int .i64 j ∧ Hid (Below w.heap.size w w') ∧ w3.heap.size ≤ w'.heap.size ∧ Hid (∀ g, V.heap.size ≤ g → g < w3.heap.size → w'.heap[g]? = w3.heap[g]?) ∧ Hid (OutS (fun g => V.heap.size ≤ g ∧ g < w3.heap.size) w.heap.size w' s (addAll mh (mo.take j)))) (fun _ i _ => mo.length - (intOf i).toNat)
          case atStart => exact ⟨0, by omega, rfl, Q3, Nat.le_refl _, fun _ _ _ => rfl, O3⟩
          case round =>
            obtain ⟨j, hj, rfl, HBI, hzi, HAG, HOI⟩ := hrel
            have hbi := HBI.out.size
            by_cases hjt : j < mo.length
            case neg =>
              have HE : Hid (OutS (fun _ => False) w.heap.size wr u3 (addAll mh (varsS sub))) := by
                have h9 := HOI.out
                rw [List.take_of_length_le (by omega), HVS.out] at h9
                exact ⟨h9.1, fun _ _ h => h⟩
              have HL2 : Hid ((addAll mh (varsS sub)).length + vwS rest ≤ 2097152) := by
                have q1 := addAll_len (varsS sub) mh
                have q2 := varsS_len sub
                unfold Hid; omega
              have HV2 : Hid (addAll [] (varsS l) = addAll (addAll mh (varsS sub)) (varsS rest)) := by rw [Hid, HV0.out]; exact addAll_append _ _ _
              clear HOI
              go_wp2_with fail
              exact ⟨⟨k + 1, _, rest, HK2, by go_num, HBI, HZ2, E4, HF2, HE, HV2, HL2⟩, by simp [intOf]; omega⟩
            have SR : Hid (StRow 0 wr.heap.size wr am mo) := Row.wide (OwnR.row (OwnR.keep SM.out (fun g h1 h2 => HAG.out g h1 h2))) (Nat.zero_le _) (by omega)
            obtain ⟨b', o', ha', _, hbl', f0⟩ := StRow.cell SR.out j hjt
            subst ha'
            have hlb := addAll_len (mo.take j) mh
            rw [List.length_take] at hlb
            have hps : (addAll mh (mo.take j)).length ≤ 2097152 := by omega
            have HVN : Hid (addAll mh (mo.take (j + 1)) = addV (addAll mh (mo.take j)) mo[j]) := addAll_take hjt
            generalize addAll mh (mo.take j) = ps at *
            clear hlb
            obtain ⟨a0, c0, hs0, hst⟩ := StOwn.of HOI.out.1
            subst hs0
            have HS : Hid (StRow 0 wr.heap.size wr a0 ps) := Row.wide (OwnR.row hst) (Nat.zero_le _) (Nat.le_refl _)
            have HG : Hid (∀ g, (Value.slice a0 ps.length c0).ownBlock = some g → (w.heap.size ≤ g ∧ g < wr.heap.size) ∧ ¬ (V.heap.size ≤ g ∧ g < w3.heap.size)) := fun g hg => ⟨World.ownsRow.lt HOI.out.1 g hg, HOI.out.2 g hg⟩
            clear hst
            go_wp2_with fail
            refine (str_in a0 c0 ps mo[j] _ HS.out (by omega)).mono ?_
            rintro e w1 ⟨rfl, rfl⟩
            cases hh : hasS ps mo[j] with
            | true =>
              have HE : Hid (addAll mh (mo.take (j + 1)) = ps) := by rw [Hid, HVN.out]; exact addV_yes hh
              go_wp2_with fail
              exact ⟨⟨j + 1, by omega, by go_num, HBI, hzi, HAG, by rw [HE.out]; exact HOI.out⟩, by simp [intOf]; omega⟩
            | false =>
            have HE : Hid (addAll mh (mo.take (j + 1)) = ps ++ [mo[j]]) := by rw [Hid, HVN.out]; exact addV_no hh
            have HOA : Hid ((w1.alloc (.cells #[.string mo[j]] 9)).ownsRow w.heap.size 9 1 (.slice a0 ps.length c0) ps.length (stV ps)) := owns_keep HOI.out.1 fun g hg => Below.heap_alloc _ _ _ (HG.out g hg).1.2
            have HWA : Hid (∀ j' u, ([.string mo[j]] : List Value)[j']? = some u → (w1.alloc (.cells #[.string mo[j]] 9)).cell? ((⟨w1.heap.size, 0, none⟩ : Addr).add j') = some u) := World.news_of_block (heap_alloc_new _ _)
            go_wp2_with (first | (at_builtin; revert hps) | fail)
            intro hps
            refine wpList_append_lies _ rfl _ _ 26 rfl w.heap.size 9 i27 _ 1 16 Try.underlying26 hi27 hz27 hs27 hy27 rfl (by decide) (.slice a0 ps.length c0) ps.length (stV ps) rfl HOA.out ⟨w1.heap.size, 0, none⟩ 1 1 [.string mo[j]] (by simp [go_sem]) rfl HWA.out st_one (by decide) (by unfold maxLen; omega) (by omega) (by simp; omega) (w1.heap.size + 1) (by simp) ?_
            intro g cap w4 hown4 hgrow hat hlt4
            have Q4 : Hid (Below w.heap.size w w4) := (HBI.out.alloc (by omega) _).grown hgrow (by simp; omega) (fun k hk => (HG.out k hk).1.1)
            have O4 : Hid (OutS (fun g => V.heap.size ≤ g ∧ g < w3.heap.size) w.heap.size w4 (.slice (some ⟨g, 0, none⟩) (ps.length + 1) cap) (ps ++ [mo[j]])) := OutS.snoc hown4 (by
              rcases hat with h | h
              · exact (HG.out g h).2
              · omega)
            have A4 : Hid (∀ g, V.heap.size ≤ g → g < w3.heap.size → w4.heap[g]? = w3.heap[g]?) := fun g h1 h2 => ((hgrow.block g (by simp; omega) (fun e => (HG.out g e.symm).2 ⟨h1, h2⟩)).trans (Below.heap_alloc _ _ _ (by omega))).trans (HAG.out g h1 h2)
            have Z4 : w3.heap.size ≤ w4.heap.size := by have := hgrow.size; simp at this; omega
            clear hown4 hgrow hat hlt4 f0
            go_wp2_with fail
            exact ⟨⟨j + 1, by omega, by go_num, Q4, Z4, A4, by rw [HE.out]; exact O4.out⟩, by simp [intOf]; omega⟩
end Go.Proofs.Ytdamienfcfojiaa
