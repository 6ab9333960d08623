/- Names looked for in a list; the program's use of a variable. -/
import Derived.Test.YtdamienfcfojiaaDocVars
import Derived.Test.YtdamienfcfojiaaShelf
import Derived.Deep.RegionWith
import Derived.Deep.AppendLies
import Derived.Deep.RegionLaw
namespace Go.Proofs.Ytdamienfcfojiaa
open Go.ChangeShapes Go.WideShapes Go.ChangeAt Go.RowKit
set_option linter.unusedVariables false

theorem hasS_take {ns : List ByteArray} {s : ByteArray} {k : Nat} (hk : k < ns.length) : hasS (ns.take (k + 1)) s = (hasS (ns.take k) s || (ns[k].toList == s.toList)) := by
  unfold hasS; rw [List.take_succ_eq_append_getElem hk, List.any_append]; simp
theorem hasS_of {ns : List ByteArray} {s : ByteArray} {k : Nat} (hk : k < ns.length) (h : (ns[k].toList == s.toList) = true) : hasS ns s = true := by
  unfold hasS
  rw [List.any_eq_true]
  exact ⟨ns[k], List.getElem_mem hk, h⟩
theorem beq_swap {a b : List UInt8} : (a == b) = (b == a) := by
  rw [Bool.eq_iff_iff, beq_iff_eq, beq_iff_eq]; exact ⟨Eq.symm, Eq.symm⟩

set_option maxHeartbeats 1000000 in
theorem str_index (a : Option Addr) (c : Nat) (ns : List ByteArray) (s : ByteArray) (w : World) (hr : StRow 0 w.heap.size w a ns) (hl : ns.length ≤ 4194304) :
    Calls Try.prog 34 #[.slice a ns.length c, .string s] w fun e w' => (∃ r : Int, e = .returned (.int .i64 r) ∧ decide (0 ≤ r) = hasS ns s) ∧ w' = w := by
  have HR : Hid (StRow 0 w.heap.size w a ns) := hr
  clear hr
  go_enter Try.func34, Try.ntmps34
  go_wp2_with fail
  go_loopw [8] (fun i w' => ∃ (k : Nat), k ≤ ns.length ∧ i = .int .i64 k ∧ w' = w ∧ Hid (hasS (ns.take k) s = false)) (fun i _ => ns.length - (intOf i).toNat)
  case atStart => exact ⟨0, by omega, rfl, rfl, rfl⟩
  case round =>
    obtain ⟨k, hk, rfl, rfl, HA⟩ := hrel
    by_cases hlt : k < ns.length
    case neg =>
      have HN : Hid (hasS ns s = false) := by have := HA.out; rwa [List.take_of_length_le (by omega)] at this
      go_wp2_with fail
      go_ret
      exact ⟨⟨-1, rfl, by rw [HN.out]; rfl⟩, rfl⟩
    obtain ⟨b, o, ha, _, hbl, d0⟩ := StRow.cell HR.out k hlt
    subst ha
    cases he : (s.toList == ns[k].toList) with
    | false =>
      have HN : Hid (hasS (ns.take (k + 1)) s = false) := by rw [Hid, hasS_take hlt, HA.out, beq_swap, he]; rfl
      go_wp2_with fail
      exact ⟨⟨k + 1, by omega, by go_num, (by first | exact rfl | exact trivial), HN⟩, by simp [intOf]; omega⟩
    | true =>
      have HN : Hid (hasS ns s = true) := hasS_of hlt (by rw [beq_swap]; exact he)
      go_wp2_with fail
      go_ret
      exact ⟨⟨k, rfl, by rw [HN.out]; simp⟩, rfl⟩
set_option maxHeartbeats 1000000 in
theorem str_contains (a : Option Addr) (c : Nat) (ns : List ByteArray) (s : ByteArray) (w : World) (hr : StRow 0 w.heap.size w a ns) (hl : ns.length ≤ 4194304) :
    Calls Try.prog 20 #[.slice a ns.length c, .string s] w fun e w' => e = .returned (.bool (hasS ns s)) ∧ w' = w := by
  go_enter Try.func20, Try.ntmps20
  go_wp2_with fail
  refine (str_index a c ns s _ hr hl).mono ?_
  rintro e w1 ⟨⟨r, rfl, hh⟩, rfl⟩
  have HH : Hid _ := hh
  clear hh hr
  go_wp2_with fail
  go_ret
  exact ⟨ret_bool HH.out, rfl⟩
set_option maxHeartbeats 1000000 in
theorem str_in (a : Option Addr) (c : Nat) (ns : List ByteArray) (s : ByteArray) (w : World) (hr : StRow 0 w.heap.size w a ns) (hl : ns.length ≤ 4194304) :
    Calls Try.prog 16 #[.slice a ns.length c, .string s] w fun e w' => e = .returned (.bool (hasS ns s)) ∧ w' = w := by
  have HR : Hid (StRow 0 w.heap.size w a ns) := hr
  clear hr
  go_enter Try.func16, Try.ntmps16
  go_wp2_with fail
  go_loopw [5] (fun i w' => ∃ (k : Nat), k ≤ ns.length ∧ i = .int .i64 k ∧ w' = w ∧ Hid (hasS (ns.take k) s = false)) (fun i _ => ns.length - (intOf i).toNat)
  case atStart => exact ⟨0, by omega, rfl, rfl, rfl⟩
  case round =>
    obtain ⟨k, hk, rfl, rfl, HA⟩ := hrel
    by_cases hlt : k < ns.length
    case neg =>
      have HN : Hid (hasS ns s = false) := by have := HA.out; rwa [List.take_of_length_le (by omega)] at this
      go_wp2_with fail
      go_ret
      exact ⟨ret_bool HN.out.symm, rfl⟩
    obtain ⟨b, o, ha, _, hbl, d0⟩ := StRow.cell HR.out k hlt
    subst ha
    cases he : (ns[k].toList == s.toList) with
    | false =>
      have HN : Hid (hasS (ns.take (k + 1)) s = false) := by rw [Hid, hasS_take hlt, HA.out, he]; rfl
      go_wp2_with fail
      exact ⟨⟨k + 1, by omega, by go_num, (by first | exact rfl | exact trivial), HN⟩, by simp [intOf]; omega⟩
    | true =>
      have HN : Hid (hasS ns s = true) := hasS_of hlt he
      go_wp2_with fail
      go_ret
      exact ⟨ret_bool HN.out.symm, rfl⟩

theorem clone_str (s : ByteArray) (w : World) (hs : s.size ≤ 1048576) :
    Calls Try.prog 21 #[.string s] w fun e w' => e = .returned (.string s) ∧ Below w.heap.size w w' := by
  go_enter Try.func21, Try.ntmps21
  go_wp2_with fail
  refine (Try.stringslite_Clone s _ (by omega)).mono ?_
  rintro e w1 ⟨rfl, hb⟩
  go_wp2_with fail
  go_ret
  exact ⟨rfl, hb⟩
set_option maxRecDepth 100000 in
theorem info_str : ∃ i, Try.prog.info? 9 = some i ∧ i.zero = some (.string ⟨#[]⟩) ∧ i.size = 1 ∧ i.bytes = 16 := by
  refine ⟨_, rfl, ?_, ?_, ?_⟩ <;> kernel_rfl
/-- The program's list of names so far: in a variable's block, the names in a block that is not among the kept ones. -/
def Names (Pr : Nat → Prop) (Bn : Nat) (w : World) (ns : List ByteArray) : Prop := ∃ v, w.heap[Bn]? = some (.cells #[v] 26 (0, 0)) ∧ w.ownsRow 0 9 1 v ns.length (stV ns) ∧ ∀ g, v.ownBlock = some g → ¬ Pr g
theorem owns_keep {w w' : World} {base : Nat} {e : TypeId} {size : Nat} {v : Value} {n : Nat} {xs : List Value} (h : w.ownsRow base e size v n xs) (hs : ∀ g, v.ownBlock = some g → w'.heap[g]? = w.heap[g]?) : w'.ownsRow base e size v n xs := by
  refine ⟨h.1, ?_⟩
  rcases h.2 with h0 | ⟨g, cap, cur, rfl, q1, q2, q3⟩
  · exact .inl h0
  · exact .inr ⟨g, cap, cur, rfl, q1, (hs g rfl).trans q2, q3⟩
theorem Names.keep {Pr : Nat → Prop} {Bn : Nat} {w w' : World} {ns : List ByteArray} (h : Names Pr Bn w ns) (hb : Below w.heap.size w w') : Names Pr Bn w' ns := by
  obtain ⟨v, h1, h2, h3⟩ := h
  exact ⟨v, (hb.block _ (Array.getElem?_eq_some_iff.1 h1).1).trans h1, owns_keep h2 fun g hg => hb.block g (World.ownsRow.lt h2 g hg).2, h3⟩
theorem Names.ext {Pr : Nat → Prop} {Bn : Nat} {w : World} {ns : List ByteArray} (h : Names Pr Bn w ns) {n : Nat} (hn : w.heap.size ≤ n) : Names (fun g => Pr g ∨ g = n) Bn w ns := by
  obtain ⟨v, h1, h2, h3⟩ := h
  refine ⟨v, h1, h2, fun g hg hp => ?_⟩
  rcases hp with hp | hp
  · exact h3 g hg hp
  · have := (World.ownsRow.lt h2 g hg).2; omega
theorem Names.less {Pr Pr' : Nat → Prop} {Bn : Nat} {w : World} {ns : List ByteArray} (h : Names Pr' Bn w ns) (hl : ∀ g, Pr g → Pr' g) : Names Pr Bn w ns := by
  obtain ⟨v, h1, h2, h3⟩ := h
  exact ⟨v, h1, h2, fun g hg hp => h3 g hg (hl g hp)⟩
/-- What a call that adds names leaves. -/
structure KeptP (Pr : Nat → Prop) (Bn : Nat) (w w' : World) : Prop where
  os : w'.os = w.os
  tape : w'.tape = w.tape
  output : w'.output = w.output
  size : w.heap.size ≤ w'.heap.size
  block : ∀ g, Pr g → g ≠ Bn → w'.heap[g]? = w.heap[g]?
theorem KeptP.of {Pr : Nat → Prop} {Bn : Nat} {w w' : World} (h : Below w.heap.size w w') (hP : ∀ g, Pr g → g < w.heap.size) : KeptP Pr Bn w w' := ⟨h.os, h.tape, h.output, h.size, fun g hg _ => h.block g (hP g hg)⟩
theorem KeptP.refl (Pr : Nat → Prop) (Bn : Nat) (w : World) : KeptP Pr Bn w w := ⟨rfl, rfl, rfl, Nat.le_refl _, fun _ _ _ => rfl⟩
theorem KeptP.trans {Pr : Nat → Prop} {Bn : Nat} {a b c : World} (h : KeptP Pr Bn a b) (k : KeptP Pr Bn b c) : KeptP Pr Bn a c := ⟨k.os.trans h.os, k.tape.trans h.tape, k.output.trans h.output, Nat.le_trans h.size k.size, fun g hg hn => (k.block g hg hn).trans (h.block g hg hn)⟩
theorem KeptP.less {Pr Pr' : Nat → Prop} {Bn : Nat} {w w' : World} (h : KeptP Pr' Bn w w') (hl : ∀ g, Pr g → Pr' g) : KeptP Pr Bn w w' := ⟨h.os, h.tape, h.output, h.size, fun g hg hn => h.block g (hl g hg) hn⟩
theorem KeptP.below {Pr : Nat → Prop} {Bn B : Nat} {w w' : World} (h : KeptP Pr Bn w w') (hl : ∀ g, g < B → Pr g) (hB : B ≤ Bn) : Below B w w' := ⟨h.os, h.tape, h.output, h.size, fun g hg => h.block g (hl g hg) (by omega)⟩
theorem add_none (ns : List ByteArray) {v : Va} (h : (v.k == 4) = false) : addAll ns (vaVar v) = ns := by unfold vaVar; rw [h]; rfl
theorem add_one (ns : List ByteArray) {v : Va} (h : (v.k == 4) = true) : addAll ns (vaVar v) = addV ns v.t := by unfold vaVar; rw [h]; rfl
theorem Names.added {Pr : Nat → Prop} {Bn : Nat} {w4 : World} {ns : List ByteArray} {t : ByteArray} {g cap : Nat} {x : Value} (h4 : w4.heap[Bn]? = some (.cells #[x] 26 (0, 0))) (hown : w4.ownsRow 0 9 1 (.slice (some ⟨g, 0, none⟩) (ns.length + 1) cap) (ns.length + 1) (stV ns ++ [.string t])) (hBn : Pr Bn) (hg : ¬ Pr g) :
    Names Pr Bn (w4.setCell ⟨Bn, 0, none⟩ (.slice (some ⟨g, 0, none⟩) (ns.length + 1) cap)) (ns ++ [t]) := by
  refine ⟨.slice (some ⟨g, 0, none⟩) (ns.length + 1) cap, ?_, ?_, fun k hk => ?_⟩
  · have := row_set h4 0 (.slice (some ⟨g, 0, none⟩) (ns.length + 1) cap)
    simpa using this
  · have e1 : (ns ++ [t]).length = ns.length + 1 := by simp
    have e2 : stV (ns ++ [t]) = stV ns ++ [.string t] := by simp [stV]
    rw [e1, e2]
    refine owns_keep hown fun k hk => heap_set _ _ _ _ _ ?_
    simp only [Value.ownBlock, Option.some.injEq] at hk
    rintro rfl
    exact hg (hk ▸ hBn)
  · simp only [Value.ownBlock, Option.some.injEq] at hk
    rw [← hk]; exact hg
set_option maxHeartbeats 4000000 in
set_option maxRecDepth 40000 in
theorem use_any (Pr : Nat → Prop) (v : Va) (Bn : Nat) (ns : List ByteArray) (w : World) (h : Names Pr Bn w ns) (hP : ∀ g, Pr g → g < w.heap.size) (hBn : Pr Bn) (hs : v.t.size ≤ 1048576) (hn : ns.length ≤ 2097152) :
    Calls Try.prog 19 #[.agg #[.int .i64 v.k, .int .i64 v.n, .string v.t], .pointer (some ⟨Bn, 0, none⟩)] w fun e w' => e = .returned (.tuple #[]) ∧ Names Pr Bn w' (addAll ns (vaVar v)) ∧ KeptP Pr Bn w w' := by
  have HN : Hid (Names Pr Bn w ns) := h
  have HP : Hid (∀ g, Pr g → g < w.heap.size) := hP
  have HBn : Hid (Pr Bn) := hBn
  have hB : Bn < w.heap.size := hP _ hBn
  clear h hP hBn
  cases h4 : (v.k == 4) with
  | false =>
    have HE : Hid (addAll ns (vaVar v) = ns) := add_none ns h4
    go_enter Try.func19, Try.ntmps19
    go_wp2_with fail
    go_end0
    exact ⟨rfl, by rw [HE.out]; exact HN.out.keep ((Below.refl _ _).alloc (Nat.le_refl _) _), KeptP.of ((Below.refl _ _).alloc (Nat.le_refl _) _) HP.out⟩
  | true =>
  obtain ⟨v0, hv0, hown, hnp⟩ := HN.out
  obtain ⟨a0, c0, rfl, hst⟩ := StOwn.of hown
  have HO : Hid (w.ownsRow 0 9 1 (.slice a0 ns.length c0) ns.length (stV ns)) := hown
  have HV : Hid (w.heap[Bn]? = some (.cells #[.slice a0 ns.length c0] 26 (0, 0))) := hv0
  have HS : Hid (StRow 0 w.heap.size w a0 ns) := OwnR.row hst
  have HG : Hid (∀ g, (Value.slice a0 ns.length c0).ownBlock = some g → ¬ Pr g ∧ g < w.heap.size) := fun g hg => ⟨hnp g hg, (World.ownsRow.lt hown g hg).2⟩
  clear hv0 hown hst hnp
  go_enter Try.func19, Try.ntmps19
  have cB := fun ob o => (((Below.refl w.heap.size w).alloc (Nat.le_refl _) ob).cell (p := ⟨Bn, o, none⟩) (show Bn < w.heap.size by omega)).trans (row_cell HV.out o)
  go_wp2_with fail
  obtain ⟨wa, hwa⟩ : ∃ W, W = w.alloc (.cells #[.int .i64 v.k, .int .i64 v.n, .string v.t] 47) := ⟨_, rfl⟩
  rw [← hwa]
  have za : wa.heap.size = w.heap.size + 1 := by rw [hwa]; simp
  have ba : Below w.heap.size w wa := by rw [hwa]; exact (Below.refl _ _).alloc (Nat.le_refl _) _
  have va : wa.cell? ⟨w.heap.size, 2, none⟩ = some (.string v.t) := by rw [hwa]; exact row_cell (heap_alloc_new _ _) 2
  have HVa : Hid (wa.heap[Bn]? = some (.cells #[.slice a0 ns.length c0] 26 (0, 0))) := (ba.block _ (by omega)).trans HV.out
  have HOa : Hid (wa.ownsRow 0 9 1 (.slice a0 ns.length c0) ns.length (stV ns)) := owns_keep HO.out fun g hg => ba.block g (HG.out g hg).2
  have Ba : Hid _ := ba
  clear hwa ba cB
  refine (str_contains a0 c0 ns v.t _ (Row.up HS.out Ba.out) (by omega)).mono ?_
  rintro e w1 ⟨rfl, rfl⟩
  have cBn := row_cell HVa.out 0
  have fBn := row_frozen HVa.out 0
  cases hh : hasS ns v.t with
  | true =>
    have HE : Hid (addAll ns (vaVar v) = ns) := by rw [Hid, add_one ns h4]; unfold addV; rw [if_pos hh]
    go_wp2_with fail
    go_end0
    exact ⟨rfl, by rw [HE.out]; exact HN.out.keep Ba.out, KeptP.of Ba.out HP.out⟩
  | false =>
    have HE : Hid (addAll ns (vaVar v) = ns ++ [v.t]) := by rw [Hid, add_one ns h4]; unfold addV; rw [if_neg (by rw [hh]; simp)]
    obtain ⟨i27, hi27, hz27, hs27, hy27⟩ := info_str
    go_wp2_with fail
    have hz0 : w.heap.size < w1.heap.size := by omega
    go_region_law (first
      | (refine step_append_lies _ rfl (.tmp 13) (.tmp 17) 26 rfl 0 9 i27 _ 1 16 Try.underlying26 hi27 hz27 hs27 hy27 rfl (by decide) (.slice a0 ns.length c0) ns.length (stV ns) (by simp [Act.eval]) (HO2.out _) ⟨w2.heap.size, 0, none⟩ 1 1 [.string v.t] (by simp [Act.eval]) rfl (HW2.out) (by simp [Value.oneCell']) (by decide) (by unfold maxLen; omega) (by omega) (Nat.zero_le _) (w2.heap.size + 1) (by simp) ?_
         intro g cap w4 hown4 hgrow hat hlt4
         have H4 : Hid (w4.heap[Bn]? = some (.cells #[.slice a0 ns.length c0] 26 (0, 0))) := (hgrow.block Bn (by simp; omega) (fun e => (HG.out Bn e.symm).1 HBn.out)).trans ((Below.heap_alloc _ _ _ (by omega)).trans V2.out)
         have c4 := row_cell H4.out 0
         have f4 := row_frozen H4.out 0
         have O4 : Hid _ := hown4
         have G4 : Hid (¬ Pr g) := by
           rcases hat with h | h
           · exact (HG.out g h).1
           · intro hp; have := HP.out g hp; omega
         have K4 : Hid (KeptP Pr Bn w w4) := ⟨hgrow.os.trans (Q2.out.os.trans Ba.out.os), hgrow.tape.trans (Q2.out.tape.trans Ba.out.tape), hgrow.output.trans (Q2.out.output.trans Ba.out.output), by have := hgrow.size; simp at this; omega, fun k hk hne => (hgrow.block k (by have := HP.out k hk; simp; omega) (fun e => (HG.out k e.symm).1 hk)).trans ((Below.heap_alloc _ _ _ (by have := HP.out k hk; omega)).trans ((Q2.out.block _ (by have := HP.out k hk; omega)).trans (Ba.out.block _ (HP.out k hk))))⟩
         clear hown4 hgrow hat hlt4)
      | (go_simp
         go_wp2_with (
           (go_at_call 21
            refine (clone_str _ _ hs).mono ?_
            rintro e w2 ⟨rfl, hb2⟩
            have z2 : w1.heap.size ≤ w2.heap.size := hb2.size
            have Q2 : Hid (Below w1.heap.size w1 w2) := (Below.refl _ _).drew.trans hb2
            have V2 : Hid (w2.heap[Bn]? = some (.cells #[.slice a0 ns.length c0] 26 (0, 0))) := (Q2.out.block _ (by omega)).trans HVa.out
            have c2 := row_cell V2.out 0
            have cA2 := fun ob o => (((Below.refl w2.heap.size w2).alloc (Nat.le_refl _) ob).cell (p := ⟨Bn, o, none⟩) (show Bn < w2.heap.size by omega)).trans (row_cell V2.out o)
            have HO2 : Hid (∀ ob, (w2.alloc ob).ownsRow 0 9 1 (.slice a0 ns.length c0) ns.length (stV ns)) := fun ob => owns_keep HOa.out fun g hg => (Below.heap_alloc _ _ _ (by have := HG.out g hg; omega)).trans (Q2.out.block g (by have := HG.out g hg; omega))
            have HW2 : Hid (∀ j u, ([.string v.t] : List Value)[j]? = some u → (w2.alloc (.cells #[.string v.t] 9)).cell? ((⟨w2.heap.size, 0, none⟩ : Addr).add j) = some u) := World.news_of_block (heap_alloc_new _ _)
            clear hb2))))
    all_goals (try go_wp2_with fail)
    all_goals go_end0
    all_goals exact ⟨rfl, by rw [HE.out]; exact Names.added H4.out O4.out HBn.out G4.out, K4.out.os, K4.out.tape, K4.out.output, by simpa using K4.out.size, fun k hk hne => (heap_set _ _ _ _ _ hne).trans (K4.out.block k hk hne)⟩
end Go.Proofs.Ytdamienfcfojiaa
