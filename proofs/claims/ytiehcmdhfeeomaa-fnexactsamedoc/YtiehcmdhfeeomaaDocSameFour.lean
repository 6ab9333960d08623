/- The program's holding of definitions and of documents against each other. -/
import Derived.Test.YtiehcmdhfeeomaaDocSameThree
import Derived.Test.YtiehcmdhfeeomaaDocSpecOK
namespace Go.Proofs.Ytiehcmdhfeeomaa
open Go.ChangeShapes Go.WideShapes Go.ChangeAt Go.RowKit
set_option linter.unusedVariables false

theorem De.eq {x y : De} (h1 : x.k = y.k) (h2 : x.nm = y.nm) (h3 : x.on = y.on) (h4 : x.sels = y.sels) : x = y := by
  cases x; cases y; simp_all
theorem sizeL_mem {l : List De} {x : De} (h : x ∈ l) : x.sels.size ≤ sizeL l := by
  obtain ⟨k, hk, rfl⟩ := List.getElem_of_mem h
  have h1 := sizeL_take hk
  have h2 := sizeL_le l (k + 1)
  omega
theorem doc_all {l : List De} (h : docB l = true) : l.length ≤ 6 ∧ ∀ x ∈ l, DeGood x ∧ x.sels.size ≤ 60 := by
  unfold docB at h
  simp only [Bool.and_eq_true, decide_eq_true_eq, List.all_eq_true] at h
  refine ⟨h.1.1.2, fun x hx => ⟨def_good (h.1.2 x hx), ?_⟩⟩
  have := sizeL_mem hx
  omega
theorem same_sets {x y : De} (g : DeGood x ∧ x.sels.size ≤ 60) (g' : DeGood y ∧ y.sels.size ≤ 60) : Same_set x.sels y.sels := set_of_fun (same_fun x.sels y.sels 7 7 g.1.ok g'.1.ok g.2 g'.2)

set_option maxHeartbeats 2000000 in
set_option maxRecDepth 40000 in
theorem same_def (x y : De) (a3 b3 : Option Addr) (c3 d3 : Nat) (w : World) (r3 : SelRow 0 w.heap.size w a3 x.sels) (s3 : SelRow 0 w.heap.size w b3 y.sels) (IS : Same_set x.sels y.sels) :
    Calls Try.prog 45 #[.agg #[.int .i64 x.k, .string x.nm, .string x.on, .slice a3 x.sels.len c3], .agg #[.int .i64 y.k, .string y.nm, .string y.on, .slice b3 y.sels.len d3]] w fun e w' => Says (x = y) e ∧ Below w.heap.size w w' := by
  have B0 : Hid (Below w.heap.size w ((w.alloc (.cells #[.int .i64 x.k, .string x.nm, .string x.on, .slice a3 x.sels.len c3] 71)).alloc (.cells #[.int .i64 y.k, .string y.nm, .string y.on, .slice b3 y.sels.len d3] 71))) := ((Below.refl _ _).alloc (Nat.le_refl _) _).alloc (by simp) _
  have K3 : Hid (∀ W0, Below w.heap.size w W0 → SelRow 0 W0.heap.size W0 a3 x.sels ∧ SelRow 0 W0.heap.size W0 b3 y.sels) := fun W0 hB => ⟨SelRow.up r3 hB, SelRow.up s3 hB⟩
  have IT : Hid (Same_set x.sels y.sels) := IS
  clear r3 s3 IS
  cases h1 : (x.k == y.k)
  · have HN : Hid (¬ x = y) := fun h => by rw [h] at h1; simp at h1
    go_enter Try.func45, Try.ntmps45
    go_wp2_with fail
    go_ret
    exact ⟨Says.no HN.out, B0.out⟩
  cases h2 : (x.nm.toList == y.nm.toList)
  · have HN : Hid (¬ x = y) := fun h => str_ne h2 (congrArg _ h)
    go_enter Try.func45, Try.ntmps45
    go_wp2_with fail
    go_ret
    exact ⟨Says.no HN.out, B0.out⟩
  cases h3 : (x.on.toList == y.on.toList)
  · have HN : Hid (¬ x = y) := fun h => str_ne h3 (congrArg _ h)
    go_enter Try.func45, Try.ntmps45
    go_wp2_with fail
    go_ret
    exact ⟨Says.no HN.out, B0.out⟩
  have E1 : Hid (x.k = y.k) := by unfold Hid; simpa using h1
  have E2 : Hid (x.nm = y.nm) := str_eq h2
  have E3 : Hid (x.on = y.on) := str_eq h3
  go_enter Try.func45, Try.ntmps45
  go_wp2_with fail
  refine (IT.out a3 b3 c3 d3 _ (K3.out _ B0.out).1 (K3.out _ B0.out).2).mono ?_
  rintro e w1 ⟨⟨bb, rfl, ⟨rfl, hf⟩ | ⟨rfl, hf⟩⟩, hb1⟩
  · have HN : Hid (x = y) := De.eq E1.out E2.out E3.out hf
    have Q1 : Hid (Below w.heap.size w w1) := B0.out.trans (hb1.mono (by simp <;> omega))
    clear hb1 hf
    go_wp2_with fail
    go_ret
    exact ⟨Says.yes HN.out, Q1.out⟩
  · have HN : Hid (¬ x = y) := fun h => hf (congrArg _ h)
    have Q1 : Hid (Below w.heap.size w w1) := B0.out.trans (hb1.mono (by simp <;> omega))
    clear hb1 hf
    go_wp2_with fail
    go_ret
    exact ⟨Says.no HN.out, Q1.out⟩
set_option maxHeartbeats 2000000 in
set_option maxRecDepth 40000 in
theorem same_defs (a a' : Option Addr) (c c' : Nat) (l l' : List De) (w : World) (hr : DeRow 0 w.heap.size w a l) (hr' : DeRow 0 w.heap.size w a' l') (hl : l.length ≤ 1048576) (hl' : l'.length ≤ 1048576) (hg : ∀ x ∈ l, DeGood x ∧ x.sels.size ≤ 60) (hg' : ∀ x ∈ l', DeGood x ∧ x.sels.size ≤ 60) :
    Calls Try.prog 44 #[.slice a l.length c, .slice a' l'.length c', .func (.func 45) #[] #[]] w fun e w' => Says (l = l') e ∧ Below w.heap.size w w' := by
  by_cases hll : l.length = l'.length
  case neg =>
    have HN : Hid (¬ l = l') := fun h => hll (congrArg _ h)
    have h1 : ((l.length : Int) == (l'.length : Int)) = false := by rw [beq_eq_false_iff_ne]; omega
    have h2 : ((l.length : Int) != (l'.length : Int)) = true := by rw [bne, h1]; rfl
    go_enter Try.func44, Try.ntmps44
    go_wp2_with fail
    go_ret
    exact ⟨Says.no HN.out, Below.refl _ _⟩
  have HR : Hid (DeRow 0 w.heap.size w a l) := hr
  have HR' : Hid (DeRow 0 w.heap.size w a' l') := hr'
  have HT : Hid (∀ x ∈ l, DeGood x ∧ x.sels.size ≤ 60) := hg
  have HT' : Hid (∀ x ∈ l', DeGood x ∧ x.sels.size ≤ 60) := hg'
  have HLL : Hid (l.length = l'.length) := hll
  clear hr hr' hll hg hg'
  rw [← HLL.out]
  go_enter Try.func44, Try.ntmps44
  go_wp2_with fail
  go_loopw [17] (fun i w' => ∃ (k : Nat), k ≤ l.length ∧ i = .int .i64 k ∧ Below w.heap.size w w' ∧ Hid (l.take k = l'.take k)) (fun i _ => l.length - (intOf i).toNat)
  case atStart => exact ⟨0, by omega, rfl, Below.refl _ _, rfl⟩
  case round =>
    rename_i wr
    obtain ⟨w0, rfl⟩ : ∃ x, x = wr := ⟨_, rfl⟩
    obtain ⟨k, hk, rfl, hb, HA⟩ := hrel
    by_cases hlt : k < l.length
    · have hlt2 : k < l'.length := by have := HLL.out; omega
      have hlt3 : (k : Int) < l.length := by omega
      obtain ⟨b, o, a5, c5, ha, _, hbl, d0, d1, d2, d3, r3⟩ := DeRow.cells (DeRow.keep HR.out (Below.agree hb (Nat.le_refl _))) k hlt
      obtain ⟨b', o', a6, c6, ha', _, hbl', f0, f1, f2, f3, s3⟩ := DeRow.cells (DeRow.keep HR'.out (Below.agree hb (Nat.le_refl _))) k hlt2
      subst ha
      subst ha'
      have hbz := hb.size
      have hb0 : b < w0.heap.size := by omega
      have hb0' : b' < w0.heap.size := by omega
      have IS : Hid (Same_set l[k].sels l'[k].sels) := same_sets (HT.out _ (List.getElem_mem hlt)) (HT'.out _ (List.getElem_mem hlt2))
      have K3 : Hid (∀ W0, Below w0.heap.size w0 W0 → SelRow 0 W0.heap.size W0 a5 l[k].sels ∧ SelRow 0 W0.heap.size W0 a6 l'[k].sels) := fun W0 hB => ⟨SelRow.up (SelRow.wide r3 (Nat.le_refl _) hbz) hB, SelRow.up (SelRow.wide s3 (Nat.le_refl _) hbz) hB⟩
      clear r3 s3
      go_wp2_with fail
      refine Calls.mono (same_def l[k] l'[k] a5 a6 c5 c6 _ (K3.out _ ?b0).1 (K3.out _ ?b0).2 IS.out) ?_
      case b0 => repeat (first | exact Below.refl _ _ | refine Below.setCell ?_ (by first | omega | (simp <;> omega)) _ | refine Below.alloc ?_ (by first | omega | (simp <;> omega)) _)
      rintro e w1 ⟨⟨bb, rfl, ⟨rfl, hf⟩ | ⟨rfl, hf⟩⟩, hb1⟩
      · have q1 : Hid (Below w.heap.size w w1) := by
          refine hb.trans (Below.trans ?_ (hb1.mono (by first | omega | (simp <;> omega))))
          repeat (first | exact Below.refl _ _ | refine Below.setCell ?_ (by first | omega | (simp <;> omega)) _ | refine Below.alloc ?_ (by first | omega | (simp <;> omega)) _)
        have HN : Hid (l.take (k + 1) = l'.take (k + 1)) := take_eq HA.out hlt hlt2 hf
        clear hb1 hf
        go_wp2_with fail
        go_roundw
        case rel => exact ⟨k + 1, by omega, by go_num, q1.out, HN⟩
        case measure => simp [intOf]; omega
      · have q1 : Hid (Below w.heap.size w w1) := by
          refine hb.trans (Below.trans ?_ (hb1.mono (by first | omega | (simp <;> omega))))
          repeat (first | exact Below.refl _ _ | refine Below.setCell ?_ (by first | omega | (simp <;> omega)) _ | refine Below.alloc ?_ (by first | omega | (simp <;> omega)) _)
        have HN : Hid (¬ l = l') := take_ne hlt hlt2 hf
        clear hb1 hf
        go_wp2_with fail
        go_ret
        exact ⟨Says.no HN.out, q1.out⟩
    · have HN : Hid (l = l') := by
        have h1 := HA.out
        have h2 := HLL.out
        rw [List.take_of_length_le (by omega), List.take_of_length_le (by omega)] at h1
        exact h1
      go_wp2_with fail
      go_ret
      exact ⟨Says.yes HN.out, hb⟩

set_option maxHeartbeats 2000000 in
set_option maxRecDepth 40000 in
theorem impl_sameD (a a' : Option Addr) (c c' : Nat) (l l' : List De) (w : World) (hr : DeRow 0 w.heap.size w a l) (hr' : DeRow 0 w.heap.size w a' l') (hb : DefsBd 1048576 l) (hb' : DefsBd 1048576 l') (h1 : docB l = true) (h2 : docB l' = true) :
    Calls Try.prog 25 #[.agg #[.slice a l.length c], .agg #[.slice a' l'.length c']] w fun e w' => Says (l = l') e ∧ Below w.heap.size w w' := by
  have B0 : Hid (Below w.heap.size w ((w.alloc (.cells #[.slice a l.length c] 29)).alloc (.cells #[.slice a' l'.length c'] 29))) := ((Below.refl _ _).alloc (Nat.le_refl _) _).alloc (by simp) _
  have K3 : Hid (∀ W0, Below w.heap.size w W0 → DeRow 0 W0.heap.size W0 a l ∧ DeRow 0 W0.heap.size W0 a' l') := fun W0 hB => ⟨DeRow.up hr hB, DeRow.up hr' hB⟩
  have HX : Hid (DefsBd 1048576 l) := hb
  have HY : Hid (DefsBd 1048576 l') := hb'
  have H1 : Hid (docB l = true) := h1
  have H2 : Hid (docB l' = true) := h2
  clear hr hr' hb hb' h1 h2
  go_enter Try.func25, Try.ntmps25
  go_wp2_with fail
  refine (same_defs a a' c c' l l' _ (K3.out _ B0.out).1 (K3.out _ B0.out).2 HX.out.1 HY.out.1 (doc_all H1.out).2 (doc_all H2.out).2).mono ?_
  rintro e w3 ⟨⟨bb, rfl, hf⟩, hb3⟩
  have HF : Hid (Bl (l = l') bb) := hf
  have Q3 : Hid (Below w.heap.size w w3) := B0.out.trans (hb3.mono B0.out.size)
  clear hb3 hf
  go_wp2_with fail
  go_ret
  exact ⟨⟨bb, rfl, HF.out⟩, Q3.out⟩
/-- Both are right, and alike. -/
def BothSame (l l' : List De) : Prop := docB l = true ∧ docB l' = true ∧ l = l'
set_option maxHeartbeats 2000000 in
set_option maxRecDepth 40000 in
theorem impl_same (a a' : Option Addr) (c c' : Nat) (l l' : List De) (w : World) (hr : DeRow 0 w.heap.size w a l) (hr' : DeRow 0 w.heap.size w a' l') (hb : DefsBd 1048576 l) (hb' : DefsBd 1048576 l') :
    Calls Try.prog 9 #[.agg #[.slice a l.length c], .agg #[.slice a' l'.length c']] w fun e w' => Says (BothSame l l') e ∧ Below w.heap.size w w' := by
  have B0 : Hid (Below w.heap.size w ((w.alloc (.cells #[.slice a l.length c] 29)).alloc (.cells #[.slice a' l'.length c'] 29))) := ((Below.refl _ _).alloc (Nat.le_refl _) _).alloc (by simp) _
  have K3 : Hid (∀ W0, Below w.heap.size w W0 → DeRow 0 W0.heap.size W0 a l ∧ DeRow 0 W0.heap.size W0 a' l') := fun W0 hB => ⟨DeRow.up hr hB, DeRow.up hr' hB⟩
  have HX : Hid (DefsBd 1048576 l) := hb
  have HY : Hid (DefsBd 1048576 l') := hb'
  clear hr hr' hb hb'
  cases h1 : docB l
  · have HN : Hid (¬ BothSame l l') := fun h => by rw [h.1] at h1; cases h1
    go_enter Try.func9, Try.ntmps9
    go_wp2_with fail
    refine (impl_doc a c l _ (K3.out _ B0.out).1 HX.out.1 HX.out.2).mono ?_
    rw [h1]
    rintro e w1 ⟨rfl, hb1⟩
    have Q1 : Hid (Below w.heap.size w w1) := B0.out.trans (hb1.mono (by simp <;> omega))
    clear hb1
    go_wp2_with fail
    go_ret
    exact ⟨Says.no HN.out, Q1.out⟩
  have H1 : Hid (docB l = true) := h1
  go_enter Try.func9, Try.ntmps9
  go_wp2_with fail
  refine (impl_doc a c l _ (K3.out _ B0.out).1 HX.out.1 HX.out.2).mono ?_
  rw [h1]
  rintro e w1 ⟨rfl, hb1⟩
  have Q1 : Hid (Below w.heap.size w w1) := B0.out.trans (hb1.mono (by simp <;> omega))
  have k1 := fun o => hb1.cell (p := ⟨w.heap.size, o, none⟩) (by simp <;> omega)
  have j1 := fun o => hb1.cell (p := ⟨w.heap.size + 1, o, none⟩) (by simp <;> omega)
  have z1 : w.heap.size + 2 ≤ w1.heap.size := by have := hb1.size; simp at this; omega
  clear hb1 h1
  cases h2 : docB l'
  · have HN : Hid (¬ BothSame l l') := fun h => by rw [h.2.1] at h2; cases h2
    go_wp2_with fail
    refine (impl_doc a' c' l' _ (K3.out _ Q1.out).2 HY.out.1 HY.out.2).mono ?_
    rw [h2]
    rintro e w2 ⟨rfl, hb2⟩
    have Q2 : Hid (Below w.heap.size w w2) := Q1.out.trans (hb2.mono (by omega))
    clear hb2
    go_wp2_with fail
    go_ret
    exact ⟨Says.no HN.out, Q2.out⟩
  have H2 : Hid (docB l' = true) := h2
  go_wp2_with fail
  refine (impl_doc a' c' l' _ (K3.out _ Q1.out).2 HY.out.1 HY.out.2).mono ?_
  rw [h2]
  rintro e w2 ⟨rfl, hb2⟩
  have Q2 : Hid (Below w.heap.size w w2) := Q1.out.trans (hb2.mono (by omega))
  have k2 := fun o => (hb2.cell (p := ⟨w.heap.size, o, none⟩) (show w.heap.size < w1.heap.size by omega)).trans (k1 o)
  have j2 := fun o => (hb2.cell (p := ⟨w.heap.size + 1, o, none⟩) (show w.heap.size + 1 < w1.heap.size by omega)).trans (j1 o)
  clear hb2 k1 j1 h2
  go_wp2_with fail
  refine (impl_sameD a a' c c' l l' _ (K3.out _ Q2.out).1 (K3.out _ Q2.out).2 HX.out HY.out H1.out H2.out).mono ?_
  rintro e w3 ⟨⟨bb, rfl, ⟨rfl, hf⟩ | ⟨rfl, hf⟩⟩, hb3⟩
  · have HN : Hid (BothSame l l') := ⟨H1.out, H2.out, hf⟩
    have Q3 : Hid (Below w.heap.size w w3) := Q2.out.trans (hb3.mono Q2.out.size)
    clear hb3 hf
    go_wp2_with fail
    go_ret
    exact ⟨Says.yes HN.out, Q3.out⟩
  · have HN : Hid (¬ BothSame l l') := fun h => hf h.2.2
    have Q3 : Hid (Below w.heap.size w w3) := Q2.out.trans (hb3.mono Q2.out.size)
    clear hb3 hf
    go_wp2_with fail
    go_ret
    exact ⟨Says.no HN.out, Q3.out⟩
end Go.Proofs.Ytiehcmdhfeeomaa
