/- The specification's and the program's test of a document. -/
import Derived.Test.YtajjaddlalbnmaaDocRoom
import Derived.Test.YtajjaddlalbnmaaDocSpecTwo
namespace Go.Proofs.Ytajjaddlalbnmaa
open Go.ChangeShapes Go.WideShapes Go.ChangeAt Go.RowKit
set_option linter.unusedVariables false

theorem doc_no_def {l : List De} {k : Nat} (hk : k < l.length) (h : defB l[k] = false) : docB l = false := by
  unfold docB; rw [all_no_b hk h]; simp
theorem doc_many {l : List De} {k : Nat} (hk : k < l.length) (h : 60 < sizeL (l.take k) + l[k].sels.size) : docB l = false := by
  have h1 := sizeL_take hk
  have h2 := sizeL_le l (k + 1)
  have : ¬ sizeL l ≤ 60 := by omega
  unfold docB; simp [this]
theorem doc_len {l : List De} (h : ¬ (1 ≤ l.length ∧ l.length ≤ 6)) : docB l = false := by
  unfold docB
  by_cases h1 : 1 ≤ l.length
  · have : ¬ l.length ≤ 6 := fun h2 => h ⟨h1, h2⟩
    simp [this]
  · simp [h1]
theorem doc_yes {l : List De} (h : 1 ≤ l.length ∧ l.length ≤ 6) (ha : l.all defB = true) (hs : sizeL l ≤ 60) : docB l = true := by
  unfold docB; rw [ha]; simp [h.1, h.2, hs]
theorem takes_no {l : List De} {k : Nat} (hk : k < l.length) (h : takesB 7 (60 - (sizeL (l.take k) : Int)) l[k].sels = false) : docB l = false := by
  unfold takesB at h
  simp only [Bool.and_eq_false_iff] at h
  rcases h with (h | h) | h
  · exact doc_no_def hk (by unfold defB; rw [h]; simp)
  · exact doc_no_def hk (by unfold defB; rw [h]; simp)
  · simp only [decide_eq_false_iff_not] at h
    exact doc_many hk (by omega)

set_option maxHeartbeats 4000000 in
set_option maxRecDepth 40000 in
theorem impl_doc (a : Option Addr) (c : Nat) (l : List De) (w : World) (hr : DeRow 0 w.heap.size w a l) (hl : l.length ≤ 1048576) (ht : ∀ x ∈ l, DeBd 1048576 x) :
    Calls Try.prog 6 #[.agg #[.slice a l.length c]] w fun e w' => e = .returned (.bool (docB l)) ∧ Below w.heap.size w w' := by
  have B0 : Hid (Below w.heap.size w (w.alloc (.cells #[.slice a l.length c] 25))) := (Below.refl _ _).alloc (Nat.le_refl _) _
  have HR : Hid (DeRow 0 w.heap.size w a l) := hr
  have HT : Hid (∀ x ∈ l, DeBd 1048576 x) := ht
  clear hr ht
  by_cases g1 : l.length < 1
  · have HN : Hid (docB l = false) := doc_len (by omega)
    clear HR HT
    go_enter Try.func6, Try.ntmps6
    go_wp2_with fail
    go_ret
    exact ⟨ret_bool HN.out.symm, B0.out⟩
  by_cases g2 : 6 < l.length
  · have HN : Hid (docB l = false) := doc_len (by omega)
    clear HR HT
    go_enter Try.func6, Try.ntmps6
    go_wp2_with fail
    go_ret
    exact ⟨ret_bool HN.out.symm, B0.out⟩
  have HS : Hid (Room ((w.alloc (.cells #[.slice a l.length c] 25)).alloc (.cells #[.int .i64 60] 48)) (w.heap.size + 1) (60 - ((0 : Nat) : Int))) := by
    have h1 := heap_alloc_new (w.alloc (.cells #[.slice a l.length c] 25)) (.cells #[.int .i64 60] 48)
    rw [show (w.alloc (.cells #[.slice a l.length c] 25)).heap.size = w.heap.size + 1 by simp] at h1
    exact h1
  go_enter Try.func6, Try.ntmps6
  go_wp2_with fail
  go_loopw [20] (fun i w' => ∃ (k s : Nat), k ≤ l.length ∧ i = .int .i64 k ∧ Below w.heap.size w w' ∧ Hid (s = sizeL (l.take k)) ∧ s ≤ 60 ∧ Hid (Room w' (w.heap.size + 1) (60 - (s : Int))) ∧ Hid ((l.take k).all defB = true)) (fun i _ => l.length - (intOf i).toNat)
  case atStart => exact ⟨0, 0, by omega, rfl, B0.out.alloc (by simp) _, rfl, by omega, HS, rfl⟩
  case round =>
    rename_i wr
    obtain ⟨k, s, hk, rfl, hb, HZ, hs, HO, HA⟩ := hrel
    by_cases hlt : k < l.length
    · obtain ⟨b, o, a3, c3, ha, _, hbl, d0, d1, d2, d3, r3⟩ := DeRow.cells (DeRow.keep HR.out (Below.agree hb (Nat.le_refl _))) k hlt
      subst ha
      have HX : Hid (DeBd 1048576 l[k]) := HT.out l[k] (List.getElem_mem hlt)
      have hRr := HO.out.lt
      have K3 : Hid (∀ W0, Below (w.heap.size + 2) wr W0 → SelRow 0 (w.heap.size + 1) W0 a3 l[k].sels) := fun W0 hB => (SelRow.keep r3 (Below.agree hB (by omega))).wide (Nat.le_refl _) (by omega)
      clear r3
      go_wp2_with fail
      refine (impl_head l[k] l[k].sels.len a3 c3 _ (by have := HX.out.1; unfold maxLen; omega) (by have := HX.out.2.1; unfold maxLen; omega)).mono ?_
      cases hh : headB l[k]
      · rintro e w1 ⟨rfl, hb1⟩
        have HN : Hid (docB l = false) := doc_no_def hlt (by unfold defB; rw [hh]; rfl)
        have q1 : Hid (Below w.heap.size w w1) := by
          refine hb.trans (Below.trans ?_ (hb1.mono (by first | omega | (simp <;> omega))))
          repeat (first | exact Below.refl _ _ | refine Below.setCell ?_ (by first | omega | (simp <;> omega)) _ | refine Below.alloc ?_ (by first | omega | (simp <;> omega)) _)
        go_wp2_with fail
        go_ret
        exact ⟨ret_bool HN.out.symm, q1.out⟩
      · rintro e w1 ⟨rfl, hb1⟩
        have p1 : Below (w.heap.size + 2) wr w1 := by
          refine Below.trans ?_ (hb1.mono (by first | omega | (simp <;> omega)))
          repeat (first | exact Below.refl _ _ | refine Below.setCell ?_ (by first | omega | (simp <;> omega)) _ | refine Below.alloc ?_ (by first | omega | (simp <;> omega)) _)
        have P1 : Hid _ := p1
        have HO3 : Hid (Room w1 (w.heap.size + 1) (60 - (s : Int))) := HO.out.keep p1 (by omega)
        have k0 := fun o => hb1.cell (p := ⟨wr.heap.size, o, none⟩) (by first | omega | (simp <;> omega))
        have Q1 : Hid (Below w.heap.size w w1) := hb.trans (p1.mono (by omega))
        clear hb1 p1
        go_wp2_with fail
        refine (impl_takes l[k].sels (w.heap.size + 1) a3 c3 7 1 (60 - (s : Int)) _ HO3.out (K3.out _ P1.out) HX.out.2.2.1 HX.out.2.2.2 (by omega) (by omega) (by omega) (by omega)).mono ?_
        cases ht : takesB 7 (60 - (s : Int)) l[k].sels
        · rintro e w2 ⟨rfl, hb2, _⟩
          have HN : Hid (docB l = false) := takes_no hlt (by rw [← HZ.out]; exact ht)
          go_wp2_with fail
          go_ret
          exact ⟨ret_bool HN.out.symm, Q1.out.trans (hb2.mono (by omega))⟩
        · rintro e w2 ⟨rfl, hb2, hr2⟩
          have ht' := ht
          simp only [takesB, Bool.and_eq_true, decide_eq_true_eq] at ht'
          have HR2 : Hid (Room w2 (w.heap.size + 1) (60 - ((s + l[k].sels.size : Nat) : Int))) := by
            have := hr2 rfl
            rwa [show (60 : Int) - (s : Int) - (l[k].sels.size : Int) = 60 - ((s + l[k].sels.size : Nat) : Int) by omega] at this
          have HN : Hid ((l.take (k + 1)).all defB = true) := all_take_b hlt HA.out (by unfold defB; rw [hh, ht'.1.1, ht'.1.2]; rfl)
          have HZ2 : Hid (s + l[k].sels.size = sizeL (l.take (k + 1))) := by rw [Hid, sizeL_take hlt, HZ.out]
          have hle := ht'.2
          have hle2 : s + l[k].sels.size ≤ 60 := by omega
          clear hr2 ht'
          go_wp2_with fail
          go_roundw
          case rel => exact ⟨k + 1, s + l[k].sels.size, by omega, by go_num, Q1.out.trans (hb2.mono (by omega)), HZ2, hle2, HR2, HN⟩
          case measure => simp [intOf]; omega
    · have HN : Hid (docB l = true) := by
        have h1 := HA.out
        have h2 := HZ.out
        rw [List.take_of_length_le (by omega)] at h1 h2
        exact doc_yes (by omega) h1 (by omega)
      go_wp2_with fail
      go_ret
      exact ⟨ret_bool HN.out.symm, hb⟩
end Go.Proofs.Ytajjaddlalbnmaa
