/- Bindings that are right: both sides; what a value is bound to. -/
import Derived.Test.YtiehcmdhfeeomaaBnFind
namespace Go.Proofs.Ytiehcmdhfeeomaa
open Go.ChangeShapes Go.WideShapes Go.ChangeAt Go.RowKit
open Go.Proofs.Ytiehcmdhfeeomaa.B (OkN seen_take seen_of)
set_option linter.unusedVariables false

def bnB (x : Ar) : Bool := valB x.v && !(x.v.k == 4)
def bindB (l : List Ar) : Bool := decide (l.length ≤ 8) && l.all bnB && decide (OkN (l.map Ar.nm))
theorem bind_many {l : List Ar} (h : ¬ l.length ≤ 8) : bindB l = false := by
  unfold bindB; rw [decide_eq_false h]; rfl
theorem bind_not {l : List Ar} {k : Nat} (hk : k < l.length) (h : bnB l[k] = false) : bindB l = false := by
  unfold bindB
  have : l.all bnB = false := by rw [List.all_eq_false]; exact ⟨l[k], List.getElem_mem hk, by simp [h]⟩
  rw [this]; simp
theorem bind_name {l : List Ar} (h : ¬ OkN (l.map Ar.nm)) : bindB l = false := by
  unfold bindB; rw [decide_eq_false h]; simp
theorem bind_yes {l : List Ar} (h1 : l.length ≤ 8) (h2 : l.all bnB = true) (h3 : OkN (l.map Ar.nm)) : bindB l = true := by
  unfold bindB; rw [decide_eq_true h1, h2, decide_eq_true h3]; rfl
theorem all_takeB {α : Type} {p : α → Bool} {l : List α} {k : Nat} (hk : k < l.length) (h : (l.take k).all p = true) (h2 : p l[k] = true) : (l.take (k + 1)).all p = true := by
  rw [List.take_succ_eq_append_getElem hk, List.all_append, h]; simp [h2]

/-- The first k are right. -/
def BnTo (l : List Ar) (k : Nat) : Prop := (l.take k).all bnB = true ∧ ∀ j (hj : j < (l.map Ar.nm).length), j < k → nameB (l.map Ar.nm)[j] = true ∧ B.seen ((l.map Ar.nm).take j) (l.map Ar.nm)[j] = false
theorem BnTo.next {l : List Ar} {k : Nat} (h : BnTo l k) (hk : k < l.length) (h1 : bnB l[k] = true) (h2 : nameB l[k].nm = true) (h3 : B.seen ((l.map Ar.nm).take k) l[k].nm = false) : BnTo l (k + 1) := by
  have hk2 : k < (l.map Ar.nm).length := by simpa using hk
  have he : (l.map Ar.nm)[k] = l[k].nm := by simp
  exact ⟨all_takeB hk h.1 h1, B.OkN.next hk2 h.2 (by rw [he]; exact h2) (by rw [he]; exact h3)⟩
theorem BnTo.whole {l : List Ar} {k : Nat} (h : BnTo l k) (hk : ¬ k < l.length) : l.all bnB = true ∧ OkN (l.map Ar.nm) := by
  obtain ⟨h1, h2⟩ := h
  rw [List.take_of_length_le (by omega)] at h1
  exact ⟨h1, fun j hj => h2 j hj (by simp at hj; omega)⟩

set_option maxHeartbeats 2000000 in
theorem spec_binds (a : Option Addr) (c : Nat) (l : List Ar) (w : World) (hr : ArRow 0 w.heap.size w a l) (hl : l.length ≤ 1048576) (ht : ∀ x ∈ l, ArBd 1048576 x) :
    Calls Try.prog 48 #[.slice a l.length c] w fun e w' => e = .returned (.bool (bindB l)) ∧ Below w.heap.size w w' := by
  have HR : Hid (ArRow 0 w.heap.size w a l) := hr
  have HT : Hid (∀ x ∈ l, ArBd 1048576 x) := ht
  clear hr ht
  by_cases hbig : 4096 < l.length
  · have HN : Hid (false = bindB l) := (bind_many (by omega)).symm
    go_enter Try.func48, Try.ntmps48
    go_wp2_with fail
    go_ret
    exact ⟨ret_bool HN.out, Below.refl _ _⟩
  go_enter Try.func48, Try.ntmps48
  go_wp2_with fail
  go_loopw [3] (fun i w' => ∃ (k : Nat), k ≤ l.length ∧ i = .int .i64 k ∧ Below w.heap.size w w' ∧ Hid (BnTo l k)) (fun i _ => l.length - (intOf i).toNat)
  case atStart => exact ⟨0, by omega, rfl, Below.refl _ _, rfl, fun j hj h => by omega⟩
  case round =>
    rename_i wr
    obtain ⟨k, hk, rfl, hb, HK⟩ := hrel
    by_cases hlt : k < l.length
    case neg =>
      have HN : Hid (decide (l.length ≤ 8) = bindB l) := by
        obtain ⟨h1, h2⟩ := HK.out.whole hlt
        unfold Hid bindB; rw [h1, decide_eq_true h2]; simp
      by_cases h8 : l.length ≤ 8
      · rw [decide_eq_true h8] at HN
        have h8' : (l.length : Int) ≤ 8 := by omega
        go_wp2_with fail
        go_ret
        exact ⟨ret_bool HN.out, hb⟩
      · rw [decide_eq_false h8] at HN
        have h8' : ¬ (l.length : Int) ≤ 8 := by omega
        have h9 : decide ((l.length : Int) ≤ 8) = false := decide_eq_false h8'
        go_wp2_with fail
        go_ret
        exact ⟨ret_bool HN.out, hb⟩
    obtain ⟨b, o, ha, _, hbl, c0, c1, c2, c3⟩ := (HR.out.keep (Below.agree hb (Nat.le_refl _))).cells_ar k hlt
    subst ha
    obtain ⟨s1, s2⟩ := HT.out l[k] (List.getElem_mem hlt)
    have s1' : l[k].nm.size ≤ maxLen := by unfold maxLen; omega
    have s2' : l[k].v.t.size ≤ maxLen := by unfold maxLen; omega
    have hlt2 : k < (l.map Ar.nm).length := by simpa using hlt
    have HE : Hid ((l.map Ar.nm)[k] = l[k].nm) := by simp [Hid]
    go_wp2_with fail
    refine (spec_nameOK _ _ s1').mono ?_
    cases hn : nameB l[k].nm
    · rintro e w1 ⟨rfl, rfl⟩
      have HN : Hid (false = bindB l) := (bind_name (fun h => by have := (h k hlt2).1; rw [HE.out, hn] at this; cases this)).symm
      go_wp2_with fail
      go_ret
      exact ⟨ret_bool HN.out, hb⟩
    rintro e w1 ⟨rfl, rfl⟩
    go_wp2_with fail
    refine (spec_val l[k].v _ s2').mono ?_
    cases hv : valB l[k].v
    · rintro e w1 ⟨rfl, hb1⟩
      have HN : Hid (false = bindB l) := (bind_not hlt (by unfold bnB; rw [hv]; rfl)).symm
      go_wp2_with fail
      go_ret
      exact ⟨ret_bool HN.out, hb.trans (hb1.mono hb.size)⟩
    rintro e w2 ⟨rfl, hb2⟩
    obtain ⟨hc2, hf2⟩ := bcell hb2
    have k1 := (hc2 b (o + k * 4 + 1) (by have := hb.size; omega)).trans c1
    have Q2 : Hid (Below w.heap.size w w2) := hb.trans (hb2.mono hb.size)
    have z2 : w.heap.size ≤ w2.heap.size := Q2.out.size
    clear c0 c1 c2 c3 hc2 hf2 hb2
    cases h4 : (l[k].v.k == 4)
    case true =>
      have HN : Hid (false = bindB l) := (bind_not hlt (by unfold bnB; rw [h4]; simp)).symm
      go_wp2_with fail
      go_ret
      exact ⟨ret_bool HN.out, Q2.out⟩
    have HV : Hid (bnB l[k] = true) := by unfold Hid bnB; rw [hv, h4]; rfl
    go_wp2_with fail
    clear k1 h4
    go_loopw [4] (fun i w' => ∃ (j : Nat), j ≤ k ∧ i = .int .i64 j ∧ Below w.heap.size w w' ∧ Hid (B.seen ((l.map Ar.nm).take j) l[k].nm = false)) (fun i _ => k - (intOf i).toNat)
    case atStart => exact ⟨0, by omega, rfl, Q2.out, rfl⟩
    case round =>
      obtain ⟨j, hj, rfl, hbj, HJ⟩ := hrel
      by_cases hjk : j < k
      case neg =>
        have HK2 : Hid (BnTo l (k + 1)) := HK.out.next hlt HV.out hn (by have := HJ.out; rwa [show j = k by omega] at this)
        go_wp2_with fail
        exact ⟨⟨k + 1, by omega, by go_num, hbj, HK2⟩, by simp [intOf]; omega⟩
      have hjl : j < l.length := by omega
      obtain ⟨b1, o1, ha1, _, hbl1, d0, d1, d2, d3⟩ := (HR.out.keep (Below.agree hbj (Nat.le_refl _))).cells_ar k hlt
      obtain ⟨b2, o2, ha2, _, hbl2, e0, e1, e2, e3⟩ := (HR.out.keep (Below.agree hbj (Nat.le_refl _))).cells_ar j hjl
      simp only [Option.some.injEq, Addr.mk.injEq, and_true] at ha1 ha2
      obtain ⟨rfl, rfl⟩ := ha1
      obtain ⟨rfl, rfl⟩ := ha2
      have hjl2 : j < (l.map Ar.nm).length := by simpa using hjl
      have HEj : Hid ((l.map Ar.nm)[j] = l[j].nm) := by simp [Hid]
      clear d1 d2 d3 e1 e2 e3
      cases h5 : (l[j].nm.toList == l[k].nm.toList) with
      | false =>
        have HF : Hid (B.seen ((l.map Ar.nm).take (j + 1)) l[k].nm = false) := by rw [Hid, seen_take hjl2, HJ.out, HEj.out, h5]; rfl
        go_wp2_with fail
        go_quiet (fail)
        go_wp2_with fail
        go_roundw
        case rel => exact ⟨j + 1, by omega, by go_num, hbj.trans (by exact ⟨rfl, rfl, rfl, Nat.le_refl _, fun _ _ => rfl⟩), HF⟩
        case measure => simp [intOf]; omega
      | true =>
        have HN : Hid (false = bindB l) := (bind_name (fun h => by
          have := (h k hlt2).2
          rw [HE.out, seen_of hjl2 hjk (by rw [HEj.out]; exact h5)] at this
          cases this)).symm
        go_wp2_with fail
        go_quiet (fail)
        go_wp2_with fail
        go_ret
        exact ⟨ret_bool HN.out, hbj.trans (by exact ⟨rfl, rfl, rfl, Nat.le_refl _, fun _ _ => rfl⟩)⟩

set_option maxHeartbeats 2000000 in
theorem impl_binds (a : Option Addr) (c : Nat) (l : List Ar) (w : World) (hr : ArRow 0 w.heap.size w a l) (hl : l.length ≤ 1048576) (ht : ∀ x ∈ l, ArBd 1048576 x) :
    Calls Try.prog 51 #[.slice a l.length c] w fun e w' => e = .returned (.bool (bindB l)) ∧ Below w.heap.size w w' := by
  have HR : Hid (ArRow 0 w.heap.size w a l) := hr
  have HT : Hid (∀ x ∈ l, ArBd 1048576 x) := ht
  clear hr ht
  by_cases hbig : 8 < l.length
  · have HN : Hid (false = bindB l) := (bind_many (by omega)).symm
    go_enter Try.func51, Try.ntmps51
    go_wp2_with fail
    go_ret
    exact ⟨ret_bool HN.out, Below.refl _ _⟩
  go_enter Try.func51, Try.ntmps51
  go_wp2_with fail
  go_loopw [12] (fun i w' => ∃ (k : Nat), k ≤ l.length ∧ i = .int .i64 k ∧ Below w.heap.size w w' ∧ Hid ((l.take k).all bnB = true)) (fun i _ => l.length - (intOf i).toNat)
  case atStart => exact ⟨0, by omega, rfl, Below.refl _ _, rfl⟩
  case round =>
    rename_i wr
    obtain ⟨k, hk, rfl, hb, HK⟩ := hrel
    by_cases hlt : k < l.length
    case neg =>
      have HA : Hid (l.all bnB = true) := by have := HK.out; rwa [List.take_of_length_le (by omega)] at this
      go_wp2_with fail
      refine (B.impl_places_Bn a c l _ (HR.out.up hb) hl (fun x hx => (HT.out x hx).1)).mono ?_
      rintro e w1 ⟨hb1, ⟨B9, rfl, h1, h2, h3⟩ | ⟨rfl, h1⟩⟩
      · have HN : Hid (true = bindB l) := (bind_yes (by omega) HA.out h1).symm
        clear h1 h2 h3
        go_wp2_with fail
        go_ret
        exact ⟨ret_bool HN.out, hb.trans (hb1.mono hb.size)⟩
      · have HN : Hid (false = bindB l) := (bind_name h1).symm
        clear h1
        go_wp2_with fail
        go_ret
        exact ⟨ret_bool HN.out, hb.trans (hb1.mono hb.size)⟩
    obtain ⟨b, o, ha, _, hbl, c0, c1, c2, c3⟩ := (HR.out.keep (Below.agree hb (Nat.le_refl _))).cells_ar k hlt
    subst ha
    obtain ⟨s1, s2⟩ := HT.out l[k] (List.getElem_mem hlt)
    have s2' : l[k].v.t.size ≤ maxLen := by unfold maxLen; omega
    go_wp2_with fail
    refine (impl_val l[k].v _ s2').mono ?_
    cases hv : valB l[k].v
    · rintro e w1 ⟨rfl, hb1⟩
      have HN : Hid (false = bindB l) := (bind_not hlt (by unfold bnB; rw [hv]; rfl)).symm
      have q1 : Below wr.heap.size wr w1 := by
        refine Below.trans ?_ (hb1.mono (by first | omega | (simp <;> omega)))
        repeat (first | exact Below.refl _ _ | refine Below.setCell ?_ (by first | omega | (simp <;> omega)) _ | refine Below.alloc ?_ (by first | omega | (simp <;> omega)) _)
      go_wp2_with fail
      go_ret
      exact ⟨ret_bool HN.out, hb.trans (q1.mono hb.size)⟩
    rintro e w2 ⟨rfl, hb2⟩
    have k1 := fun o => hb2.cell (p := ⟨wr.heap.size, o, none⟩) (by first | omega | (simp <;> omega))
    have q1 : Below wr.heap.size wr w2 := by
      refine Below.trans ?_ (hb2.mono (by first | omega | (simp <;> omega)))
      repeat (first | exact Below.refl _ _ | refine Below.setCell ?_ (by first | omega | (simp <;> omega)) _ | refine Below.alloc ?_ (by first | omega | (simp <;> omega)) _)
    have Q2 : Hid (Below w.heap.size w w2) := hb.trans (q1.mono hb.size)
    clear c0 c1 c2 c3 hb2 q1
    cases h4 : (l[k].v.k == 4)
    case true =>
      have HN : Hid (false = bindB l) := (bind_not hlt (by unfold bnB; rw [h4]; simp)).symm
      go_wp2_with fail
      go_ret
      exact ⟨ret_bool HN.out, Q2.out⟩
    have HV : Hid ((l.take (k + 1)).all bnB = true) := all_takeB hlt HK.out (by unfold bnB; rw [hv, h4]; rfl)
    go_wp2_with fail
    exact ⟨⟨k + 1, by omega, by go_num, Q2.out, HV⟩, by simp [intOf]; omega⟩
end Go.Proofs.Ytiehcmdhfeeomaa
