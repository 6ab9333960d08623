/- Requests: what the law counts, copies, holds against each other; what is right, on both sides. -/
import Derived.Test.YtiehcmdhfeeomaaBnOK
import Derived.Test.YtiehcmdhfeeomaaDocSpecOK
import Derived.Test.YtiehcmdhfeeomaaDocEq
import Derived.Test.YtiehcmdhfeeomaaDocSzTwo
import Derived.Test.YtiehcmdhfeeomaaDocToTwo
import Derived.Deep.RegionWith
namespace Go.Proofs.Ytiehcmdhfeeomaa
open Go.ChangeShapes Go.WideShapes Go.ChangeAt Go.RowKit
set_option linter.unusedVariables false

/-- A request's lists: bounded; where they lie; right. -/
def RqBd (n : Nat) (l : List De) (v : List Ar) : Prop := DefsBd n l ∧ v.length ≤ n ∧ ∀ x ∈ v, ArBd n x
def RqRow (lo hi : Nat) (w : World) (a b : Option Addr) (l : List De) (v : List Ar) : Prop := DeRow lo hi w a l ∧ ArRow lo hi w b v
def reqB (l : List De) (v : List Ar) : Bool := docB l && bindB v
theorem RqRow.up {B : Nat} {w w' : World} {a b : Option Addr} {l : List De} {v : List Ar} (h : RqRow 0 B w a b l v) (hb : Below B w w') : RqRow 0 w'.heap.size w' a b l v ∨ w'.heap.size < B := by
  by_cases hz : B ≤ w'.heap.size
  · exact .inl ⟨DeRow.wide (DeRow.keep h.1 (Below.agree hb (Nat.le_refl _))) (Nat.le_refl _) hz, Row.wide (Row.keep h.2 (Below.agree hb (Nat.le_refl _))) (Nat.le_refl _) hz⟩
  · exact .inr (by omega)

set_option maxHeartbeats 2000000 in
theorem sz_req (a b : Option Addr) (c d : Nat) (l : List De) (v : List Ar) (n : Int) (w : World) (hr : DeRow 0 w.heap.size w a l) (hv : ArRow 0 w.heap.size w b v) (hbd : DefsBd maxLen l) (hl : v.length ≤ maxLen) (ht : ∀ x ∈ v, ArBd maxLen x) (h0 : 0 ≤ n) (h1 : n ≤ 1048576) :
    Calls Try.prog 11 #[.agg #[.slice a l.length c, .slice b v.length d], .int .i64 n] w fun e w' => ∃ m, e = .returned (.int .i64 m) ∧ Sz n m (RqBd 1048576 l v) ∧ Below w.heap.size w w' := by
  have B0 : Hid (Below w.heap.size w (w.alloc (.cells #[.slice a l.length c, .slice b v.length d] 34))) := (Below.refl _ _).alloc (Nat.le_refl _) _
  have K0 : Hid (∀ W0, Below w.heap.size w W0 → DeRow 0 W0.heap.size W0 a l) := fun W0 hB => DeRow.up hr hB
  have J0 : Hid (∀ W0, Below w.heap.size w W0 → ArRow 0 W0.heap.size W0 b v) := fun W0 hB => Row.up hv hB
  have HD : Hid (DefsBd maxLen l) := hbd
  have HT : Hid (∀ x ∈ v, ArBd maxLen x) := ht
  have HLN : Hid (v.length ≤ maxLen) := hl
  clear hr hv hbd ht hl
  go_enter Try.func11, Try.ntmps11
  go_wp2_with fail
  refine (sz_doc a c l n _ (K0.out _ B0.out) HD.out h0 h1).mono ?_
  rintro e w1 ⟨m, rfl, hm, hb1⟩
  have HM : Hid (Sz n m (DefsBd 1048576 l)) := hm
  have q1 : Hid (Below w.heap.size w w1) := B0.out.trans (hb1.mono (by simp))
  have c1 := fun o => (hb1.cell (p := ⟨w.heap.size, o, none⟩) (by simp)).trans (row_cell (heap_alloc_new _ _) o)
  have z1 : w.heap.size + 1 ≤ w1.heap.size := size_one hb1
  clear hm hb1
  by_cases hneg : m < 0
  · go_wp2_with fail
    go_ret
    exact ⟨-1, rfl, Sz.neg h0, q1.out⟩
  have hmm := HM.out.1
  go_wp2_with fail
  refine (sz_binds b d v m _ (J0.out _ q1.out) HLN.out HT.out (by omega) (by omega)).mono ?_
  rintro e w2 ⟨m2, rfl, hm, hb2⟩
  have HN : Hid (Sz m m2 (v.length ≤ 1048576 ∧ ∀ x ∈ v, ArBd 1048576 x)) := hm
  have q2 : Hid (Below w.heap.size w w2) := q1.out.trans (hb2.mono (by omega))
  clear hm hb2
  by_cases hneg2 : m2 < 0
  · go_wp2_with fail
    go_ret
    exact ⟨-1, rfl, Sz.neg h0, q2.out⟩
  go_wp2_with fail
  go_ret
  refine ⟨m2, rfl, ⟨by have := HN.out.1; omega, by omega, fun _ => ⟨HM.out.2.2 (by omega), HN.out.2.2 (by omega)⟩⟩, q2.out⟩

set_option maxHeartbeats 2000000 in
theorem to_req (a b : Option Addr) (c d : Nat) (l : List De) (v : List Ar) (w : World) (hr : DeRow 0 w.heap.size w a l) (hv : ArRow 0 w.heap.size w b v) (hbd : RqBd 1048576 l v) :
    Calls Try.prog 13 #[.agg #[.slice a l.length c, .slice b v.length d]] w fun e w' => ∃ a' c' b' d', e = .returned (.agg #[.slice a' l.length c', .slice b' v.length d']) ∧ DeRow w.heap.size w'.heap.size w' a' l ∧ ArRow w.heap.size w'.heap.size w' b' v ∧ Below w.heap.size w w' := by
  have K0 : Hid (∀ W0, Below w.heap.size w W0 → DeRow 0 W0.heap.size W0 a l) := fun W0 hB => DeRow.up hr hB
  have J0 : Hid (∀ W0, Below w.heap.size w W0 → ArRow 0 W0.heap.size W0 b v) := fun W0 hB => Row.up hv hB
  have HD : Hid (DefsBd 1048576 l) := hbd.1
  have hl := hbd.2.1
  clear hr hv hbd
  go_enter Try.func13, Try.ntmps13
  go_wp2_with fail
  refine (to_doc a c l _ (K0.out _ ?b0) HD.out).mono ?_
  case b0 => repeat (first | exact Below.refl _ _ | refine Below.setCell ?_ (by simp <;> omega) _ | refine Below.alloc ?_ (by simp <;> omega) _)
  rintro e w1 ⟨a1, d1, rfl, r1, hb1⟩
  have hz1 : w.heap.size + 3 ≤ w1.heap.size := by have := hb1.size; simp at this; omega
  have A1 : Hid (DeRow (w.heap.size + 3) w1.heap.size w1 a1 l) := DeRow.wide r1 (by simp <;> omega) (Nat.le_refl _)
  have q1 : Hid (Below w.heap.size w w1) := by
    refine Below.trans ?_ (hb1.mono (by simp <;> omega))
    repeat (first | exact Below.refl _ _ | refine Below.setCell ?_ (by simp <;> omega) _ | refine Below.alloc ?_ (by simp <;> omega) _)
  have k10 := fun o => hb1.cell (p := ⟨w.heap.size, o, none⟩) (by simp <;> omega)
  have k11 := fun o => hb1.cell (p := ⟨w.heap.size + 1, o, none⟩) (by simp <;> omega)
  have k12 := fun o => hb1.cell (p := ⟨w.heap.size + 1 + 1, o, none⟩) (by simp <;> omega)
  have j10 := fun o => hb1.frozen (p := ⟨w.heap.size, o, none⟩) (by simp <;> omega)
  have j11 := fun o => hb1.frozen (p := ⟨w.heap.size + 1, o, none⟩) (by simp <;> omega)
  have j12 := fun o => hb1.frozen (p := ⟨w.heap.size + 1 + 1, o, none⟩) (by simp <;> omega)
  have h11 : w1.heap[w.heap.size + 1]? = some (.cells #[.slice none 0 0, .slice none 0 0] 39 (0, 0)) := by
    rw [hb1.block _ (by simp), Below.heap_alloc _ _ _ (by simp)]
    have := heap_alloc_new (w.alloc (.cells #[.slice a l.length c, .slice b v.length d] 34)) (.cells #[.slice none 0 0, .slice none 0 0] 39)
    simpa using this
  have e10 := row_cell h11 0
  have e11 := row_cell h11 1
  clear h11
  clear hb1 r1
  go_wp2_with fail
  refine (to_binds b d v _ (J0.out _ ?b1) hl).mono ?_
  case b1 => repeat (first | exact q1.out | refine Below.setCell ?_ (by simp <;> omega) _ | refine Below.alloc ?_ (by simp <;> omega) _)
  rintro e w2 ⟨a2, d2, rfl, r2, hb2⟩
  have hz2 : w1.heap.size ≤ w2.heap.size := by have := hb2.size; simp at this; omega
  have A2 : Hid (ArRow (w.heap.size + 3) w2.heap.size w2 a2 v) := Row.wide r2 (by simp <;> omega) (Nat.le_refl _)
  have B1 : Hid (DeRow (w.heap.size + 3) w2.heap.size w2 a1 l) := by
    refine DeRow.wide (DeRow.keep A1.out (fun g h1 h2 => ?_)) (Nat.le_refl _) hz2
    have := hb2.block g (by simp <;> omega)
    rw [this]
    repeat rw [heap_set _ _ _ _ _ (by omega)]
  have q2 : Hid (Below w.heap.size w w2) := by
    refine Below.trans ?_ (hb2.mono (by simp <;> omega))
    repeat (first | exact q1.out | refine Below.setCell ?_ (by simp <;> omega) _ | refine Below.alloc ?_ (by simp <;> omega) _)
  have k20 := fun o => hb2.cell (p := ⟨w.heap.size, o, none⟩) (by simp <;> omega)
  have k21 := fun o => hb2.cell (p := ⟨w.heap.size + 1, o, none⟩) (by simp <;> omega)
  have j20 := fun o => hb2.frozen (p := ⟨w.heap.size, o, none⟩) (by simp <;> omega)
  have j21 := fun o => hb2.frozen (p := ⟨w.heap.size + 1, o, none⟩) (by simp <;> omega)
  have k22 := fun o => hb2.cell (p := ⟨w.heap.size + 1 + 1, o, none⟩) (by simp <;> omega)
  have j22 := fun o => hb2.frozen (p := ⟨w.heap.size + 1 + 1, o, none⟩) (by simp <;> omega)
  clear hb2 r2 A1
  go_wp2_with fail
  have e20 : w2.cell? ⟨w.heap.size + 1, 0, none⟩ = some (.slice none 0 0) :=
    (k21 0).trans ((World.cell?_of_block (a := ⟨w.heap.size + 1, 0, none⟩) (heap_set _ _ _ _ _ (by show w.heap.size + 1 ≠ w.heap.size + 1 + 1; omega))).trans e10)
  have e21 : w2.cell? ⟨w.heap.size + 1, 1, none⟩ = some (.slice none 0 0) :=
    (k21 1).trans ((World.cell?_of_block (a := ⟨w.heap.size + 1, 1, none⟩) (heap_set _ _ _ _ _ (by show w.heap.size + 1 ≠ w.heap.size + 1 + 1; omega))).trans e11)
  refine bodyPost_ret (v := .agg #[.slice a1 l.length d1, .slice a2 v.length d2]) (by simp [results, Try.results13, go_sem, e20, e21]) rfl ⟨a1, d1, a2, d2, rfl, ?_⟩
  have G : ∀ W' : World, W'.heap.size = w2.heap.size → Agree (w.heap.size + 3) w2.heap.size w2 W' → Below w.heap.size w W' → DeRow w.heap.size W'.heap.size W' a1 l ∧ ArRow w.heap.size W'.heap.size W' a2 v ∧ Below w.heap.size w W' :=
    fun W' hw ha hB => ⟨DeRow.wide (DeRow.keep B1.out ha) (by omega) (by omega), Row.wide (Row.keep A2.out ha) (by omega) (by omega), hB⟩
  refine G _ (by simp) ?_ ?_
  · intro g h1 h2
    repeat rw [heap_set _ _ _ _ _ (by omega)]
  · repeat (refine Below.setCell ?_ (by simp <;> omega) _)
    exact q2.out

set_option maxHeartbeats 2000000 in
theorem eq_req (a a' b b' : Option Addr) (c c' d d' : Nat) (l : List De) (v : List Ar) (w : World) (hr : DeRow 0 w.heap.size w a l) (hr' : DeRow 0 w.heap.size w a' l) (hv : ArRow 0 w.heap.size w b v) (hv' : ArRow 0 w.heap.size w b' v) (hbd : RqBd 1048576 l v) :
    Calls Try.prog 15 #[.agg #[.slice a l.length c, .slice b v.length d], .agg #[.slice a' l.length c', .slice b' v.length d']] w fun e w' => e = .returned (.bool true) ∧ Below w.heap.size w w' := by
  have K0 : Hid (∀ W0, Below w.heap.size w W0 → DeRow 0 W0.heap.size W0 a l ∧ DeRow 0 W0.heap.size W0 a' l) := fun W0 hB => ⟨DeRow.up hr hB, DeRow.up hr' hB⟩
  have J0 : Hid (∀ W0, Below w.heap.size w W0 → ArRow 0 W0.heap.size W0 b v ∧ ArRow 0 W0.heap.size W0 b' v) := fun W0 hB => ⟨Row.up hv hB, Row.up hv' hB⟩
  have HD : Hid (DefsBd 1048576 l) := hbd.1
  have hl := hbd.2.1
  clear hr hr' hv hv' hbd
  obtain ⟨V0, hV0⟩ : ∃ V, V = (w.alloc (.cells #[.slice a l.length c, .slice b v.length d] 39)).alloc (.cells #[.slice a' l.length c', .slice b' v.length d'] 39) := ⟨_, rfl⟩
  have B0 : Hid (Below w.heap.size w V0) := by rw [hV0]; exact ((Below.refl _ _).alloc (Nat.le_refl _) _).alloc (by simp) _
  have z0 : w.heap.size + 2 ≤ V0.heap.size := by rw [hV0]; simp
  have x0 : Hid (V0.heap[w.heap.size]? = some (.cells #[.slice a l.length c, .slice b v.length d] 39 (0, 0))) := by
    rw [Hid, hV0, Below.heap_alloc _ _ _ (by simp)]; exact heap_alloc_new _ _
  have y0 : Hid (V0.heap[w.heap.size + 1]? = some (.cells #[.slice a' l.length c', .slice b' v.length d'] 39 (0, 0))) := by
    rw [Hid, hV0]
    have := heap_alloc_new (w.alloc (.cells #[.slice a l.length c, .slice b v.length d] 39)) (.cells #[.slice a' l.length c', .slice b' v.length d'] 39)
    simpa using this
  go_enter Try.func15, Try.ntmps15
  have cx0 := fun o => row_cell x0.out o
  have cy0 := fun o => row_cell y0.out o
  go_wp2_with fail
  rw [← hV0]
  clear hV0
  refine (eq_doc a a' c c' l _ (K0.out _ B0.out).1 (K0.out _ B0.out).2 HD.out).mono ?_
  rintro e w1 ⟨rfl, hb1⟩
  have q1 : Hid (Below w.heap.size w w1) := B0.out.trans (hb1.mono (by omega))
  have cx1 := fun o => (hb1.cell (p := ⟨w.heap.size, o, none⟩) (show w.heap.size < V0.heap.size by omega)).trans (cx0 o)
  have cy1 := fun o => (hb1.cell (p := ⟨w.heap.size + 1, o, none⟩) (show w.heap.size + 1 < V0.heap.size by omega)).trans (cy0 o)
  clear hb1 cx0 cy0 x0 y0
  go_wp2_with fail
  refine (eq_binds b b' d d' v _ (J0.out _ q1.out).1 (J0.out _ q1.out).2 hl).mono ?_
  rintro e w2 ⟨rfl, hb2⟩
  have q2 : Hid (Below w.heap.size w w2) := q1.out.trans (hb2.mono (by have := q1.out.size; omega))
  go_wp2_with fail
  go_ret
  exact ⟨rfl, q2.out⟩

set_option maxHeartbeats 2000000 in
theorem spec_req (a b : Option Addr) (c d : Nat) (l : List De) (v : List Ar) (w : World) (hr : DeRow 0 w.heap.size w a l) (hv : ArRow 0 w.heap.size w b v) (hbd : RqBd 1048576 l v) :
    Calls Try.prog 28 #[.agg #[.slice a l.length c, .slice b v.length d]] w fun e w' => e = .returned (.bool (reqB l v)) ∧ Below w.heap.size w w' := by
  have K0 : Hid (∀ W0, Below w.heap.size w W0 → DeRow 0 W0.heap.size W0 a l) := fun W0 hB => DeRow.up hr hB
  have J0 : Hid (∀ W0, Below w.heap.size w W0 → ArRow 0 W0.heap.size W0 b v) := fun W0 hB => Row.up hv hB
  have HD : Hid (DefsBd 1048576 l) := hbd.1
  have HT : Hid (∀ x ∈ v, ArBd 1048576 x) := hbd.2.2
  have hl := hbd.2.1
  clear hr hv hbd
  have B0 : Hid (Below w.heap.size w (w.alloc (.cells #[.slice a l.length c, .slice b v.length d] 39))) := (Below.refl _ _).alloc (Nat.le_refl _) _
  go_enter Try.func28, Try.ntmps28
  go_wp2_with fail
  refine (spec_doc a c l _ (K0.out _ B0.out) HD.out.1 HD.out.2).mono ?_
  rintro e w1 ⟨rfl, hb1⟩
  have q1 : Hid (Below w.heap.size w w1) := B0.out.trans (hb1.mono (by simp))
  have c1 := fun o => (hb1.cell (p := ⟨w.heap.size, o, none⟩) (by simp)).trans (row_cell (heap_alloc_new _ _) o)
  clear hb1
  cases hdb : docB l
  · have HN : Hid (false = reqB l v) := by rw [Hid, reqB, hdb]; rfl
    clear hdb
    go_wp2_with fail
    go_ret
    exact ⟨ret_bool HN.out, q1.out⟩
  have HN : Hid (bindB v = reqB l v) := by rw [Hid, reqB, hdb]; rfl
  clear hdb
  go_wp2_with fail
  refine (spec_binds b d v _ (J0.out _ q1.out) hl HT.out).mono ?_
  rintro e w2 ⟨rfl, hb2⟩
  have q2 : Hid (Below w.heap.size w w2) := q1.out.trans (hb2.mono (by have := q1.out.size; omega))
  rw [HN.out]
  go_wp2_with fail
  go_ret
  exact ⟨rfl, q2.out⟩

set_option maxHeartbeats 2000000 in
theorem impl_req (a b : Option Addr) (c d : Nat) (l : List De) (v : List Ar) (w : World) (hr : DeRow 0 w.heap.size w a l) (hv : ArRow 0 w.heap.size w b v) (hbd : RqBd 1048576 l v) :
    Calls Try.prog 31 #[.agg #[.slice a l.length c, .slice b v.length d]] w fun e w' => e = .returned (.bool (reqB l v)) ∧ Below w.heap.size w w' := by
  have K0 : Hid (∀ W0, Below w.heap.size w W0 → DeRow 0 W0.heap.size W0 a l) := fun W0 hB => DeRow.up hr hB
  have J0 : Hid (∀ W0, Below w.heap.size w W0 → ArRow 0 W0.heap.size W0 b v) := fun W0 hB => Row.up hv hB
  have HD : Hid (DefsBd 1048576 l) := hbd.1
  have HT : Hid (∀ x ∈ v, ArBd 1048576 x) := hbd.2.2
  have hl := hbd.2.1
  clear hr hv hbd
  have B0 : Hid (Below w.heap.size w (w.alloc (.cells #[.slice a l.length c, .slice b v.length d] 39))) := (Below.refl _ _).alloc (Nat.le_refl _) _
  go_enter Try.func31, Try.ntmps31
  go_wp2_with fail
  refine (impl_doc a c l _ (K0.out _ B0.out) HD.out.1 HD.out.2).mono ?_
  rintro e w1 ⟨rfl, hb1⟩
  have q1 : Hid (Below w.heap.size w w1) := B0.out.trans (hb1.mono (by simp))
  have c1 := fun o => (hb1.cell (p := ⟨w.heap.size, o, none⟩) (by simp)).trans (row_cell (heap_alloc_new _ _) o)
  clear hb1
  cases hdb : docB l
  · have HN : Hid (false = reqB l v) := by rw [Hid, reqB, hdb]; rfl
    clear hdb
    go_wp2_with fail
    go_ret
    exact ⟨ret_bool HN.out, q1.out⟩
  have HN : Hid (bindB v = reqB l v) := by rw [Hid, reqB, hdb]; rfl
  clear hdb
  go_wp2_with fail
  refine (impl_binds b d v _ (J0.out _ q1.out) hl HT.out).mono ?_
  rintro e w2 ⟨rfl, hb2⟩
  have q2 : Hid (Below w.heap.size w w2) := q1.out.trans (hb2.mono (by have := q1.out.size; omega))
  rw [HN.out]
  go_wp2_with fail
  go_ret
  exact ⟨rfl, q2.out⟩
end Go.Proofs.Ytiehcmdhfeeomaa
