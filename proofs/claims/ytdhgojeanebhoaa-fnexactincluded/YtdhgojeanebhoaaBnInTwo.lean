/- Included: both sides. -/
import Derived.Test.YtdhgojeanebhoaaBnIn
namespace Go.Proofs.Ytdhgojeanebhoaa
open Go.ChangeShapes Go.WideShapes Go.ChangeAt Go.RowKit
set_option linter.unusedVariables false

theorem incl_ok {h : Hd} {z : Bool} {l : List Ar} (h1 : ¬ 4096 < l.length) (h2 : hdB h z = true) (h3 : bindB l = true) : incl h z l = if !boundB h.dirs l then (false, 14) else (inclB h.dirs l, 0) := by
  unfold incl; rw [if_neg h1, h2, h3]; rfl

set_option maxHeartbeats 4000000 in
set_option maxRecDepth 40000 in
theorem spec_included (h : Hd) (n : Nat) (a1 a2 a3 : Option Addr) (c1 c2 c3 : Nat) (a : Option Addr) (c : Nat) (l : List Ar) (x : Bool) (y : Int) (w : World) (r1 : ArRow 0 w.heap.size w a1 h.args) (r2 : DiRow 0 w.heap.size w a2 h.dirs) (hb : HdBd 1048576 h) (hn : n ≤ 1048576) (hr : ArRow 0 w.heap.size w a l) (hl : l.length ≤ 1048576) (ht : ∀ x ∈ l, ArBd 1048576 x) (hy : incl h (decide (n = 0)) l = (x, y)) :
    Calls Try.prog 18 #[.agg #[.int .i64 h.k, .string h.al, .string h.nm, .slice a1 h.args.length c1, .slice a2 h.dirs.length c2, .slice a3 n c3], .slice a l.length c] w fun e w' => e = .returned (.tuple #[.bool x, .int .i64 y]) ∧ Below w.heap.size w w' := by
  have hd : h.dirs.length ≤ 1048576 := hb.2.2.2.2.1
  have K1 : Hid (∀ W0, Below w.heap.size w W0 → ArRow 0 W0.heap.size W0 a1 h.args) := fun W0 hB => Row.up r1 hB
  have K2 : Hid (∀ W0, Below w.heap.size w W0 → DiRow 0 W0.heap.size W0 a2 h.dirs) := fun W0 hB => Row.up r2 hB
  have HD : Hid (DiRow 0 w.heap.size w a2 h.dirs) := r2
  have K3 : Hid (∀ W0, Below w.heap.size w W0 → ArRow 0 W0.heap.size W0 a l) := fun W0 hB => Row.up hr hB
  have HB : Hid (HdBd 1048576 h) := hb
  have HT : Hid (∀ x ∈ l, ArBd 1048576 x) := ht
  have HY : Hid (incl h (decide (n = 0)) l = (x, y)) := hy
  have B0 : Hid (Below w.heap.size w (w.alloc (.cells #[.int .i64 h.k, .string h.al, .string h.nm, .slice a1 h.args.length c1, .slice a2 h.dirs.length c2, .slice a3 n c3] 50))) := (Below.refl _ _).alloc (Nat.le_refl _) _
  clear r1 r2 hr hb ht hy
  by_cases hbig : 4096 < l.length
  case pos =>
    have hz := HY.out
    unfold incl at hz
    rw [if_pos hbig] at hz
    simp only [Prod.mk.injEq] at hz
    obtain ⟨rfl, rfl⟩ := hz
    go_enter Try.func18, Try.ntmps18
    go_wp2_with fail
    go_ret2
    exact ⟨rfl, B0.out⟩
  go_enter Try.func18, Try.ntmps18
  go_wp2_with fail
  refine (spec_sel h n a1 a2 a3 c1 c2 c3 _ (K1.out _ B0.out) (K2.out _ B0.out) HB.out hn).mono ?_
  rintro e w1 ⟨rfl, hb1⟩
  have z1 : w.heap.size + 1 ≤ w1.heap.size := by have := hb1.size; simpa using this
  have Q1 : Hid (Below w.heap.size w w1) := B0.out.trans (hb1.mono (by simp))
  have A0 : Hid (w1.heap[w.heap.size]? = some (.cells #[.int .i64 h.k, .string h.al, .string h.nm, .slice a1 h.args.length c1, .slice a2 h.dirs.length c2, .slice a3 n c3] 50 (0, 0))) := (hb1.block w.heap.size (by simp)).trans (heap_alloc_new _ _)
  clear hb1
  cases hdb : hdB h (decide (n = 0)) with
  | false =>
    have hz := HY.out
    unfold incl at hz
    rw [if_neg hbig, hdb] at hz
    simp only [Bool.false_and, Bool.not_false, if_true, Prod.mk.injEq] at hz
    obtain ⟨rfl, rfl⟩ := hz
    go_wp2_with fail
    go_ret2
    exact ⟨rfl, Q1.out⟩
  | true =>
  go_wp2_with fail
  refine (spec_binds a c l _ (K3.out _ Q1.out) hl HT.out).mono ?_
  rintro e w2 ⟨rfl, hb2⟩
  have z2 := hb2.size
  have Q2 : Hid (Below w.heap.size w w2) := Q1.out.trans (hb2.mono (by omega))
  have A2 : Hid (w2.heap[w.heap.size]? = some (.cells #[.int .i64 h.k, .string h.al, .string h.nm, .slice a1 h.args.length c1, .slice a2 h.dirs.length c2, .slice a3 n c3] 50 (0, 0))) := (hb2.block w.heap.size (by omega)).trans A0.out
  clear hb2 A0
  cases hbb : bindB l with
  | false =>
    have hz := HY.out
    unfold incl at hz
    rw [if_neg hbig, hdb, hbb] at hz
    simp only [Bool.and_false, Bool.not_false, if_true, Prod.mk.injEq] at hz
    obtain ⟨rfl, rfl⟩ := hz
    go_wp2_with fail
    go_ret2
    exact ⟨rfl, Q2.out⟩
  | true =>
  have HX : Hid ((if !boundB h.dirs l then (false, 14) else (inclB h.dirs l, 0)) = (x, y)) := by rw [Hid, ← incl_ok hbig hdb hbb]; exact HY.out
  clear HY
  have q2 := fun o => row_cell A2.out o
  go_wp2_with fail
  obtain ⟨V, rfl⟩ : ∃ V, V = w2 := ⟨_, rfl⟩
  clear q2
  go_loopw [6] (fun i w' => ∃ (k : Nat), k ≤ h.dirs.length ∧ i = .int .i64 k ∧ Below V.heap.size V w' ∧ Hid ((h.dirs.take k).all (fun d => (bval d.v l).2) = true)) (fun i _ => h.dirs.length - (intOf i).toNat)
  case atStart => exact ⟨0, by omega, rfl, Below.refl _ _, rfl⟩
  case round =>
    obtain ⟨k, hk, rfl, hb, HK⟩ := hrel
    have HBR : Hid _ := hb
    have zr := hb.size
    have QR : Hid (Below w.heap.size w wr) := Q2.out.trans (hb.mono (by omega))
    have q0 := fun o => row_cell ((hb.block w.heap.size (by omega)).trans A2.out) o
    clear hb
    by_cases hlt : k < h.dirs.length
    case neg =>
      have hz := HX.out
      have hbd : boundB h.dirs l = true := by have := HK.out; rw [List.take_of_length_le (by omega)] at this; exact this
      rw [hbd] at hz
      simp only [Bool.not_true, Bool.false_eq_true, if_false, Prod.mk.injEq] at hz
      obtain ⟨hx, rfl⟩ := hz
      have HI : Hid (inclB h.dirs l = x) := hx
      clear hx hbd HX HK
      go_wp2_with fail
      refine (spec_incl h n a1 a2 a3 c1 c2 c3 a c l _ (K2.out _ QR.out) (K3.out _ QR.out) hl hd).mono ?_
      rintro e w3 ⟨rfl, hb3⟩
      have Q3 : Hid (Below w.heap.size w w3) := QR.out.trans (hb3.mono (by omega))
      rw [HI.out]
      clear hb3 q0
      go_wp2_with fail
      go_ret2
      exact ⟨rfl, Q3.out⟩
    obtain ⟨b5, o5, ha, _, hbl, d0, d1, d2, d3⟩ := (HD.out.keep (Below.agree QR.out (Nat.le_refl _))).cells_di k hlt
    subst ha
    obtain ⟨u, b', hu⟩ : ∃ u b', bval h.dirs[k].v l = (u, b') := ⟨_, _, rfl⟩
    have HU : Hid (bval h.dirs[k].v l = (u, b')) := hu
    clear hu
    go_wp2_with fail
    refine (spec_value h.dirs[k].v a c l u b' _ (K3.out _ QR.out) hl HU.out).mono ?_
    rintro e w1 ⟨rfl, hb1⟩
    have z1 := hb1.size
    have B1 : Hid (Below V.heap.size V w1) := HBR.out.trans (hb1.mono (by omega))
    have Q1 : Hid (Below w.heap.size w w1) := QR.out.trans (hb1.mono (by omega))
    clear hb1 d0 d1 d2 d3 q0
    cases b' with
    | false =>
      have hz := HX.out
      rw [bound_no hlt (by rw [HU.out])] at hz
      simp only [Bool.not_false, if_true, Prod.mk.injEq] at hz
      obtain ⟨rfl, rfl⟩ := hz
      clear HX
      go_wp2_with fail
      go_ret2
      exact ⟨rfl, Q1.out.alloc (by omega) _⟩
    | true =>
      have HN : Hid ((h.dirs.take (k + 1)).all (fun d => (bval d.v l).2) = true) := all_takeB hlt HK.out (by rw [HU.out])
      have B2 : Hid (∀ ob, Below V.heap.size V (w1.alloc ob)) := fun ob => B1.out.alloc (by omega) _
      go_wp2_with fail
      exact ⟨⟨k + 1, by omega, by go_num, B2.out _, HN⟩, by simp [intOf]; omega⟩

set_option maxHeartbeats 4000000 in
set_option maxRecDepth 40000 in
theorem impl_included (h : Hd) (n : Nat) (a1 a2 a3 : Option Addr) (c1 c2 c3 : Nat) (a : Option Addr) (c : Nat) (l : List Ar) (x : Bool) (y : Int) (w : World) (r1 : ArRow 0 w.heap.size w a1 h.args) (r2 : DiRow 0 w.heap.size w a2 h.dirs) (hb : HdBd 1048576 h) (hn : n ≤ 1048576) (hr : ArRow 0 w.heap.size w a l) (hl : l.length ≤ 1048576) (ht : ∀ x ∈ l, ArBd 1048576 x) (hy : incl h (decide (n = 0)) l = (x, y)) :
    Calls Try.prog 20 #[.agg #[.int .i64 h.k, .string h.al, .string h.nm, .slice a1 h.args.length c1, .slice a2 h.dirs.length c2, .slice a3 n c3], .slice a l.length c] w fun e w' => e = .returned (.tuple #[.bool x, .int .i64 y]) ∧ Below w.heap.size w w' := by
  have hd : h.dirs.length ≤ 1048576 := hb.2.2.2.2.1
  have K1 : Hid (∀ W0, Below w.heap.size w W0 → ArRow 0 W0.heap.size W0 a1 h.args) := fun W0 hB => Row.up r1 hB
  have K2 : Hid (∀ W0, Below w.heap.size w W0 → DiRow 0 W0.heap.size W0 a2 h.dirs) := fun W0 hB => Row.up r2 hB
  have HD : Hid (DiRow 0 w.heap.size w a2 h.dirs) := r2
  have K3 : Hid (∀ W0, Below w.heap.size w W0 → ArRow 0 W0.heap.size W0 a l) := fun W0 hB => Row.up hr hB
  have HB : Hid (HdBd 1048576 h) := hb
  have HT : Hid (∀ x ∈ l, ArBd 1048576 x) := ht
  have HY : Hid (incl h (decide (n = 0)) l = (x, y)) := hy
  have B0 : Hid (Below w.heap.size w (w.alloc (.cells #[.int .i64 h.k, .string h.al, .string h.nm, .slice a1 h.args.length c1, .slice a2 h.dirs.length c2, .slice a3 n c3] 50))) := (Below.refl _ _).alloc (Nat.le_refl _) _
  clear r1 r2 hr hb ht hy
  by_cases hbig : 4096 < l.length
  case pos =>
    have hz := HY.out
    unfold incl at hz
    rw [if_pos hbig] at hz
    simp only [Prod.mk.injEq] at hz
    obtain ⟨rfl, rfl⟩ := hz
    go_enter Try.func20, Try.ntmps20
    go_wp2_with fail
    go_ret2
    exact ⟨rfl, B0.out⟩
  go_enter Try.func20, Try.ntmps20
  go_wp2_with fail
  refine (impl_alone h n a1 a2 a3 c1 c2 c3 _ (K1.out _ B0.out) (K2.out _ B0.out) HB.out hn).mono ?_
  rintro e w1 ⟨rfl, hb1⟩
  have z1 : w.heap.size + 1 ≤ w1.heap.size := by have := hb1.size; simpa using this
  have Q1 : Hid (Below w.heap.size w w1) := B0.out.trans (hb1.mono (by simp))
  have A0 : Hid (w1.heap[w.heap.size]? = some (.cells #[.int .i64 h.k, .string h.al, .string h.nm, .slice a1 h.args.length c1, .slice a2 h.dirs.length c2, .slice a3 n c3] 50 (0, 0))) := (hb1.block w.heap.size (by simp)).trans (heap_alloc_new _ _)
  clear hb1
  cases hdb : hdB h (decide (n = 0)) with
  | false =>
    have hz := HY.out
    unfold incl at hz
    rw [if_neg hbig, hdb] at hz
    simp only [Bool.false_and, Bool.not_false, if_true, Prod.mk.injEq] at hz
    obtain ⟨rfl, rfl⟩ := hz
    go_wp2_with fail
    go_ret2
    exact ⟨rfl, Q1.out⟩
  | true =>
  go_wp2_with fail
  refine (impl_binds a c l _ (K3.out _ Q1.out) hl HT.out).mono ?_
  rintro e w2 ⟨rfl, hb2⟩
  have z2 := hb2.size
  have Q2 : Hid (Below w.heap.size w w2) := Q1.out.trans (hb2.mono (by omega))
  have A2 : Hid (w2.heap[w.heap.size]? = some (.cells #[.int .i64 h.k, .string h.al, .string h.nm, .slice a1 h.args.length c1, .slice a2 h.dirs.length c2, .slice a3 n c3] 50 (0, 0))) := (hb2.block w.heap.size (by omega)).trans A0.out
  clear hb2 A0
  cases hbb : bindB l with
  | false =>
    have hz := HY.out
    unfold incl at hz
    rw [if_neg hbig, hdb, hbb] at hz
    simp only [Bool.and_false, Bool.not_false, if_true, Prod.mk.injEq] at hz
    obtain ⟨rfl, rfl⟩ := hz
    go_wp2_with fail
    go_ret2
    exact ⟨rfl, Q2.out⟩
  | true =>
  have HX : Hid ((if !boundB h.dirs l then (false, 14) else (inclB h.dirs l, 0)) = (x, y)) := by rw [Hid, ← incl_ok hbig hdb hbb]; exact HY.out
  clear HY
  have q2 := fun o => row_cell A2.out o
  go_wp2_with fail
  obtain ⟨V, rfl⟩ : ∃ V, V = w2 := ⟨_, rfl⟩
  clear q2
  go_loopw [26] (fun i w' => ∃ (k : Nat), k ≤ h.dirs.length ∧ i = .int .i64 k ∧ Below V.heap.size V w' ∧ Hid ((h.dirs.take k).all (fun d => (bval d.v l).2) = true)) (fun i _ => h.dirs.length - (intOf i).toNat)
  case atStart => exact ⟨0, by omega, rfl, Below.refl _ _, rfl⟩
  case round =>
    obtain ⟨k, hk, rfl, hb, HK⟩ := hrel
    have HBR : Hid _ := hb
    have zr := hb.size
    have QR : Hid (Below w.heap.size w wr) := Q2.out.trans (hb.mono (by omega))
    have q0 := fun o => row_cell ((hb.block w.heap.size (by omega)).trans A2.out) o
    clear hb
    by_cases hlt : k < h.dirs.length
    case neg =>
      have hz := HX.out
      have hbd : boundB h.dirs l = true := by have := HK.out; rw [List.take_of_length_le (by omega)] at this; exact this
      rw [hbd] at hz
      simp only [Bool.not_true, Bool.false_eq_true, if_false, Prod.mk.injEq] at hz
      obtain ⟨hx, rfl⟩ := hz
      have HI : Hid (inclB h.dirs l = x) := hx
      clear hx hbd HX HK
      go_wp2_with fail
      refine (impl_incl h n a1 a2 a3 c1 c2 c3 a c l _ (K2.out _ QR.out) (K3.out _ QR.out) hl hd).mono ?_
      rintro e w3 ⟨rfl, hb3⟩
      have Q3 : Hid (Below w.heap.size w w3) := QR.out.trans (hb3.mono (by omega))
      rw [HI.out]
      clear hb3 q0
      go_wp2_with fail
      go_ret2
      exact ⟨rfl, Q3.out⟩
    obtain ⟨b5, o5, ha, _, hbl, d0, d1, d2, d3⟩ := (HD.out.keep (Below.agree QR.out (Nat.le_refl _))).cells_di k hlt
    subst ha
    obtain ⟨u, b', hu⟩ : ∃ u b', bval h.dirs[k].v l = (u, b') := ⟨_, _, rfl⟩
    have HU : Hid (bval h.dirs[k].v l = (u, b')) := hu
    clear hu
    go_wp2_with fail
    refine (impl_bound h.dirs[k].v a c l u b' _ (K3.out _ ?b0) hl HU.out).mono ?_
    case b0 => exact QR.out.alloc (by omega) _
    rintro e w1 ⟨rfl, hb1⟩
    have z1 : wr.heap.size + 1 ≤ w1.heap.size := by have := hb1.size; simpa using this
    have B1 : Hid (Below V.heap.size V w1) := (HBR.out.alloc (by omega) _).trans (hb1.mono (by simp <;> omega))
    have Q1 : Hid (Below w.heap.size w w1) := (QR.out.alloc (by omega) _).trans (hb1.mono (by simp <;> omega))
    clear hb1 d0 d1 d2 d3 q0
    cases b' with
    | false =>
      have hz := HX.out
      rw [bound_no hlt (by rw [HU.out])] at hz
      simp only [Bool.not_false, if_true, Prod.mk.injEq] at hz
      obtain ⟨rfl, rfl⟩ := hz
      clear HX
      go_wp2_with fail
      go_ret2
      exact ⟨rfl, Q1.out.alloc (by omega) _⟩
    | true =>
      have HN : Hid ((h.dirs.take (k + 1)).all (fun d => (bval d.v l).2) = true) := all_takeB hlt HK.out (by rw [HU.out])
      have B2 : Hid (∀ ob, Below V.heap.size V (w1.alloc ob)) := fun ob => B1.out.alloc (by omega) _
      go_wp2_with fail
      exact ⟨⟨k + 1, by omega, by go_num, B2.out _, HN⟩, by simp [intOf]; omega⟩
end Go.Proofs.Ytdhgojeanebhoaa
