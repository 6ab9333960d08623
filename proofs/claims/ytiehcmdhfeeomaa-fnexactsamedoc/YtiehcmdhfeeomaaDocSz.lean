/- What the law counts of a document ahead of all: it ends, and what is not too great is bounded in all its parts. -/
import Derived.Test.YtiehcmdhfeeomaaSelFrom
namespace Go.Proofs.Ytiehcmdhfeeomaa
open Go.ChangeShapes Go.WideShapes Go.ChangeAt Go.RowKit
set_option linter.unusedVariables false

theorem Sz.mono {n n' m : Int} {p q : Prop} (h : Sz n m p) (hn : n ≤ n') (hp : p → q) : Sz n' m q := ⟨by have := h.1; omega, h.2.1, fun h0 => hp (h.2.2 h0)⟩
theorem Sz.neg {n : Int} {p : Prop} (h : 0 ≤ n) : Sz n (-1) p := ⟨by omega, by omega, fun h => by omega⟩

set_option maxHeartbeats 1000000 in
theorem sz_arg (x : Ar) (n : Int) (w : World) (hs : ArBd maxLen x) (h0 : 0 ≤ n) (h1 : n ≤ 1048576) :
    Calls Try.prog 96 #[.agg #[.string x.nm, .int .i64 x.v.k, .int .i64 x.v.n, .string x.v.t], .int .i64 n] w fun e w' => ∃ m, e = .returned (.int .i64 m) ∧ Sz n m (ArBd 1048576 x) ∧ Below w.heap.size w w' := by
  obtain ⟨nm, a, b, s⟩ := x
  obtain ⟨hs1, hs2⟩ := hs
  simp only at hs1 hs2 ⊢
  have hs1' := hs1
  unfold maxLen at hs1'
  by_cases h : n - nm.size < 0
  · go_enter Try.func96, Try.ntmps96
    go_wp2_with fail
    go_ret
    exact ⟨-1, rfl, Sz.neg h0, (Below.refl _ _).alloc (Nat.le_refl _) _⟩
  · go_enter Try.func96, Try.ntmps96
    go_wp2_with fail
    refine (sz_val ⟨a, b, s⟩ _ _ hs2 (by omega) (by omega)).mono ?_
    rintro e w1 ⟨m, rfl, hm, hb1⟩
    have HM : Hid (Sz n m (ArBd 1048576 ⟨nm, a, b, s⟩)) := hm.mono (by omega) (fun h => ⟨by simp only; omega, h⟩)
    clear hm
    have q1 : Below w.heap.size w w1 := ((Below.refl _ _).alloc (Nat.le_refl _) _).trans (hb1.mono (by simp))
    by_cases hneg : m < 0
    · go_wp2_with fail
      go_ret
      exact ⟨-1, rfl, Sz.neg h0, q1⟩
    · go_wp2_with fail
      go_ret
      exact ⟨m, rfl, HM.out, q1⟩
set_option maxHeartbeats 1000000 in
theorem sz_dir (x : Di) (n : Int) (w : World) (hs : DiBd maxLen x) (h0 : 0 ≤ n) (h1 : n ≤ 1048576) :
    Calls Try.prog 97 #[.agg #[.bool x.sk, .int .i64 x.v.k, .int .i64 x.v.n, .string x.v.t], .int .i64 n] w fun e w' => ∃ m, e = .returned (.int .i64 m) ∧ Sz n m (DiBd 1048576 x) ∧ Below w.heap.size w w' := by
  obtain ⟨sk, a, b, s⟩ := x
  unfold DiBd at hs ⊢
  simp only at hs ⊢
  go_enter Try.func97, Try.ntmps97
  go_wp2_with fail
  refine (sz_val ⟨a, b, s⟩ _ _ hs (by omega) (by omega)).mono ?_
  rintro e w1 ⟨m, rfl, hm, hb1⟩
  have HM : Hid (Sz n m (s.size ≤ 1048576)) := hm
  clear hm
  have q1 : Below w.heap.size w w1 := ((Below.refl _ _).alloc (Nat.le_refl _) _).trans (hb1.mono (by simp))
  by_cases hneg : m < 0
  · go_wp2_with fail
    go_ret
    exact ⟨-1, rfl, Sz.neg h0, q1⟩
  · go_wp2_with fail
    go_ret
    exact ⟨m, rfl, HM.out, q1⟩
theorem all_take {α : Type} {p : α → Prop} {l : List α} {k : Nat} (hk : k < l.length) (h : ∀ x ∈ l.take k, p x) (h2 : p l[k]) : ∀ x ∈ l.take (k + 1), p x := by
  rw [List.take_succ_eq_append_getElem hk]
  intro x hx
  rcases List.mem_append.1 hx with hx | hx
  · exact h x hx
  · simp only [List.mem_singleton] at hx; subst hx; exact h2
set_option maxHeartbeats 1000000 in
theorem sz_args (a : Option Addr) (c : Nat) (l : List Ar) (n : Int) (w : World) (hr : ArRow 0 w.heap.size w a l) (hl : l.length ≤ maxLen) (ht : ∀ x ∈ l, ArBd maxLen x) (h0 : 0 ≤ n) (h1 : n ≤ 1048576) :
    Calls Try.prog 88 #[.slice a l.length c, .int .i64 n] w fun e w' => ∃ m, e = .returned (.int .i64 m) ∧ Sz n m (l.length ≤ 1048576 ∧ ∀ x ∈ l, ArBd 1048576 x) ∧ Below w.heap.size w w' := by
  unfold maxLen at hl
  by_cases hz : n - l.length < 0
  · go_enter Try.func88, Try.ntmps88
    go_wp2_with fail
    go_ret
    exact ⟨-1, rfl, Sz.neg h0, Below.refl _ _⟩
  · have HR : Hid (ArRow 0 w.heap.size w a l) := hr
    have HT : Hid (∀ x ∈ l, ArBd maxLen x) := ht
    clear hr ht
    go_enter Try.func88, Try.ntmps88
    go_wp2_with fail
    go_loopw [1, 5] (fun r i w' => ∃ (k : Nat) (m : Int), k ≤ l.length ∧ i = .int .i64 k ∧ r = .int .i64 m ∧ 0 ≤ m ∧ m ≤ n ∧ Below w.heap.size w w' ∧ Hid (∀ x ∈ l.take k, ArBd 1048576 x)) (fun _ i _ => l.length - (intOf i).toNat)
    case atStart => exact ⟨0, _, by omega, rfl, rfl, by omega, by omega, Below.refl _ _, by simp [Hid]⟩
    case round =>
      rename_i wr
      obtain ⟨k, m, hk, rfl, rfl, hm0, hm1, hb, HK⟩ := hrel
      by_cases hlt : k < l.length
      · obtain ⟨b, o, ha, _, hbl, c0, c1, c2, c3⟩ := (HR.out.keep (Below.agree hb (Nat.le_refl _))).cells_ar k hlt
        subst ha
        have HX : Hid (ArBd maxLen l[k]) := HT.out l[k] (List.getElem_mem hlt)
        go_wp2_with fail
        refine (sz_arg l[k] m _ HX.out hm0 (by omega)).mono ?_
        rintro e w1 ⟨m1, rfl, hm, hb1⟩
        have HM : Hid (Sz m m1 (ArBd 1048576 l[k])) := hm
        clear hm c0 c1 c2 c3
        by_cases hneg : m1 < 0
        · go_wp2_with fail
          go_ret
          exact ⟨-1, rfl, Sz.neg h0, hb.trans (hb1.mono hb.size)⟩
        · go_wp2_with fail
          go_roundw
          case rel => exact ⟨k + 1, m1, by omega, by go_num, rfl, by omega, by have := HM.out.1; omega, hb.trans (hb1.mono hb.size), all_take hlt HK.out (HM.out.2.2 (by omega))⟩
          case measure => simp [intOf]; omega
      · go_wp2_with fail
        go_ret
        rw [List.take_of_length_le (by omega)] at HK
        exact ⟨m, rfl, ⟨hm1, by omega, fun _ => ⟨by omega, HK.out⟩⟩, hb⟩
set_option maxHeartbeats 1000000 in
theorem sz_dirs (a : Option Addr) (c : Nat) (l : List Di) (n : Int) (w : World) (hr : DiRow 0 w.heap.size w a l) (hl : l.length ≤ maxLen) (ht : ∀ x ∈ l, DiBd maxLen x) (h0 : 0 ≤ n) (h1 : n ≤ 1048576) :
    Calls Try.prog 89 #[.slice a l.length c, .int .i64 n] w fun e w' => ∃ m, e = .returned (.int .i64 m) ∧ Sz n m (l.length ≤ 1048576 ∧ ∀ x ∈ l, DiBd 1048576 x) ∧ Below w.heap.size w w' := by
  unfold maxLen at hl
  by_cases hz : n - l.length < 0
  · go_enter Try.func89, Try.ntmps89
    go_wp2_with fail
    go_ret
    exact ⟨-1, rfl, Sz.neg h0, Below.refl _ _⟩
  · have HR : Hid (DiRow 0 w.heap.size w a l) := hr
    have HT : Hid (∀ x ∈ l, DiBd maxLen x) := ht
    clear hr ht
    go_enter Try.func89, Try.ntmps89
    go_wp2_with fail
    go_loopw [1, 5] (fun r i w' => ∃ (k : Nat) (m : Int), k ≤ l.length ∧ i = .int .i64 k ∧ r = .int .i64 m ∧ 0 ≤ m ∧ m ≤ n ∧ Below w.heap.size w w' ∧ Hid (∀ x ∈ l.take k, DiBd 1048576 x)) (fun _ i _ => l.length - (intOf i).toNat)
    case atStart => exact ⟨0, _, by omega, rfl, rfl, by omega, by omega, Below.refl _ _, by simp [Hid]⟩
    case round =>
      rename_i wr
      obtain ⟨k, m, hk, rfl, rfl, hm0, hm1, hb, HK⟩ := hrel
      by_cases hlt : k < l.length
      · obtain ⟨b, o, ha, _, hbl, c0, c1, c2, c3⟩ := (HR.out.keep (Below.agree hb (Nat.le_refl _))).cells_di k hlt
        subst ha
        have HX : Hid (DiBd maxLen l[k]) := HT.out l[k] (List.getElem_mem hlt)
        go_wp2_with fail
        refine (sz_dir l[k] m _ HX.out hm0 (by omega)).mono ?_
        rintro e w1 ⟨m1, rfl, hm, hb1⟩
        have HM : Hid (Sz m m1 (DiBd 1048576 l[k])) := hm
        clear hm c0 c1 c2 c3
        by_cases hneg : m1 < 0
        · go_wp2_with fail
          go_ret
          exact ⟨-1, rfl, Sz.neg h0, hb.trans (hb1.mono hb.size)⟩
        · go_wp2_with fail
          go_roundw
          case rel => exact ⟨k + 1, m1, by omega, by go_num, rfl, by omega, by have := HM.out.1; omega, hb.trans (hb1.mono hb.size), all_take hlt HK.out (HM.out.2.2 (by omega))⟩
          case measure => simp [intOf]; omega
      · go_wp2_with fail
        go_ret
        rw [List.take_of_length_le (by omega)] at HK
        exact ⟨m, rfl, ⟨hm1, by omega, fun _ => ⟨by omega, HK.out⟩⟩, hb⟩
end Go.Proofs.Ytiehcmdhfeeomaa
