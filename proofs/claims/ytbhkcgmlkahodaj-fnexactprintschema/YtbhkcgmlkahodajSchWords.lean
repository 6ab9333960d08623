/- The program's text of a schema: its words, one by one. -/
import Derived.Test.YtbhkcgmlkahodajSchPrint
namespace Go.Proofs.Ytbhkcgmlkahodaj.G
open Go.ChangeShapes Go.WideShapes Go.ChangeAt Go.RowKit
set_option linter.unusedVariables false

def tvs (l : List (List UInt8)) : List Value := l.map fun t => .string ⟨t.toArray⟩
theorem tvs_app (a b : List (List UInt8)) : tvs (a ++ b) = tvs a ++ tvs b := by simp [tvs]
theorem tvs_len (a : List (List UInt8)) : (tvs a).length = a.length := by simp [tvs]
theorem bt_nl (s : ByteArray) : (⟨(nl s).toArray⟩ : ByteArray) = s := by cases s; simp [nl]
def Own (w : World) (base : Nat) (v : Value) (n : Nat) (l : List (List UInt8)) : Prop := w.ownsRow base 9 1 v n (tvs l)
theorem Own.len {w : World} {base n : Nat} {v : Value} {l : List (List UInt8)} (h : Own w base v n l) : n = l.length := by
  have := h.1; rw [tvs_len] at this; omega
theorem Own.lit (w : World) (vs : Array Value) (l : List (List UInt8)) (h : vs.toList = tvs l) (hm : vs.size ≤ 100) : Own (w.alloc (.cells vs 9)) w.heap.size (.slice (some ⟨w.heap.size, 0, none⟩) vs.size vs.size) vs.size l := by
  refine ⟨by rw [← h]; simp, .inr ⟨w.heap.size, vs.size, vs, rfl, Nat.le_refl _, heap_alloc_new w _, Nat.le_refl _, by unfold maxLen; omega, by simp, by rw [← h, Nat.mul_one, ← Array.length_toList, List.take_length]⟩⟩
theorem Own.up {w w' : World} {base n : Nat} {v : Value} {l : List (List UInt8)} (h : Own w base v n l) (hb : Below w.heap.size w w') : Own w' base v n l := own_below h hb
theorem Own.low {w : World} {base base' n : Nat} {v : Value} {l : List (List UInt8)} (h : Own w base v n l) (hb : base' ≤ base) : Own w base' v n l := by
  refine ⟨h.1, ?_⟩
  rcases h.2 with h | ⟨g, cap, cur, h1, h2, h3⟩
  · exact .inl h
  · exact .inr ⟨g, cap, cur, h1, Nat.le_trans hb h2, h3⟩
/-- An owned row of words as a slice: its cells. -/
theorem Own.open_ {w : World} {base n : Nat} {v : Value} {l : List (List UInt8)} (h : Own w base v n l) (h0 : 0 < n) : ∃ g cap, v = .slice (some ⟨g, 0, none⟩) n cap ∧ base ≤ g ∧ g < w.heap.size ∧ n ≤ cap ∧ ∀ j u, (tvs l)[j]? = some u → w.cell? ((⟨g, 0, none⟩ : Addr).add j) = some u := by
  rcases h.2 with ⟨_, h1⟩ | ⟨g, cap, cur, rfl, h2, h3, h4, h5, h6, h7⟩
  · omega
  · refine ⟨g, cap, rfl, h2, (Array.getElem?_eq_some_iff.1 h3).1, h4, fun j u hu => ?_⟩
    have hj : j < n := by have := (List.getElem?_eq_some_iff.1 hu).1; rw [tvs_len] at this; have := Own.len (w := w) (base := base) (v := .slice (some ⟨g, 0, none⟩) n cap) (n := n) (l := l) h; omega
    have e : ((⟨g, 0, none⟩ : Addr).add j) = ⟨g, j, none⟩ := by rw [add_plain, Nat.zero_add]
    rw [e, row_cell h3]
    rw [← h7, List.getElem?_take, if_pos (by omega)] at hu
    simpa using hu
theorem lit_cells (w : World) (vs : Array Value) (e : TypeId) : ∀ j u, vs.toList[j]? = some u → (w.alloc (.cells vs e)).cell? ((⟨w.heap.size, 0, none⟩ : Addr).add j) = some u := by
  intro j u hu
  have e1 : ((⟨w.heap.size, 0, none⟩ : Addr).add j) = ⟨w.heap.size, j, none⟩ := by rw [add_plain, Nat.zero_add]
  rw [e1, row_cell (heap_alloc_new _ _)]
  simpa using hu
theorem tvs_one (l : List (List UInt8)) : ∀ u ∈ tvs l, u.oneCell' = true := by
  intro u hu
  obtain ⟨t, _, rfl⟩ := List.mem_map.1 hu
  rfl

set_option maxHeartbeats 1000000 in
theorem impl_banged (b : Bool) (v : Value) (n base : Nat) (l : List (List UInt8)) (w : World) (ho : Own w base v n l) (hB : base ≤ w.heap.size) (hn : n ≤ 100000) :
    Calls Try.prog 71 #[.bool b, v] w fun e w' => ∃ v' n', e = .returned v' ∧ Own w' base v' n' (l ++ tkB b) ∧ Below base w w' := by
  cases b
  · have HO : Hid (Own w base v n (l ++ tkB false)) := by unfold Hid tkB; simpa using ho
    clear ho
    go_enter Try.func71, Try.ntmps71
    go_wp2_with fail
    go_ret
    exact ⟨_, _, rfl, HO.out, Below.refl _ _⟩
  · have HO : Hid (Own (w.alloc (.cells #[.string ⟨#[33]⟩] 9)) base v n l) := ho.up ((Below.refl _ _).alloc (Nat.le_refl _) _)
    obtain ⟨i9, hi9, hz9, hs9, hy9⟩ := info_parts info9
    clear ho
    go_enter Try.func71, Try.ntmps71
    go_wp2_with (at_builtin; refine wpList_append_own _ rfl _ _ 75 rfl base 9 i9 _ 1 16 Try.underlying75 hi9 hz9 hs9 hy9 rfl (by decide) _ n _ rfl HO.out ⟨w.heap.size, 0, none⟩ 1 1 [.string ⟨#[33]⟩] rfl rfl (lit_cells w #[.string ⟨#[33]⟩] _) (tvs_one [[33]]) (by unfold maxLen; omega) (by omega) (by simp; omega) ?_)
    intro v' w3 hown hgrow _
    have HN : Hid (Own w3 base v' (n + 1) (l ++ tkB true)) := by unfold Hid Own; rw [tvs_app]; exact hown
    have q3 : Hid (Below base w w3) := (((Below.refl base w)).alloc hB _).grown hgrow (by simp; omega) (fun g hg => (World.ownsRow.lt HO.out g hg).1)
    clear hown hgrow
    go_wp2_with fail
    go_ret
    exact ⟨_, _, rfl, HN.out, q3.out⟩
set_option maxHeartbeats 1000000 in
theorem impl_typeWords (f : Fd) (a3 : Option Addr) (c3 : Nat) (w : World) :
    Calls Try.prog 72 #[.agg #[.string f.nm, .slice a3 f.args.length c3, .string f.ty, .bool f.ls, .bool f.bg]] w fun e w' => ∃ v n, e = .returned v ∧ Own w' w.heap.size v n (tyT f) ∧ Below w.heap.size w w' := by
  cases hls : f.ls
  · have HO : Hid (Own ((w.alloc (.cells #[.string f.nm, .slice a3 f.args.length c3, .string f.ty, .bool false, .bool f.bg] 36)).alloc (.cells #[.string f.ty] 9)) (w.heap.size + 1) (.slice (some ⟨w.heap.size + 1, 0, none⟩) 1 1) 1 [nl f.ty]) := by
      have := Own.lit (w.alloc (.cells #[.string f.nm, .slice a3 f.args.length c3, .string f.ty, .bool false, .bool f.bg] 36)) #[.string f.ty] [nl f.ty] (by simp [tvs, bt_nl]) (by simp)
      unfold Hid
      simpa using this
    have B0 : Hid (Below w.heap.size w ((w.alloc (.cells #[.string f.nm, .slice a3 f.args.length c3, .string f.ty, .bool false, .bool f.bg] 36)).alloc (.cells #[.string f.ty] 9))) := ((Below.refl _ _).alloc (Nat.le_refl _) _).alloc (by simp) _
    go_enter Try.func72, Try.ntmps72
    go_wp2_with fail
    refine (impl_banged f.bg _ 1 (w.heap.size + 1) [nl f.ty] _ HO.out (by simp) (by omega)).mono ?_
    rintro e w2 ⟨v', n', rfl, ho, hb2⟩
    have HN : Hid (Own w2 w.heap.size v' n' (tyT f)) := by unfold Hid tyT; rw [hls]; exact ho.low (by omega)
    have Q2 : Hid (Below w.heap.size w w2) := B0.out.trans (hb2.mono (by omega))
    clear ho hb2
    go_wp2_with fail
    go_ret
    exact ⟨_, _, rfl, HN.out, Q2.out⟩
  · have HO : Hid (Own ((w.alloc (.cells #[.string f.nm, .slice a3 f.args.length c3, .string f.ty, .bool true, .bool f.bg] 36)).alloc (.cells #[.string ⟨#[91]⟩, .string f.ty, .string ⟨#[93]⟩] 9)) (w.heap.size + 1) (.slice (some ⟨w.heap.size + 1, 0, none⟩) 3 3) 3 [[91], nl f.ty, [93]]) := by
      have := Own.lit (w.alloc (.cells #[.string f.nm, .slice a3 f.args.length c3, .string f.ty, .bool true, .bool f.bg] 36)) #[.string ⟨#[91]⟩, .string f.ty, .string ⟨#[93]⟩] [[91], nl f.ty, [93]] (by simp [tvs, bt_nl]) (by simp)
      unfold Hid
      simpa using this
    have B0 : Hid (Below w.heap.size w ((w.alloc (.cells #[.string f.nm, .slice a3 f.args.length c3, .string f.ty, .bool true, .bool f.bg] 36)).alloc (.cells #[.string ⟨#[91]⟩, .string f.ty, .string ⟨#[93]⟩] 9))) := ((Below.refl _ _).alloc (Nat.le_refl _) _).alloc (by simp) _
    go_enter Try.func72, Try.ntmps72
    go_wp2_with fail
    refine (impl_banged f.bg _ 3 (w.heap.size + 1) [[91], nl f.ty, [93]] _ HO.out (by simp) (by omega)).mono ?_
    rintro e w2 ⟨v', n', rfl, ho, hb2⟩
    have HN : Hid (Own w2 w.heap.size v' n' (tyT f)) := by unfold Hid tyT; rw [hls]; exact ho.low (by omega)
    have Q2 : Hid (Below w.heap.size w w2) := B0.out.trans (hb2.mono (by omega))
    clear ho hb2
    go_wp2_with fail
    go_ret
    exact ⟨_, _, rfl, HN.out, Q2.out⟩
end Go.Proofs.Ytbhkcgmlkahodaj.G
