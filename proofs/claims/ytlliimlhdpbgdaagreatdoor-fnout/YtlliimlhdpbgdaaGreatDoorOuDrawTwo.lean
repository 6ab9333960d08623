/- A drawn value of an answer: the contract, and the values without items. -/
import Derived.Test.YtlliimlhdpbgdaaGreatDoorOuDraw
import Derived.Test.YtlliimlhdpbgdaaGreatDoorOuFnMath
namespace Go.Proofs.YtlliimlhdpbgdaaGreatDoor.G
open Go.ChangeShapes Go.WideShapes Go.ChangeAt Go.RowKit
set_option linter.unusedVariables false

/-- How many choices a value of depth d takes at most. -/
def choD : Nat → Nat
  | 0 => 4
  | d + 1 => 4 + 3 * (1 + choD d)
def OutIs (w : World) (d L n k : Nat) (a : Option Addr) (e : Ending) (w' : World) : Prop :=
  (∃ (h : Oh) (sub : Ous) (a1 a2 : Option Addr) (c1 c2 : Nat), e = .returned (.agg #[.int .i64 h.k, .int .i64 h.n, .string h.t, .slice a1 h.keys.length c1, .slice a2 sub.len c2]) ∧ h.keys.length ≤ c1 ∧ KeRow w.heap.size w'.heap.size w' a1 h.keys ∧ OuRow w.heap.size w'.heap.size w' a2 sub ∧ DrawnB d h sub) ∧
    SrcSt w' L a n (k + choD d) ∧ w.grownBy w' (some L)
def OutAny (d : Nat) : Prop := ∀ (L n k : Nat) (a : Option Addr) (w : World), SrcSt w L a n k → ByteRow L w a n → k + choD d ≤ 100000 → n ≤ 1048576 →
  Calls Tryz.prog 17 #[.pointer (some ⟨L, 0, none⟩), .int .i64 (d : Int)] w (OutIs w d L n k a)
theorem OutIs.leaf {w w' : World} {d L n k : Nat} {a : Option Addr} {i m : Int} {t : ByteArray} (hh : headB ⟨i, m, t, []⟩ .nil = true) (hs : SrcSt w' L a n (k + choD d)) (hg : w.grownBy w' (some L)) : OutIs w d L n k a (.returned (.agg #[.int .i64 i, .int .i64 m, .string t, .slice none 0 0, .slice none 0 0])) w' :=
  ⟨⟨⟨i, m, t, []⟩, .nil, none, none, 0, 0, rfl, Nat.le_refl _, .inl rfl, .inl rfl, drawn_leaf hh⟩, hs, hg⟩
theorem res_row (tmps : Array Value) (W : World) (N : Nat) (cs : Array Value) (h4 : tmps.getD 4 undef = .pointer (some ⟨N, 0, none⟩)) (hrow : W.heap[N]? = some (.cells cs 26 (0, 0))) (hsz : cs.size = 5) :
    (results Tryz.f17 tmps).run Tryz.prog W = .ok (.agg cs) W := by
  have c5 : (Tryz.prog.info? 26).map (·.size) = some 5 := by kernel_rfl
  exact results_cell_row Tryz.results17 tmps W N 26 cs (0, 0) _ h4 hrow Tryz.underlying26 rfl (by rw [hsz]; exact c5)
theorem grown_farO {a w : World} {r : Option Nat} (h : a.grownBy w r) {b : Nat} (hb : a.heap.size ≤ b) (o : Nat) (v : Value) : a.grownBy (w.setCell ⟨b, o, none⟩ v) r :=
  ⟨h.os, h.tape, h.output, by simpa using h.size, fun k hk hn => (heap_set _ _ _ _ _ (by omega)).trans (h.block k hk hn)⟩
def putV (W : World) (R : Nat) (v0 v1 v2 v3 v4 : Value) : World := ((((W.setCell ⟨R, 0, none⟩ v0).setCell ⟨R, 1, none⟩ v1).setCell ⟨R, 2, none⟩ v2).setCell ⟨R, 3, none⟩ v3).setCell ⟨R, 4, none⟩ v4
theorem putV_row {W : World} {R : Nat} {u0 u1 u2 u3 u4 : Value} {T : TypeId} (h : W.heap[R]? = some (.cells #[u0, u1, u2, u3, u4] T (0, 0))) (v0 v1 v2 v3 v4 : Value) : (putV W R v0 v1 v2 v3 v4).heap[R]? = some (.cells #[v0, v1, v2, v3, v4] T (0, 0)) := by
  have := row_set (row_set (row_set (row_set (row_set h 0 v0) 1 v1) 2 v2) 3 v3) 4 v4
  unfold putV
  simpa using this
theorem putV_src {W : World} {R L n k : Nat} {a : Option Addr} (h : SrcSt W L a n k) (hR : L ≠ R) (v0 v1 v2 v3 v4 : Value) : SrcSt (putV W R v0 v1 v2 v3 v4) L a n k := by
  refine h.move ?_
  unfold putV
  rw [heap_set _ _ _ _ _ hR, heap_set _ _ _ _ _ hR, heap_set _ _ _ _ _ hR, heap_set _ _ _ _ _ hR, heap_set _ _ _ _ _ hR]
theorem putV_grown {w W : World} {R : Nat} {r : Option Nat} (h : w.grownBy W r) (hR : w.heap.size ≤ R) (v0 v1 v2 v3 v4 : Value) : w.grownBy (putV W R v0 v1 v2 v3 v4) r :=
  grown_farO (grown_farO (grown_farO (grown_farO (grown_farO h hR _ _) hR _ _) hR _ _) hR _ _) hR _ _
/-- A value without items, put into the result's block. -/
theorem leaf_end {w W : World} {d L n k k' : Nat} {a : Option Addr} {u0 u1 u2 u3 u4 : Value} (hrow : W.heap[w.heap.size]? = some (.cells #[u0, u1, u2, u3, u4] 26 (0, 0))) (hs : SrcSt W L a n k') (hk : k' ≤ k + choD d) (hL : L < w.heap.size) (hg : w.grownBy W (some L)) {i m : Int} {t : ByteArray} (hh : headB ⟨i, m, t, []⟩ .nil = true) (act : Act) (h4 : act.tmps.getD 4 undef = .pointer (some ⟨w.heap.size, 0, none⟩)) (hdef : act.defers = []) :
    bodyPost Tryz.prog Tryz.f17 (OutIs w d L n k a) Exit.ret act (putV W w.heap.size (.int .i64 i) (.int .i64 m) (.string t) (.slice none 0 0) (.slice none 0 0)) :=
  bodyPost_ret (v := .agg #[.int .i64 i, .int .i64 m, .string t, .slice none 0 0, .slice none 0 0]) (res_row _ _ w.heap.size _ h4 (putV_row hrow _ _ _ _ _) rfl) hdef (OutIs.leaf hh ((putV_src hs (by omega) _ _ _ _ _).more hk) (putV_grown hg (Nat.le_refl _) _ _ _ _ _))
theorem head_null : headB ⟨0, 0, ⟨#[]⟩, []⟩ .nil = true := by decide +kernel
theorem head_int {m : Int} (h : -5 ≤ m ∧ m < 20) : headB ⟨1, m, ⟨#[]⟩, []⟩ .nil = true := by
  unfold headB
  simp only
  rw [if_neg (by omega), if_pos trivial]
  simp [plainB, intO, noT, ByteArray.toList_eq, Ous.len]
  omega
def nodeW : ByteArray := ⟨#[78, 111, 100, 101]⟩
def queryW : ByteArray := ⟨#[81, 117, 101, 114, 121]⟩
theorem head_text {s : ByteArray} (h : s ∈ [nodeW, queryW]) : headB ⟨2, 0, s, []⟩ .nil = true := by
  rcases List.mem_cons.1 h with rfl | h
  · decide +kernel
  · rw [List.mem_singleton.1 h]; decide +kernel
theorem two_row (x y : ByteArray) (w : World) (L : Nat) (hL : L < w.heap.size) : KeRow (L + 1) (w.alloc (.cells #[.string x, .string y] 9)).heap.size (w.alloc (.cells #[.string x, .string y] 9)) (some ⟨w.heap.size, 0, none⟩) [x, y] := by
  refine .inr ⟨w.heap.size, 0, rfl, by omega, by simp, fun i z hz => ?_⟩
  show rdOf _ _ (0 + i * 1) = _
  rw [row_rd (heap_alloc_new w (.cells #[.string x, .string y] 9 (0, 0))), Nat.zero_add, Nat.mul_one]
  match i, hz with
  | 0, hz => simp at hz; subst hz; rfl
  | 1, hz => simp at hz; subst hz; rfl
set_option maxHeartbeats 4000000 in
theorem out_zero : OutAny 0 := by
  intro L n k a w h hr hk hn
  have hL := h.lt
  have hkk : k + 4 ≤ 100000 := hk
  obtain ⟨V, hV⟩ : ∃ V, V = w.alloc (.cells #[.int .i64 0, .int .i64 0, .string ⟨#[]⟩, .slice none 0 0, .slice none 0 0] 26) := ⟨_, rfl⟩
  have B0 : Below w.heap.size w V := by rw [hV]; exact (Below.refl _ _).alloc (Nat.le_refl _) _
  have c0 : V.heap[w.heap.size]? = some (.cells #[.int .i64 0, .int .i64 0, .string ⟨#[]⟩, .slice none 0 0, .slice none 0 0] 26 (0, 0)) := by rw [hV]; exact heap_alloc_new _ _
  have zV := (Array.getElem?_eq_some_iff.1 c0).1
  have HS : Hid (SrcSt V L a n k) := h.move (B0.block _ hL)
  have HR : Hid (ByteRow L V a n) := hr.up (by omega) B0
  have KV : Hid (∀ W, V.grownBy W (some L) → W.heap[w.heap.size]? = some (.cells #[.int .i64 0, .int .i64 0, .string ⟨#[]⟩, .slice none 0 0, .slice none 0 0] 26 (0, 0)) ∧ ByteRow L W a n ∧ w.grownBy W (some L)) := fun W hW =>
    ⟨(hW.block _ zV (by intro e; simp only [Option.some.injEq] at e; omega)).trans c0, row_keep HR.out hW, grown_trans ⟨B0.os, B0.tape, B0.output, B0.size, fun i hi _ => B0.block i hi⟩ hW⟩
  clear h hr c0 B0
  go_enter Tryz.func17, Tryz.ntmps17
  go_upto_region 1 with fail
  rw [← hV]
  clear hV
  go_wp2_with fail
  refine (next_pos 5 L n k a _ HS.out HR.out (by omega) hn (by omega) (by omega)).mono ?_
  rintro e w1 ⟨⟨v, hv, rfl⟩, st, hg⟩
  have HS1 : Hid (SrcSt w1 L a n (k + 1)) := st
  have HG1 : Hid (V.grownBy w1 (some L)) := hg
  have HR1 : Hid (ByteRow L w1 a n) := (KV.out _ hg).2.1
  clear st hg HS HR
  go_wp2_with fail
  refine (next_pos 3 L n (k + 1) a _ HS1.out HR1.out (by omega) hn (by omega) (by omega)).mono ?_
  rintro e w2 ⟨⟨u, hu, rfl⟩, st, hg⟩
  have HS2 : Hid (SrcSt w2 L a n (k + 2)) := st
  have HG2 : Hid (V.grownBy w2 (some L)) := grown_trans HG1.out hg
  have HR2 : Hid (ByteRow L w2 a n) := (KV.out _ HG2.out).2.1
  have c2 := (KV.out _ HG2.out).1
  have C2 : Hid _ := c2
  have x2 := fun o => row_cell c2 o
  have f2 := fun o => row_frozen c2 o
  clear st hg HS1 HR1 HG1 c2
  by_cases u0 : u = 0
  · subst u0
    go_wp2_with fail
    exact leaf_end (d := 0) (k := k) C2.out HS2.out (show k + 2 ≤ k + 4 by omega) hL (KV.out _ HG2.out).2.2 head_null _ rfl rfl
  by_cases u1 : u = 1
  · subst u1
    clear x2 f2 u0
    go_wp2_with fail
    refine (next_pos 20 L n (k + 2) a _ HS2.out HR2.out (by omega) hn (by omega) (by omega)).mono ?_
    rintro e w3 ⟨⟨q, hq, rfl⟩, st, hg⟩
    have HS3 : Hid (SrcSt w3 L a n (k + 3)) := st
    have HG3 : Hid (V.grownBy w3 (some L)) := grown_trans HG2.out hg
    have c3 := (KV.out _ HG3.out).1
    have C3 : Hid _ := c3
    have x3 := fun o => row_cell c3 o
    have f3 := fun o => row_frozen c3 o
    have HH : Hid (headB ⟨1, (q : Int) - 5, ⟨#[]⟩, []⟩ .nil = true) := head_int (by omega)
    clear st hg HS2 HR2 HG2 C2 c3
    go_wp2_with fail
    exact leaf_end (d := 0) (k := k) C3.out HS3.out (show k + 3 ≤ k + 4 by omega) hL (KV.out _ HG3.out).2.2 HH.out _ rfl rfl
  obtain rfl : u = 2 := by omega
  obtain ⟨U, hU⟩ : ∃ X, X = w2.alloc (.cells #[.string nodeW, .string queryW] 9) := ⟨_, rfl⟩
  have hL2 : L < w2.heap.size := HS2.out.lt
  have BU : Below w2.heap.size w2 U := by rw [hU]; exact (Below.refl _ _).alloc (Nat.le_refl _) _
  have HRW : Hid (KeRow (L + 1) U.heap.size U (some ⟨w2.heap.size, 0, none⟩) [nodeW, queryW]) := by rw [Hid, hU]; exact two_row _ _ _ _ hL2
  have HSU : Hid (SrcSt U L a n (k + 2)) := HS2.out.move (BU.block _ hL2)
  have HGU : Hid (V.grownBy U (some L)) := grown_trans HG2.out ⟨BU.os, BU.tape, BU.output, BU.size, fun i hi _ => BU.block i hi⟩
  have HRU : Hid (ByteRow L U a n) := (KV.out _ HGU.out).2.1
  clear x2 f2 u0 u1 BU HS2 HR2 HG2 C2
  go_wp2_with fail
  rw [show w2.alloc (.cells #[.string ⟨#[78, 111, 100, 101]⟩, .string ⟨#[81, 117, 101, 114, 121]⟩] 9) = U from hU.symm]
  refine (pick_any [nodeW, queryW] _ _ L n (k + 2) a U HSU.out HRU.out (by omega) hn (by simp) (by simp) HRW.out).mono ?_
  rintro e w3 ⟨⟨s, hs, rfl⟩, st, hg⟩
  have HS3 : Hid (SrcSt w3 L a n (k + 3)) := st
  have HG3 : Hid (V.grownBy w3 (some L)) := grown_trans HGU.out hg
  have c3 := (KV.out _ HG3.out).1
  have C3 : Hid _ := c3
  have x3 := fun o => row_cell c3 o
  have f3 := fun o => row_frozen c3 o
  have HH : Hid (headB ⟨2, 0, s, []⟩ .nil = true) := head_text hs
  clear st hg HSU HRU HGU HRW c3 hU
  go_wp2_with fail
  exact leaf_end (d := 0) (k := k) C3.out HS3.out (show k + 3 ≤ k + 4 by omega) hL (KV.out _ HG3.out).2.2 HH.out _ rfl rfl
end Go.Proofs.YtlliimlhdpbgdaaGreatDoor.G
