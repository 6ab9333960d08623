/- The law's draws: a token. -/
import Derived.Test.YtjbogjoadcikhaaDoorSrcNext
import Derived.Test.YtjbogjoadcikhaaDoorLexBack
namespace Go.Proofs.YtjbogjoadcikhaaDoor.L
open Go.ChangeShapes Go.WideShapes Go.ChangeAt Go.RowKit
set_option linter.unusedVariables false

theorem SrcSt.grown {w w' : World} {L n k : Nat} {a : Option Addr} (h : SrcSt w L a n k) (hb : w'.heap[L]? = w.heap[L]?) : SrcSt w' L a n k := by
  obtain ⟨c, p, sd, hh, h1⟩ := h
  exact ⟨c, p, sd, hb.trans hh, h1⟩
theorem SrcSt.lt {w : World} {L n k : Nat} {a : Option Addr} (h : SrcSt w L a n k) : L < w.heap.size := by
  obtain ⟨c, p, sd, hh, h1⟩ := h
  exact (Array.getElem?_eq_some_iff.1 hh).1
theorem SrcSt.alloc {w : World} {L n k : Nat} {a : Option Addr} (h : SrcSt w L a n k) (o : Obj) : SrcSt (w.alloc o) L a n k := h.grown (Below.heap_alloc w o L h.lt)
theorem row_alloc {w : World} {B n : Nat} {a : Option Addr} (h : ByteRow B w a n) (hB : B ≤ w.heap.size) (o : Obj) : ByteRow B (w.alloc o) a n :=
  h.keep (by simp) (fun k hk => Below.heap_alloc w o k (by omega))

theorem row_grown {w w' : World} {N L : Nat} {o : Obj} (h : w.heap[N]? = some o) (hg : w.grownBy w' (some L)) (hne : N ≠ L) : w'.heap[N]? = some o :=
  (hg.block N (Array.getElem?_eq_some_iff.1 h).1 (by intro e; simp only [Option.some.injEq] at e; exact hne e)).trans h
theorem results26_row (tmps : Array Value) (W : World) (N : Nat) (cs : Array Value) (h2 : tmps.getD 2 undef = .pointer (some ⟨N, 0, none⟩)) (hrow : W.heap[N]? = some (.cells cs 29 (0, 0))) (hsz : cs.size = 3) :
    (results Tryd.f26 tmps).run Tryd.prog W = .ok (.agg cs) W := by
  have c39 : (Tryd.prog.info? 29).map (·.size) = some 3 := by kernel_rfl
  exact results_cell_row Tryd.results26 tmps W N 29 cs (0, 0) _ h2 hrow Tryd.underlying29 rfl (by rw [hsz]; exact c39)
theorem pick_cells (ss : List ByteArray) (w : World) : ∀ (j : Nat) x, ss[j]? = some x → (w.alloc (.cells (ss.map Value.string).toArray 9)).cell? ⟨w.heap.size, j, none⟩ = some (.string x) := by
  intro j x hx
  rw [row_cell (heap_alloc_new _ _) j]
  simp [hx]
theorem grown_set_new {a b : World} {L N : Nat} (h : a.grownBy b (some L)) (hN : a.heap.size ≤ N) (o : Nat) (v : Value) : a.grownBy (b.setCell ⟨N, o, none⟩ v) (some L) :=
  ⟨h.os, h.tape, h.output, by have := h.size; simpa [World.setCell] using this, fun i hi hr => by
    rw [Below.heap_setCell _ _ _ _ (fun e => by simp only at e; omega)]; exact h.block i hi hr⟩
theorem SrcSt.set {w : World} {L n k N : Nat} {a : Option Addr} (h : SrcSt w L a n k) (hN : N ≠ L) (o : Nat) (v : Value) : SrcSt (w.setCell ⟨N, o, none⟩ v) L a n k :=
  h.grown (Below.heap_setCell _ _ _ _ (fun e => hN (by simpa using e.symm)))
theorem SrcSt.more {w : World} {L n k k' : Nat} {a : Option Addr} (h : SrcSt w L a n k) (hk : k ≤ k') : SrcSt w L a n k' := by
  obtain ⟨c, p, sd, hh, h1, h2⟩ := h
  exact ⟨c, p, sd, hh, by omega, h2⟩

set_option maxHeartbeats 4000000 in
theorem token_any (L n k : Nat) (a : Option Addr) (w : World) (h : SrcSt w L a n k) (hr : ByteRow L w a n) (hk : k ≤ 90000) (hn : n ≤ 1048576) :
    Calls Tryd.prog 26 #[.pointer (some ⟨L, 0, none⟩)] w fun e w' => (∃ x : Tk, isTok x ∧ x.t.size ≤ 5 ∧ e = .returned (.agg #[.int .i64 x.k, .int .i64 x.n, .string x.t])) ∧ SrcSt w' L a n (k + 3) ∧ w.grownBy w' (some L) := by
  have hL := h.lt
  have HS : Hid (SrcSt (w.alloc (.cells #[.int .i64 0, .int .i64 0, .string ⟨#[]⟩] 29)) L a n k) := h.alloc _
  have HR : Hid (ByteRow L (w.alloc (.cells #[.int .i64 0, .int .i64 0, .string ⟨#[]⟩] 29)) a n) := row_alloc hr (by omega) _
  have HG : Hid (w.grownBy (w.alloc (.cells #[.int .i64 0, .int .i64 0, .string ⟨#[]⟩] 29)) (some L)) := grown_alloc (grown_refl _ _) _
  have HN : Hid ((w.alloc (.cells #[.int .i64 0, .int .i64 0, .string ⟨#[]⟩] 29)).heap[w.heap.size]? = some (.cells #[.int .i64 0, .int .i64 0, .string ⟨#[]⟩] 29)) := heap_alloc_new _ _
  clear h hr
  go_enter Tryd.func26, Tryd.ntmps26
  go_wp2_with fail
  refine (next_any 4 L n k a _ HS.out HR.out (by omega) hn (by omega) (by omega)).mono ?_
  rintro e w1 ⟨⟨v, hv, rfl⟩, st1, hg1⟩
  have HS1 : Hid (SrcSt w1 L a n (k + 1)) := st1
  have HR1 : Hid (ByteRow L w1 a n) := row_keep HR.out hg1
  have HG1 : Hid (w.grownBy w1 (some L)) := grown_trans HG.out hg1
  have HN1 : Hid (w1.heap[w.heap.size]? = some (.cells #[.int .i64 0, .int .i64 0, .string ⟨#[]⟩] 29 (0, 0))) := row_grown HN.out hg1 (by omega)
  have hsz1 : w.heap.size + 1 ≤ w1.heap.size := by have := hg1.size; simpa using this
  clear st1 hg1 HS HR HG HN
  have hv4 : v = 0 ∨ v = 1 ∨ v = 2 ∨ v = 3 := by omega
  rcases hv4 with rfl | rfl | rfl | rfl
  · have HK : Hid (∀ x ∈ ([(⟨#[110, 111, 100, 101]⟩ : ByteArray), (⟨#[118, 97, 108, 117, 101]⟩ : ByteArray), (⟨#[105, 100]⟩ : ByteArray), (⟨#[113, 117, 101, 114, 121]⟩ : ByteArray)] : List ByteArray), isTok ⟨1, 0, x⟩ ∧ x.size ≤ 5) := by
      intro x hx
      simp only [List.mem_cons, List.not_mem_nil, or_false] at hx
      rcases hx with rfl | rfl | rfl | rfl <;> exact ⟨by unfold isTok; decide, by decide⟩
    go_wp2_with fail
    refine (pick_any w1.heap.size 4 [(⟨#[110, 111, 100, 101]⟩ : ByteArray), (⟨#[118, 97, 108, 117, 101]⟩ : ByteArray), (⟨#[105, 100]⟩ : ByteArray), (⟨#[113, 117, 101, 114, 121]⟩ : ByteArray)] L n (k + 1) a _ (HS1.out.alloc _) (row_alloc HR1.out (by omega) _) (by omega) hn (by simp) (by simp) (pick_cells _ w1) (by omega) (by simp)).mono ?_
    rintro e w2 ⟨⟨x, hx, rfl⟩, st2, hg2⟩
    obtain ⟨hx1, hx2⟩ := HK.out x hx
    have HX : Hid (isTok ⟨1, 0, x⟩) := hx1
    have hrow2 : Hid (w2.heap[w.heap.size]? = some (.cells #[.int .i64 0, .int .i64 0, .string ⟨#[]⟩] 29 (0, 0))) := row_grown ((Below.heap_alloc w1 _ w.heap.size (by omega)).trans HN1.out) hg2 (by omega)
    have HS2 : Hid (SrcSt w2 L a n (k + 3)) := st2.more (by omega)
    have HG2 : Hid (w.grownBy w2 (some L)) := grown_trans (grown_alloc HG1.out _) hg2
    have d0 := row_cell hrow2.out 0
    have d1 := row_cell hrow2.out 1
    have d2 := row_cell hrow2.out 2
    have g0 := row_frozen hrow2.out 0
    have g1 := row_frozen hrow2.out 1
    have g2 := row_frozen hrow2.out 2
    simp at d0 d1 d2
    clear st2 hg2 hx hx1 HK
    go_wp2_with fail
    refine bodyPost_ret (v := .agg #[.int .i64 1, .int .i64 0, .string x]) (results26_row _ _ w.heap.size _ rfl (row_set (row_set (row_set hrow2.out _ _) _ _) _ _) rfl) rfl ⟨⟨⟨1, 0, x⟩, HX.out, hx2, rfl⟩, ((HS2.out.set (by omega) _ _).set (by omega) _ _).set (by omega) _ _, grown_set_new (grown_set_new (grown_set_new HG2.out (Nat.le_refl _) _ _) (Nat.le_refl _) _ _) (Nat.le_refl _) _ _⟩
  · go_wp2_with fail
    refine (next_any 20 L n (k + 1) a _ HS1.out HR1.out (by omega) hn (by omega) (by omega)).mono ?_
    rintro e w2 ⟨⟨v, hv2, rfl⟩, st2, hg2⟩
    have hrow2 : Hid (w2.heap[w.heap.size]? = some (.cells #[.int .i64 0, .int .i64 0, .string ⟨#[]⟩] 29 (0, 0))) := row_grown HN1.out hg2 (by omega)
    have HS2 : Hid (SrcSt w2 L a n (k + 2)) := st2.more (by omega)
    have HR2 : Hid (ByteRow L w2 a n) := row_keep HR1.out hg2
    have HG2 : Hid (w.grownBy w2 (some L)) := grown_trans HG1.out hg2
    have hsz2 := hg2.size
    clear st2 hg2
    go_wp2_with fail
    refine (next_any 9 L n (k + 2) a _ (HS2.out.alloc _) (row_alloc HR2.out (by omega) _) (by omega) hn (by omega) (by omega)).mono ?_
    rintro e w3 ⟨⟨u, hu, rfl⟩, st3, hg3⟩
    have hrow3 : Hid (w3.heap[w.heap.size]? = some (.cells #[.int .i64 0, .int .i64 0, .string ⟨#[]⟩] 29 (0, 0))) := row_grown ((Below.heap_alloc w2 _ w.heap.size (by omega)).trans hrow2.out) hg3 (by omega)
    have hrl : Hid (w3.heap[w2.heap.size]? = some (.cells #[.int .i64 ((v : Int) - 5), .int .i64 2147483647, .int .i64 (-2147483648)] 3 (0, 0))) := row_grown (heap_alloc_new _ _) hg3 (by omega)
    have HS3 : Hid (SrcSt w3 L a n (k + 3)) := st3.more (by omega)
    have HG3 : Hid (w.grownBy w3 (some L)) := grown_trans (grown_alloc HG2.out _) hg3
    clear st3 hg3
    have d0 := row_cell hrow3.out 0
    have d1 := row_cell hrow3.out 1
    have d2 := row_cell hrow3.out 2
    have g0 := row_frozen hrow3.out 0
    have g1 := row_frozen hrow3.out 1
    have g2 := row_frozen hrow3.out 2
    have r0 := row_cell hrl.out 0
    have r1 := row_cell hrl.out 1
    have r2 := row_cell hrl.out 2
    simp at d0 d1 d2 r0 r1 r2
    obtain ⟨y, hq, hy, hyy⟩ : ∃ y : Nat, (u : Int) / 4 = (y : Int) ∧ y < 3 ∧ ∃ z : Int, intB z = true ∧ w3.cell? ⟨w2.heap.size, y, none⟩ = some (.int .i64 z) := by
      refine ⟨u / 4, by omega, by omega, ?_⟩
      have : u / 4 = 0 ∨ u / 4 = 1 ∨ u / 4 = 2 := by omega
      rcases this with e | e | e <;> rw [e]
      · exact ⟨_, by unfold intB; rw [decide_eq_true_eq]; omega, r0⟩
      · exact ⟨_, by decide, r1⟩
      · exact ⟨_, by decide, r2⟩
    obtain ⟨z, hz, hz2⟩ := hyy
    have hy' : (y : Int) < 3 := by omega
    have HX : Hid (isTok ⟨2, z, ⟨#[]⟩⟩) := by
      unfold Hid isTok tokB
      simp [hz]
    clear r0 r1 r2 hz
    go_wp2_with fail
    refine bodyPost_ret (v := .agg #[.int .i64 2, .int .i64 z, .string ⟨#[]⟩]) (results26_row _ _ w.heap.size _ rfl (row_set (row_set (row_set hrow3.out _ _) _ _) _ _) rfl) rfl ⟨⟨⟨2, z, ⟨#[]⟩⟩, HX.out, Nat.zero_le _, rfl⟩, ((HS3.out.set (by omega) _ _).set (by omega) _ _).set (by omega) _ _, grown_set_new (grown_set_new (grown_set_new HG3.out (Nat.le_refl _) _ _) (Nat.le_refl _) _ _) (Nat.le_refl _) _ _⟩
  · have HK : Hid (∀ x ∈ ([(⟨#[120]⟩ : ByteArray), (⟨#[121]⟩ : ByteArray)] : List ByteArray), isTok ⟨3, 0, x⟩ ∧ x.size ≤ 5) := by
      intro x hx
      simp only [List.mem_cons, List.not_mem_nil, or_false] at hx
      rcases hx with rfl | rfl <;> exact ⟨by unfold isTok; decide, by decide⟩
    go_wp2_with fail
    refine (pick_any w1.heap.size 2 [(⟨#[120]⟩ : ByteArray), (⟨#[121]⟩ : ByteArray)] L n (k + 1) a _ (HS1.out.alloc _) (row_alloc HR1.out (by omega) _) (by omega) hn (by simp) (by simp) (pick_cells _ w1) (by omega) (by simp)).mono ?_
    rintro e w2 ⟨⟨x, hx, rfl⟩, st2, hg2⟩
    obtain ⟨hx1, hx2⟩ := HK.out x hx
    have HX : Hid (isTok ⟨3, 0, x⟩) := hx1
    have hrow2 : Hid (w2.heap[w.heap.size]? = some (.cells #[.int .i64 0, .int .i64 0, .string ⟨#[]⟩] 29 (0, 0))) := row_grown ((Below.heap_alloc w1 _ w.heap.size (by omega)).trans HN1.out) hg2 (by omega)
    have HS2 : Hid (SrcSt w2 L a n (k + 3)) := st2.more (by omega)
    have HG2 : Hid (w.grownBy w2 (some L)) := grown_trans (grown_alloc HG1.out _) hg2
    have d0 := row_cell hrow2.out 0
    have d1 := row_cell hrow2.out 1
    have d2 := row_cell hrow2.out 2
    have g0 := row_frozen hrow2.out 0
    have g1 := row_frozen hrow2.out 1
    have g2 := row_frozen hrow2.out 2
    simp at d0 d1 d2
    clear st2 hg2 hx hx1 HK
    go_wp2_with fail
    refine bodyPost_ret (v := .agg #[.int .i64 3, .int .i64 0, .string x]) (results26_row _ _ w.heap.size _ rfl (row_set (row_set (row_set hrow2.out _ _) _ _) _ _) rfl) rfl ⟨⟨⟨3, 0, x⟩, HX.out, hx2, rfl⟩, ((HS2.out.set (by omega) _ _).set (by omega) _ _).set (by omega) _ _, grown_set_new (grown_set_new (grown_set_new HG2.out (Nat.le_refl _) _ _) (Nat.le_refl _) _ _) (Nat.le_refl _) _ _⟩
  · have HK : Hid (∀ x ∈ ([(⟨#[123]⟩ : ByteArray), (⟨#[125]⟩ : ByteArray), (⟨#[40]⟩ : ByteArray), (⟨#[41]⟩ : ByteArray), (⟨#[58]⟩ : ByteArray), (⟨#[46, 46, 46]⟩ : ByteArray), (⟨#[64]⟩ : ByteArray), (⟨#[33]⟩ : ByteArray)] : List ByteArray), isTok ⟨4, 0, x⟩ ∧ x.size ≤ 5) := by
      intro x hx
      simp only [List.mem_cons, List.not_mem_nil, or_false] at hx
      rcases hx with rfl | rfl | rfl | rfl | rfl | rfl | rfl | rfl <;> exact ⟨by unfold isTok; unfold tokB; simp [punctB, ByteArray.toList_eq], by decide⟩
    go_wp2_with fail
    refine (pick_any w1.heap.size 8 [(⟨#[123]⟩ : ByteArray), (⟨#[125]⟩ : ByteArray), (⟨#[40]⟩ : ByteArray), (⟨#[41]⟩ : ByteArray), (⟨#[58]⟩ : ByteArray), (⟨#[46, 46, 46]⟩ : ByteArray), (⟨#[64]⟩ : ByteArray), (⟨#[33]⟩ : ByteArray)] L n (k + 1) a _ (HS1.out.alloc _) (row_alloc HR1.out (by omega) _) (by omega) hn (by simp) (by simp) (pick_cells _ w1) (by omega) (by simp)).mono ?_
    rintro e w2 ⟨⟨x, hx, rfl⟩, st2, hg2⟩
    obtain ⟨hx1, hx2⟩ := HK.out x hx
    have HX : Hid (isTok ⟨4, 0, x⟩) := hx1
    have hrow2 : Hid (w2.heap[w.heap.size]? = some (.cells #[.int .i64 0, .int .i64 0, .string ⟨#[]⟩] 29 (0, 0))) := row_grown ((Below.heap_alloc w1 _ w.heap.size (by omega)).trans HN1.out) hg2 (by omega)
    have HS2 : Hid (SrcSt w2 L a n (k + 3)) := st2.more (by omega)
    have HG2 : Hid (w.grownBy w2 (some L)) := grown_trans (grown_alloc HG1.out _) hg2
    have d0 := row_cell hrow2.out 0
    have d1 := row_cell hrow2.out 1
    have d2 := row_cell hrow2.out 2
    have g0 := row_frozen hrow2.out 0
    have g1 := row_frozen hrow2.out 1
    have g2 := row_frozen hrow2.out 2
    simp at d0 d1 d2
    clear st2 hg2 hx hx1 HK
    go_wp2_with fail
    refine bodyPost_ret (v := .agg #[.int .i64 4, .int .i64 0, .string x]) (results26_row _ _ w.heap.size _ rfl (row_set (row_set (row_set hrow2.out _ _) _ _) _ _) rfl) rfl ⟨⟨⟨4, 0, x⟩, HX.out, hx2, rfl⟩, ((HS2.out.set (by omega) _ _).set (by omega) _ _).set (by omega) _ _, grown_set_new (grown_set_new (grown_set_new HG2.out (Nat.le_refl _) _ _) (Nat.le_refl _) _ _) (Nat.le_refl _) _ _⟩
end Go.Proofs.YtjbogjoadcikhaaDoor.L
