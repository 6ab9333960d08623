/- Marks in a transaction. -/
import Derived.Test.YtlfcjhiojbcijaaStTx
namespace Go.Proofs.Ytlfcjhiojbcijaa.G
open Go.ChangeShapes Go.WideShapes Go.ChangeAt Go.RowKit
set_option linter.unusedVariables false

set_option maxHeartbeats 1000000 in
theorem mark_nums0 (a : Option Addr) (c : Nat) (K : Int) (w : World) : Calls Try.prog 38 #[.slice a 0 c, .int .i64 K] w fun e w' => e = .returned (.int .i64 K) ∧ w' = w := by
  go_enter Try.func38, Try.ntmps38
  go_wp2_with fail
  go_loop [1, 5] (fun s i => s = .int .i64 K ∧ i = .int .i64 0) (fun _ _ => 0)
  case atStart => exact ⟨rfl, rfl⟩
  case round =>
    obtain ⟨rfl, rfl⟩ := hrel
    go_wp2_with fail
    go_ret
    exact ⟨rfl, rfl⟩
/-- Blocks of another kind stay. -/
def KindKept (T : TypeId) (w w' : World) : Prop := ∀ (b : Nat) (S : TypeId) (cs : Array Value), w.heap[b]? = some (.cells cs S (0, 0)) → S ≠ T → w'.heap[b]? = w.heap[b]?
theorem mark_reads (a : Option Addr) (c : Nat) (x : List Int) (lo hi : Nat) (K : Int) (w : World) (ho : NuOwn lo hi w a x) (hhi : hi ≤ w.heap.size) (hl : x.length ≤ 1048576) (h0 : 0 ≤ K) (h1 : K ≤ 4398046511104) :
    Calls Try.prog 38 #[.slice a x.length c, .int .i64 K] w fun e w' => ∃ r : Int, e = .returned (.int .i64 r) ∧ r = K + x.length ∧ NuMk lo hi w' a x.length K ∧ KeptS lo hi w w' ∧ KindKept 3 w w' := by
  rcases ho with rfl | ⟨g, cs, rfl, h2, h3, h4, h5, h6⟩
  · refine (mark_nums0 a c K w).mono ?_
    rintro e w' ⟨rfl, rfl⟩
    exact ⟨K, rfl, by simp, .inl rfl, KeptS.refl _ _ _, fun b S cs h _ => rfl⟩
  · refine (mark_nums (some ⟨g, 0, none⟩) c x g (g + 1) K w (.inr ⟨g, cs, rfl, Nat.le_refl _, Nat.lt_succ_self _, h4, h5, h6⟩) hl h0 h1).mono ?_
    rintro e w' ⟨r, rfl, hr, hm, hk⟩
    refine ⟨r, rfl, hr, ?_, hk.mono h2 (by omega), fun b S cs' hb hS => hk.block b (Array.getElem?_eq_some_iff.1 hb).1 (fun hh => hS ?_)⟩
    · rcases hm with hm | ⟨g', cs', e, k1, k2, k3⟩
      · exact .inl hm
      · simp only [Option.some.injEq, Addr.mk.injEq, and_true] at e
        subst e
        exact .inr ⟨g, cs', rfl, h2, h3, k3⟩
    · have e : b = g := by omega
      subst e
      rw [h4] at hb
      simp only [Option.some.injEq, Obj.cells.injEq] at hb
      exact hb.2.1.symm
theorem mark_writes (a : Option Addr) (c : Nat) (x : List Ve) (lo hi : Nat) (K : Int) (w : World) (ho : PuOwn lo hi w a x) (hhi : hi ≤ w.heap.size) (hl : x.length ≤ 1048576) (h0 : 0 ≤ K) (h1 : K ≤ 4398046511104) :
    Calls Try.prog 39 #[.slice a x.length c, .int .i64 K] w fun e w' => ∃ r : Int, e = .returned (.int .i64 r) ∧ r = K + 2 * x.length ∧ PuMkd lo hi w' a x.length K ∧ KeptS lo hi w w' ∧ KindKept 81 w w' := by
  rcases ho with rfl | ⟨g, rfl, h2, h3, h4⟩
  · refine (mark_Pus0 a c K w).mono ?_
    rintro e w' ⟨rfl, rfl⟩
    exact ⟨K, rfl, by simp, .inl rfl, KeptS.refl _ _ _, fun b S cs h _ => rfl⟩
  · refine (mark_Pus g c x K w h4 hl h0 h1).mono ?_
    rintro e w' ⟨r, rfl, hr, hm, hk⟩
    refine ⟨r, rfl, hr, .inr ⟨g, rfl, h2, h3, hm⟩, hk.mono h2 (by omega), fun b S cs' hb hS => hk.block b (Array.getElem?_eq_some_iff.1 hb).1 (fun hh => hS ?_)⟩
    have e : b = g := by omega
    subst e
    obtain ⟨cs, h5, _⟩ := h4
    rw [h5] at hb
    simp only [Option.some.injEq, Obj.cells.injEq] at hb
    exact hb.2.1.symm
theorem PuOwn.kind {lo hi : Nat} {w w' : World} {a : Option Addr} {x : List Ve} (h : PuOwn lo hi w a x) (hk : KindKept 3 w w') : PuOwn lo hi w' a x := by
  rcases h with h | ⟨g, e, h1, h2, h3⟩
  · exact .inl h
  · have h4 := h3
    obtain ⟨cs, h5, _⟩ := h3
    exact .inr ⟨g, e, h1, h2, h4.move (hk g _ cs h5 (by decide))⟩
theorem NuMk.kind {lo hi : Nat} {w w' : World} {a : Option Addr} {n : Nat} {K : Int} (h : NuMk lo hi w a n K) (hk : KindKept 81 w w') : NuMk lo hi w' a n K := by
  rcases h with h | ⟨g, cs, e, h1, h2, h3, h4⟩
  · exact .inl h
  · exact .inr ⟨g, cs, e, h1, h2, (hk g _ cs h3 (by decide)).trans h3, h4⟩
set_option maxHeartbeats 2000000 in
theorem mark_txn (ra wa : Option Addr) (rc wc : Nat) (st : Int) (rs : List Int) (ws : List Ve) (lo hi : Nat) (K : Int) (w : World) (ho : TxOwn lo hi w ra wa rs ws) (hbd : TxBd 1048576 rs ws) (hhi : hi ≤ w.heap.size) (h0 : 0 ≤ K) (h1 : K ≤ 3298534883328) :
    Calls Try.prog 14 #[.agg #[.int .i64 st, .slice ra rs.length rc, .slice wa ws.length wc], .int .i64 K] w fun e w' => ∃ r : Int, e = .returned (.int .i64 r) ∧ r = K + rs.length + 2 * ws.length ∧ TxMk lo hi w' ra wa rs.length ws.length K ∧ KeptS lo hi w w' := by
  obtain ⟨V, hV⟩ : ∃ V, V = w.alloc (.cells #[.int .i64 st, .slice ra rs.length rc, .slice wa ws.length wc] 33) := ⟨_, rfl⟩
  have bV : Below w.heap.size w V := by rw [hV]; exact (Below.refl _ _).alloc (Nat.le_refl _) _
  have zV : w.heap.size + 1 ≤ V.heap.size := by rw [hV]; simp
  have cV : V.heap[w.heap.size]? = some (.cells #[.int .i64 st, .slice ra rs.length rc, .slice wa ws.length wc] 33 (0, 0)) := by rw [hV]; exact heap_alloc_new _ _
  have OV : Hid (TxOwn lo hi V ra wa rs ws) := TxOwn.keep ho (agree bV hhi)
  have KV : Hid (KeptS lo hi w V) := KeptS.of bV
  have CV : Hid _ := cV
  have hl1 := hbd.1
  have hl2 := hbd.2
  clear ho hbd bV cV
  go_enter Try.func14, Try.ntmps14
  go_wp2_with fail
  rw [← hV]
  clear hV
  refine (mark_reads ra rc rs lo hi K _ OV.out.1 (by omega) hl1 h0 (by omega)).mono ?_
  rintro e w1 ⟨r, rfl, hr, m1, k1, kk1⟩
  have z1 := k1.size
  have d1 := (k1.block w.heap.size (by omega) (by omega)).trans CV.out
  have x1 := fun o => row_cell d1 o
  have O1 : Hid (PuOwn lo hi w1 wa ws) := PuOwn.kind OV.out.2 kk1
  have M1 : Hid _ := m1
  have K1 : Hid (KeptS lo hi w w1) := KV.out.trans k1
  have HR : Hid (r = K + rs.length) := hr
  have hr1 : 0 ≤ r := by omega
  have hr2 : r ≤ 4398046511104 := by omega
  clear m1 k1 kk1 d1 hr OV
  go_wp2_with fail
  refine (mark_writes wa wc ws lo hi r _ O1.out (by omega) hl2 hr1 hr2).mono ?_
  rintro e w2 ⟨r2, rfl, hq, m2, k2, kk2⟩
  have HR2 : Hid (r2 = K + rs.length + 2 * ws.length) := by have := HR.out; unfold Hid; omega
  have M2 : Hid (TxMk lo hi w2 ra wa rs.length ws.length K) := ⟨NuMk.kind M1.out kk2, by rw [← HR.out]; exact m2⟩
  have K2 : Hid (KeptS lo hi w w2) := K1.out.trans k2
  clear hq m2 k2 kk2 x1
  go_wp2_with fail
  go_ret
  exact ⟨r2, rfl, HR2.out, M2.out, K2.out⟩
set_option maxHeartbeats 2000000 in
theorem held_txn (ra wa : Option Addr) (rc wc n m : Nat) (st : Int) (lo hi : Nat) (K : Int) (w : World) (ho : TxMk lo hi w ra wa n m K) (hn : n ≤ 1048576) (hm : m ≤ 1048576) (hhi : hi ≤ w.heap.size) (h0 : 0 ≤ K) (h1 : K ≤ 3298534883328) :
    Calls Try.prog 15 #[.agg #[.int .i64 st, .slice ra n rc, .slice wa m wc], .int .i64 K] w fun e w' => ∃ r : Int, e = .returned (.int .i64 r) ∧ r = K + n + 2 * m ∧ Below w.heap.size w w' := by
  obtain ⟨V, hV⟩ : ∃ V, V = w.alloc (.cells #[.int .i64 st, .slice ra n rc, .slice wa m wc] 33) := ⟨_, rfl⟩
  have bV : Below w.heap.size w V := by rw [hV]; exact (Below.refl _ _).alloc (Nat.le_refl _) _
  have cV : V.heap[w.heap.size]? = some (.cells #[.int .i64 st, .slice ra n rc, .slice wa m wc] 33 (0, 0)) := by rw [hV]; exact heap_alloc_new _ _
  have OV : Hid (TxMk lo hi V ra wa n m K) := TxMk.keep ho (agree bV hhi)
  have BV : Hid _ := bV
  have x0 := fun o => row_cell cV o
  clear ho bV cV
  go_enter Try.func15, Try.ntmps15
  go_wp2_with fail
  rw [← hV]
  clear hV
  refine (held_nums ra rc n lo hi K _ OV.out.1 hn h0 (by omega)).mono ?_
  rintro e w1 ⟨r, rfl, hr, hw1⟩
  rw [hw1]
  clear hw1
  have HR : Hid (r = K + n) := hr
  have hr0 : ¬ r < 0 := by omega
  have hr1 : 0 ≤ r := by omega
  have hr2 : r ≤ 4398046511104 := by omega
  clear hr
  go_wp2_with fail
  have hw : Calls Try.prog 41 #[.slice wa m wc, .int .i64 r] V fun e w' => ∃ q : Int, e = .returned (.int .i64 q) ∧ q = r + 2 * m ∧ w' = V := by
    have h2 := OV.out.2
    rw [← HR.out] at h2
    rcases h2 with rfl | ⟨g, rfl, _, _, hg⟩
    · exact (held_Pus0 wa wc r V).mono (by rintro e w' ⟨rfl, rfl⟩; exact ⟨r, rfl, by simp, rfl⟩)
    · exact held_Pus g wc m r V hg hm hr1 hr2
  refine hw.mono ?_
  rintro e w2 ⟨q, rfl, hq, hw2⟩
  rw [hw2]
  clear hw2 hw
  have HQ : Hid (q = K + n + 2 * m) := by have := HR.out; unfold Hid; omega
  have hq0 : ¬ q < 0 := by omega
  clear hq x0
  go_wp2_with fail
  go_ret
  exact ⟨q, rfl, HQ.out, BV.out⟩
end Go.Proofs.Ytlfcjhiojbcijaa.G
