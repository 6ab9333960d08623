/- Transactions in memory; what the law counts, copies, compares and marks of them. -/
import Derived.Test.YtlfcjhiojbcijaaStNu
import Derived.Test.YtlfcjhiojbcijaaStPu
import Derived.Test.YtlfcjhiojbcijaaStTxSpec
namespace Go.Proofs.Ytlfcjhiojbcijaa.G
open Go.ChangeShapes Go.WideShapes Go.ChangeAt Go.RowKit
set_option linter.unusedVariables false

theorem listThree {α : Type} {l : List α} (h : l.length = 3) : ∃ v0 v1 v2, l = [v0, v1, v2] := by
  match l, h with
  | [v0, v1, v2], _ => exact ⟨v0, v1, v2, rfl⟩
/-- Writes that a call owns. -/
def PuOwn (lo hi : Nat) (w : World) (a : Option Addr) (x : List Ve) : Prop := x = [] ∨ ∃ g, a = some ⟨g, 0, none⟩ ∧ lo ≤ g ∧ g < hi ∧ PuBlk w g x
theorem PuOwn.keep {lo hi : Nat} {w w' : World} {a : Option Addr} {x : List Ve} (h : PuOwn lo hi w a x) (hk : Agree lo hi w w') : PuOwn lo hi w' a x := by
  rcases h with h | ⟨g, e, h1, h2, h3⟩
  · exact .inl h
  · exact .inr ⟨g, e, h1, h2, h3.move (hk g h1 h2)⟩
theorem PuOwn.wide {lo hi lo' hi' : Nat} {w : World} {a : Option Addr} {x : List Ve} (h : PuOwn lo hi w a x) (e1 : lo' ≤ lo) (e2 : hi ≤ hi') : PuOwn lo' hi' w a x := by
  rcases h with h | ⟨g, e, h1, h2, h3⟩
  · exact .inl h
  · exact .inr ⟨g, e, by omega, by omega, h3⟩
theorem PuOwn.row {lo hi : Nat} {w : World} {a : Option Addr} {x : List Ve} (h : PuOwn lo hi w a x) : VeRow lo hi w a x := by
  rcases h with h | ⟨g, e, h1, h2, h3⟩
  · exact .inl h
  · rw [e]; exact h3.row h1 h2
def TxOwn (lo hi : Nat) (w : World) (ra wa : Option Addr) (rs : List Int) (ws : List Ve) : Prop := NuOwn lo hi w ra rs ∧ PuOwn lo hi w wa ws
theorem TxOwn.keep {lo hi : Nat} {w w' : World} {ra wa : Option Addr} {rs : List Int} {ws : List Ve} (h : TxOwn lo hi w ra wa rs ws) (hk : Agree lo hi w w') : TxOwn lo hi w' ra wa rs ws := ⟨NuOwn.keep h.1 hk, PuOwn.keep h.2 hk⟩
theorem TxOwn.wide {lo hi lo' hi' : Nat} {w : World} {ra wa : Option Addr} {rs : List Int} {ws : List Ve} (h : TxOwn lo hi w ra wa rs ws) (e1 : lo' ≤ lo) (e2 : hi ≤ hi') : TxOwn lo' hi' w ra wa rs ws := ⟨NuOwn.wide h.1 e1 e2, PuOwn.wide h.2 e1 e2⟩
theorem TxOwn.row {lo hi : Nat} {w : World} {ra wa : Option Addr} {rs : List Int} {ws : List Ve} (h : TxOwn lo hi w ra wa rs ws) : TxRow lo hi w ra wa rs ws := ⟨NuOwn.row h.1, PuOwn.row h.2⟩
/-- Marks in a transaction. -/
def PuMkd (lo hi : Nat) (w : World) (a : Option Addr) (n : Nat) (K : Int) : Prop := n = 0 ∨ ∃ g, a = some ⟨g, 0, none⟩ ∧ lo ≤ g ∧ g < hi ∧ PuMk w g K n
theorem PuMkd.keep {lo hi : Nat} {w w' : World} {a : Option Addr} {n : Nat} {K : Int} (h : PuMkd lo hi w a n K) (hk : Agree lo hi w w') : PuMkd lo hi w' a n K := by
  rcases h with h | ⟨g, e, h1, h2, h3⟩
  · exact .inl h
  · exact .inr ⟨g, e, h1, h2, h3.move (hk g h1 h2)⟩
def TxMk (lo hi : Nat) (w : World) (ra wa : Option Addr) (n m : Nat) (K : Int) : Prop := NuMk lo hi w ra n K ∧ PuMkd lo hi w wa m (K + n)
theorem TxMk.keep {lo hi : Nat} {w w' : World} {ra wa : Option Addr} {n m : Nat} {K : Int} (h : TxMk lo hi w ra wa n m K) (hk : Agree lo hi w w') : TxMk lo hi w' ra wa n m K := ⟨NuMk.keep h.1 hk, PuMkd.keep h.2 hk⟩
set_option maxHeartbeats 1000000 in
theorem sz_txn (ra wa : Option Addr) (rc wc : Nat) (st : Int) (rs : List Int) (ws : List Ve) (n : Int) (w : World) (hbd : TxBd maxLen rs ws) (h0 : 0 ≤ n) (h1 : n ≤ 1048576) :
    Calls Try.prog 6 #[.agg #[.int .i64 st, .slice ra rs.length rc, .slice wa ws.length wc], .int .i64 n] w fun e w' => ∃ m, e = .returned (.int .i64 m) ∧ Sz n m (TxBd 1048576 rs ws) ∧ Below w.heap.size w w' := by
  have HB : Hid (Below w.heap.size w (w.alloc (.cells #[.int .i64 st, .slice ra rs.length rc, .slice wa ws.length wc] 28))) := (Below.refl _ _).alloc (Nat.le_refl _) _
  have HD : Hid (TxBd maxLen rs ws) := hbd
  clear hbd
  go_enter Try.func6, Try.ntmps6
  go_wp2_with fail
  refine (sz_nums ra rc rs.length n _ HD.out.1 h0 h1).mono ?_
  rintro e w1 ⟨m1, rfl, hm, rfl⟩
  have M1 : Hid (Sz n m1 (rs.length ≤ 1048576)) := hm
  have hm1 : m1 ≤ n := hm.1
  clear hm
  by_cases n1 : m1 < 0
  · go_wp2_with fail
    go_ret
    exact ⟨-1, rfl, Sz.neg h0, HB.out⟩
  go_wp2_with fail
  refine (sz_Pus wa wc ws.length m1 _ HD.out.2 (by omega) (by omega)).mono ?_
  rintro e w2 ⟨m2, rfl, hm, rfl⟩
  have M2 : Hid (Sz m1 m2 (ws.length ≤ 1048576)) := hm
  clear hm
  by_cases n2 : m2 < 0
  · go_wp2_with fail
    go_ret
    exact ⟨-1, rfl, Sz.neg h0, HB.out⟩
  go_wp2_with fail
  go_ret
  exact ⟨m2, rfl, ⟨by have := M2.out.1; omega, by omega, fun _ => ⟨M1.out.2.2 (by omega), M2.out.2.2 (by omega)⟩⟩, HB.out⟩
set_option maxHeartbeats 4000000 in
theorem to_txn (ra wa : Option Addr) (rc wc : Nat) (st : Int) (rs : List Int) (ws : List Ve) (w : World) (hr : TxRow 0 w.heap.size w ra wa rs ws) (hbd : TxBd 1048576 rs ws) :
    Calls Try.prog 9 #[.agg #[.int .i64 st, .slice ra rs.length rc, .slice wa ws.length wc]] w fun e w' => ∃ ra' wa', e = .returned (.agg #[.int .i64 st, .slice ra' rs.length rs.length, .slice wa' ws.length ws.length]) ∧ TxOwn w.heap.size w'.heap.size w' ra' wa' rs ws ∧ Below w.heap.size w w' := by
  have K3 : Hid (∀ W0, Below w.heap.size w W0 → TxRow 0 W0.heap.size W0 ra wa rs ws) := fun W0 hB => TxRow.up hr hB
  have HD : Hid (TxBd 1048576 rs ws) := hbd
  clear hr hbd
  obtain ⟨V, hV⟩ : ∃ V, V = ((w.alloc (.cells #[.int .i64 st, .slice ra rs.length rc, .slice wa ws.length wc] 28)).alloc (.cells #[.int .i64 0, .slice none 0 0, .slice none 0 0] 33)).alloc (.cells #[.int .i64 st, .slice none 0 0, .slice none 0 0] 33) := ⟨_, rfl⟩
  have bV : Below w.heap.size w V := by
    rw [hV]
    repeat (first | exact Below.refl _ _ | refine Below.alloc ?_ (by first | omega | (simp <;> omega)) _)
  have zV : w.heap.size + 3 ≤ V.heap.size := by rw [hV]; simp
  have c0 : V.heap[w.heap.size]? = some (.cells #[.int .i64 st, .slice ra rs.length rc, .slice wa ws.length wc] 28 (0, 0)) := by
    rw [hV, Below.heap_alloc _ _ _ (by simp <;> omega), Below.heap_alloc _ _ _ (by simp <;> omega)]; exact heap_alloc_new _ _
  have c1 : V.heap[w.heap.size + 1]? = some (.cells #[.int .i64 0, .slice none 0 0, .slice none 0 0] 33 (0, 0)) := by
    rw [hV, Below.heap_alloc _ _ _ (by simp <;> omega)]
    have := heap_alloc_new (w.alloc (.cells #[.int .i64 st, .slice ra rs.length rc, .slice wa ws.length wc] 28)) (.cells #[.int .i64 0, .slice none 0 0, .slice none 0 0] 33)
    simpa using this
  have c2 : V.heap[w.heap.size + 1 + 1]? = some (.cells #[.int .i64 st, .slice none 0 0, .slice none 0 0] 33 (0, 0)) := by
    rw [hV]
    have := heap_alloc_new ((w.alloc (.cells #[.int .i64 st, .slice ra rs.length rc, .slice wa ws.length wc] 28)).alloc (.cells #[.int .i64 0, .slice none 0 0, .slice none 0 0] 33)) (.cells #[.int .i64 st, .slice none 0 0, .slice none 0 0] 33)
    simpa using this
  have BV : Hid (Below w.heap.size w V) := bV
  have C0 : Hid _ := c0
  have C1 : Hid _ := c1
  have C2 : Hid _ := c2
  clear bV c0 c1 c2
  go_enter Try.func9, Try.ntmps9
  go_wp2_with fail
  rw [← hV]
  clear hV
  refine (to_nums ra rc rs _ (K3.out _ BV.out).1 HD.out.1).mono ?_
  rintro e w1 ⟨rfl, o1, b1⟩
  have z1 := b1.size
  have d0 := (b1.block w.heap.size (by omega)).trans C0.out
  have d1 := (b1.block (w.heap.size + 1) (by omega)).trans C1.out
  have d2 := (b1.block (w.heap.size + 1 + 1) (by omega)).trans C2.out
  have B1 : Hid (Below w.heap.size w w1) := BV.out.trans (b1.mono (by omega))
  have O1 : Hid (NuOwn V.heap.size w1.heap.size w1 (some ⟨V.heap.size, 0, none⟩) rs) := o1
  have x0 := fun o => row_cell d0 o
  have x2 := fun o => row_cell d2 o
  have y2 := fun o => row_frozen d2 o
  obtain ⟨A1, hA1⟩ : ∃ A1, A1 = some (⟨V.heap.size, 0, none⟩ : Addr) := ⟨_, rfl⟩
  rw [← hA1] at O1 ⊢
  clear hA1 o1 b1
  go_wp2_with fail
  obtain ⟨U, hU⟩ : ∃ x : World, x = w1.setCell ⟨w.heap.size + 1 + 1, 1, none⟩ (.slice A1 rs.length rs.length) := ⟨_, rfl⟩
  rw [← hU]
  have zU : U.heap.size = w1.heap.size := by rw [hU]; simp
  have oU : ∀ k, k ≠ w.heap.size + 1 + 1 → U.heap[k]? = w1.heap[k]? := fun k hk => by rw [hU]; exact heap_set _ _ _ _ _ hk
  have u2 : U.heap[w.heap.size + 1 + 1]? = some (.cells #[.int .i64 st, .slice A1 rs.length rs.length, .slice none 0 0] 33 (0, 0)) := by
    have := row_set d2 1 (.slice A1 rs.length rs.length)
    rw [hU]; simpa using this
  have BU : Hid (Below w.heap.size w U) := by rw [hU]; exact B1.out.setCell (by first | omega | (simp <;> omega)) _
  have OU : Hid (NuOwn (w.heap.size + 3) U.heap.size U A1 rs) := NuOwn.wide (NuOwn.keep O1.out (fun k h1 h2 => oU k (by omega))) zV (by omega)
  have D1 : Hid _ := (oU _ (by omega)).trans d1
  have U2 : Hid _ := u2
  clear hU oU u2 d0 d1 d2 x0 x2 y2 O1 B1
  refine (to_Pus wa wc ws _ (K3.out _ BU.out).2 HD.out.2).mono ?_
  rintro e w2 ⟨rfl, p2, b2⟩
  have z2 := b2.size
  have e1 := (b2.block (w.heap.size + 1) (by omega)).trans D1.out
  have e2 := (b2.block (w.heap.size + 1 + 1) (by omega)).trans U2.out
  have x1 := fun o => row_cell e1 o
  have y1 := fun o => row_frozen e1 o
  have x2 := fun o => row_cell e2 o
  have y2 := fun o => row_frozen e2 o
  have B2 : Hid (Below w.heap.size w w2) := BU.out.trans (b2.mono (by omega))
  have O2 : Hid (TxOwn (w.heap.size + 3) w2.heap.size w2 A1 (some ⟨U.heap.size, 0, none⟩) rs ws) := ⟨NuOwn.wide (NuOwn.keep OU.out (agree b2 (Nat.le_refl _))) (Nat.le_refl _) z2, .inr ⟨_, rfl, by omega, p2.lt, p2⟩⟩
  obtain ⟨A2, hA2⟩ : ∃ A2, A2 = some (⟨U.heap.size, 0, none⟩ : Addr) := ⟨_, rfl⟩
  rw [← hA2] at O2 ⊢
  clear hA2 p2 b2 e1 e2 zU
  go_wp2_with fail
  refine bodyPost_ret (v := .agg #[.int .i64 st, .slice A1 rs.length rs.length, .slice A2 ws.length ws.length]) (by simp [results, Try.results9, go_sem, x1]) rfl ⟨A1, A2, rfl, ?_, ?_⟩
  · refine TxOwn.wide (TxOwn.keep O2.out (fun k h1 h2 => ?_)) (by omega) (by simp)
    repeat rw [heap_set _ _ _ _ _ (by omega)]
  · repeat (refine Below.setCell ?_ (by first | omega | (simp <;> omega)) _)
    exact B2.out
set_option maxHeartbeats 2000000 in
theorem eq_txn (ra wa ra' wa' : Option Addr) (rc wc rc' wc' : Nat) (st : Int) (rs : List Int) (ws : List Ve) (w : World) (hr : TxRow 0 w.heap.size w ra wa rs ws) (hr' : TxRow 0 w.heap.size w ra' wa' rs ws) (hbd : TxBd 1048576 rs ws) :
    Calls Try.prog 11 #[.agg #[.int .i64 st, .slice ra rs.length rc, .slice wa ws.length wc], .agg #[.int .i64 st, .slice ra' rs.length rc', .slice wa' ws.length wc']] w fun e w' => e = .returned (.bool true) ∧ Below w.heap.size w w' := by
  obtain ⟨V, hV⟩ : ∃ V, V = (w.alloc (.cells #[.int .i64 st, .slice ra rs.length rc, .slice wa ws.length wc] 33)).alloc (.cells #[.int .i64 st, .slice ra' rs.length rc', .slice wa' ws.length wc'] 33) := ⟨_, rfl⟩
  have bV : Below w.heap.size w V := by
    rw [hV]
    repeat (first | exact Below.refl _ _ | refine Below.alloc ?_ (by first | omega | (simp <;> omega)) _)
  have zV : w.heap.size + 2 ≤ V.heap.size := by rw [hV]; simp
  have c0 : V.heap[w.heap.size]? = some (.cells #[.int .i64 st, .slice ra rs.length rc, .slice wa ws.length wc] 33 (0, 0)) := by
    rw [hV, Below.heap_alloc _ _ _ (by simp <;> omega)]; exact heap_alloc_new _ _
  have c1 : V.heap[w.heap.size + 1]? = some (.cells #[.int .i64 st, .slice ra' rs.length rc', .slice wa' ws.length wc'] 33 (0, 0)) := by
    rw [hV]
    have := heap_alloc_new (w.alloc (.cells #[.int .i64 st, .slice ra rs.length rc, .slice wa ws.length wc] 33)) (.cells #[.int .i64 st, .slice ra' rs.length rc', .slice wa' ws.length wc'] 33)
    simpa using this
  have KV : Hid (∀ W, Below V.heap.size V W → W.heap[w.heap.size]? = some (.cells #[.int .i64 st, .slice ra rs.length rc, .slice wa ws.length wc] 33 (0, 0)) ∧ W.heap[w.heap.size + 1]? = some (.cells #[.int .i64 st, .slice ra' rs.length rc', .slice wa' ws.length wc'] 33 (0, 0)) ∧ TxRow 0 W.heap.size W ra wa rs ws ∧ TxRow 0 W.heap.size W ra' wa' rs ws ∧ Below w.heap.size w W) := fun W h =>
    have hw := bV.trans (h.mono (by omega))
    ⟨(h.block _ (by omega)).trans c0, (h.block _ (by omega)).trans c1, TxRow.up hr hw, TxRow.up hr' hw, hw⟩
  have HD : Hid (TxBd 1048576 rs ws) := hbd
  clear hr hr' hbd c0 c1 bV
  go_enter Try.func11, Try.ntmps11
  go_wp2_with fail
  rw [← hV]
  clear hV
  have t0 := KV.out _ (Below.refl _ _)
  refine (eq_nums ra ra' rc rc' rs _ t0.2.2.1.1 t0.2.2.2.1.1 HD.out.1).mono ?_
  clear t0
  rintro e w1 ⟨rfl, b1⟩
  obtain ⟨t0, t1, t2, t3, t4⟩ := KV.out _ b1
  have B1 : Hid (Below V.heap.size V w1) := b1
  have x0 := fun o => row_cell t0 o
  have x1 := fun o => row_cell t1 o
  have T2 : Hid _ := t2
  have T3 : Hid _ := t3
  clear t0 t1 t2 t3 t4 b1
  go_wp2_with fail
  refine (eq_Pus wa wa' wc wc' ws _ T2.out.2 T3.out.2 HD.out.2).mono ?_
  rintro e w2 ⟨rfl, b2⟩
  have Q2 : Hid _ := (KV.out _ (B1.out.trans (b2.mono B1.out.size))).2.2.2.2
  clear b2 x0 x1
  go_wp2_with fail
  go_ret
  exact ⟨rfl, Q2.out⟩
end Go.Proofs.Ytlfcjhiojbcijaa.G
