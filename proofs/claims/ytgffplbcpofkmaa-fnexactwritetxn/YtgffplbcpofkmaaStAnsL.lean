/- Answered transactions whose rows lie behind a block number; marks that leave the variables of transactions. -/
import Derived.Test.YtgffplbcpofkmaaStAnsT
import Derived.Test.YtgffplbcpofkmaaStTxWrite
namespace Go.Proofs.Ytgffplbcpofkmaa.G
open Go.ChangeShapes Go.WideShapes Go.ChangeAt Go.RowKit
set_option linter.unusedVariables false

/-- A transaction's rows, as the program or the specification answers them. -/
def AnsL (lo : Nat) (rs : List Int) (ws : List Ve) (x y : Value) (W : World) : Prop := ∃ ra rc wa wc, x = .slice ra rs.length rc ∧ y = .slice wa ws.length wc ∧ TxOwn lo W.heap.size W ra wa rs ws
theorem AnsL.kept {lo : Nat} {rs : List Int} {ws : List Ve} {x y : Value} {W W' : World} (h : AnsL lo rs ws x y W) (hk : KeptT 38 W W') : AnsL lo rs ws x y W' := by
  obtain ⟨ra, rc, wa, wc, e1, e2, h⟩ := h
  exact ⟨ra, rc, wa, wc, e1, e2, h.kept hk (by decide) (by decide)⟩
theorem AnsL.row {lo : Nat} {rs : List Int} {ws : List Ve} {ra wa : Option Addr} {n m rc wc : Nat} {W : World} (h : AnsL lo rs ws (.slice ra n rc) (.slice wa m wc) W) : TxRow 0 W.heap.size W ra wa rs ws := by
  obtain ⟨ra', rc', wa', wc', e1, e2, h⟩ := h
  simp only [Value.slice.injEq] at e1 e2
  rw [e1.1, e2.1]
  exact TxRow.wide h.row (Nat.zero_le _) (Nat.le_refl _)
/-- Where the region stands: x is the operation that stores the answer, y the one that makes the variable, s its slot. -/
def AtL (lo x y s : Nat) (st : Int) (rs : List Int) (ws : List Ve) (W0 : World) (L : Array Bool) (u : Nat → Value) (W : World) : Prop :=
  Below W0.heap.size W0 W ∧ (L.getD x false = true → ∃ B ra rc wa wc, u s = .pointer (some ⟨B, 0, none⟩) ∧ W0.heap.size ≤ B ∧ W.heap[B]? = some (.cells #[.int .i64 st, .slice ra rs.length rc, .slice wa ws.length wc] 38 (0, 0)) ∧ AnsL lo rs ws (.slice ra rs.length rc) (.slice wa ws.length wc) W) ∧ (L.getD x false = true → L.getD y false = true)
theorem AtL.step {x y s : Nat} {st : Int} {lo : Nat} {rs : List Int} {ws : List Ve} {W0 : World} {L : Array Bool} {u : Nat → Value} {W W' : World} (h : AtL lo x y s st rs ws W0 L u W) (hb : Below W.heap.size W W') {i d : Nat} {v : Value} (hi : i ≠ x) (hd : L.getD x false = true → d ≠ s) : AtL lo x y s st rs ws W0 (L.setIfInBounds i true) (upd u d v) W' := by
  refine ⟨h.1.trans (hb.mono h.1.size), fun h1 => ?_, fun h1 => ?_⟩
  · rw [getD_set_ne false hi] at h1
    obtain ⟨B, ra, rc, wa, wc, e, h2, h3, h4⟩ := h.2.1 h1
    exact ⟨B, ra, rc, wa, wc, by rw [upd_ne _ _ (fun e => hd h1 e.symm)]; exact e, h2, (hb.block B (Array.getElem?_eq_some_iff.1 h3).1).trans h3, h4.kept (KeptT.of hb)⟩
  · rw [getD_set_ne false hi] at h1
    exact getD_upT (h.2.2 h1)
theorem AtL.start {x y s : Nat} {st : Int} {lo : Nat} {rs : List Int} {ws : List Ve} {W0 : World} {n : Nat} {u : Nat → Value} : AtL lo x y s st rs ws W0 (Array.replicate n false) u W0.drew := by
  have no : (Array.replicate n false).getD x false = true → False := fun h => by
    by_cases hx : x < n
    · simp [hx] at h
    · simp [hx] at h
  exact ⟨(Below.refl _ _).drew, fun h => (no h).elim, fun h => (no h).elim⟩
theorem AnsL.own {lo : Nat} {rs : List Int} {ws : List Ve} {ra wa : Option Addr} {n m rc wc : Nat} {W : World} (h : AnsL lo rs ws (.slice ra n rc) (.slice wa m wc) W) : TxOwn lo W.heap.size W ra wa rs ws := by
  obtain ⟨ra', rc', wa', wc', e1, e2, h⟩ := h
  simp only [Value.slice.injEq] at e1 e2
  rw [e1.1, e2.1]
  exact h
/-- Variables that hold transactions stay. -/
def TxStay (w w' : World) : Prop := ∀ (b : Nat) (cs : Array Value), w.heap[b]? = some (.cells cs 38 (0, 0)) → w'.heap[b]? = some (.cells cs 38 (0, 0))
theorem TxStay.trans {a b c : World} (h : TxStay a b) (g : TxStay b c) : TxStay a c := fun i cs hi => g i cs (h i cs hi)
theorem TxStay.of {w w' : World} (h : Below w.heap.size w w') : TxStay w w' := fun b cs hb => (h.block b (Array.getElem?_eq_some_iff.1 hb).1).trans hb
theorem TxStay.kind {T : TypeId} {w w' : World} (h : KindKept T w w') (hT : 38 ≠ T) : TxStay w w' := fun b cs hb => (h b _ cs hb hT).trans hb
set_option maxHeartbeats 2000000 in
theorem mark_txnK (ra wa : Option Addr) (rc wc : Nat) (st : Int) (rs : List Int) (ws : List Ve) (lo hi : Nat) (K : Int) (w : World) (ho : TxOwn lo hi w ra wa rs ws) (hbd : TxBd 1048576 rs ws) (hhi : hi ≤ w.heap.size) (h0 : 0 ≤ K) (h1 : K ≤ 3298534883328) :
    Calls Try.prog 20 #[.agg #[.int .i64 st, .slice ra rs.length rc, .slice wa ws.length wc], .int .i64 K] w fun e w' => ∃ r : Int, e = .returned (.int .i64 r) ∧ r = K + rs.length + 2 * ws.length ∧ TxMk lo hi w' ra wa rs.length ws.length K ∧ KeptS lo hi w w' ∧ TxStay w w' := by
  obtain ⟨V, hV⟩ : ∃ V, V = w.alloc (.cells #[.int .i64 st, .slice ra rs.length rc, .slice wa ws.length wc] 38) := ⟨_, rfl⟩
  have bV : Below w.heap.size w V := by rw [hV]; exact (Below.refl _ _).alloc (Nat.le_refl _) _
  have zV : w.heap.size + 1 ≤ V.heap.size := by rw [hV]; simp
  have cV : V.heap[w.heap.size]? = some (.cells #[.int .i64 st, .slice ra rs.length rc, .slice wa ws.length wc] 38 (0, 0)) := by rw [hV]; exact heap_alloc_new _ _
  have OV : Hid (TxOwn lo hi V ra wa rs ws) := TxOwn.keep ho (agree bV hhi)
  have SV : Hid (TxStay w V) := TxStay.of bV
  have KV : Hid (KeptS lo hi w V) := KeptS.of bV
  have CV : Hid _ := cV
  have hl1 := hbd.1
  have hl2 := hbd.2
  clear ho hbd bV cV
  go_enter Try.func20, Try.ntmps20
  go_wp2_with fail
  rw [← hV]
  clear hV
  refine (mark_reads ra rc rs lo hi K _ OV.out.1 (by omega) hl1 h0 (by omega)).mono ?_
  rintro e w1 ⟨r, rfl, hr, m1, k1, kk1⟩
  have z1 := k1.size
  have d1 := (k1.block w.heap.size (by omega) (by omega)).trans CV.out
  have x1 := fun o => row_cell d1 o
  have O1 : Hid (PuOwn lo hi w1 wa ws) := PuOwn.kind OV.out.2 kk1
  have M1 : Hid _ := m1
  have S1 : Hid (TxStay w w1) := SV.out.trans (TxStay.kind kk1 (by decide))
  have K1 : Hid (KeptS lo hi w w1) := KV.out.trans k1
  have HR : Hid (r = K + rs.length) := hr
  have hr1 : 0 ≤ r := by omega
  have hr2 : r ≤ 4398046511104 := by omega
  clear m1 k1 kk1 d1 hr OV
  go_wp2_with fail
  refine (mark_writes wa wc ws lo hi r _ O1.out (by omega) hl2 hr1 hr2).mono ?_
  rintro e w2 ⟨r2, rfl, hq, m2, k2, kk2⟩
  have HR2 : Hid (r2 = K + rs.length + 2 * ws.length) := by have := HR.out; unfold Hid; omega
  have M2 : Hid (TxMk lo hi w2 ra wa rs.length ws.length K) := ⟨NuMk.kind M1.out kk2, by rw [← HR.out]; exact m2⟩
  have S2 : Hid (TxStay w w2) := S1.out.trans (TxStay.kind kk2 (by decide))
  have K2 : Hid (KeptS lo hi w w2) := K1.out.trans k2
  clear hq m2 k2 kk2 x1
  go_wp2_with fail
  go_ret
  exact ⟨r2, rfl, HR2.out, M2.out, K2.out, S2.out⟩
theorem wtIs (l : Chs) (now st : Int) (rs : List Int) (ws : List Ve) (pk pv : Int) (hb : TxBd 1048576 rs ws) : ∃ st' rs' ws' cd, WtIs l now st rs ws pk pv st' rs' ws' cd ∧ TxBd 1048576 rs' ws' := by
  cases hT : txnB l now st rs ws
  · exact ⟨_, _, _, _, .inl ⟨hT, rfl, rfl, rfl, rfl⟩, Nat.zero_le _, Nat.zero_le _⟩
  cases hK : putB pk pv
  · exact ⟨_, _, _, _, .inr (.inl ⟨hT, hK, rfl, rfl, rfl, rfl⟩), Nat.zero_le _, Nat.zero_le _⟩
  by_cases h4 : ws.length = 400
  · exact ⟨_, _, _, _, .inr (.inr (.inl ⟨hT, hK, h4, rfl, rfl, rfl, rfl⟩)), hb⟩
  · refine ⟨_, _, _, _, .inr (.inr (.inr ⟨hT, hK, h4, rfl, rfl, rfl, rfl⟩)), hb.1, ?_⟩
    have h5 : ws.length ≤ 400 := by
      have := (txnB_all hT).2.2.1
      unfold putsB at this
      simp only [Bool.and_eq_true, decide_eq_true_eq] at this
      exact this.1
    simp; omega
end Go.Proofs.Ytgffplbcpofkmaa.G
