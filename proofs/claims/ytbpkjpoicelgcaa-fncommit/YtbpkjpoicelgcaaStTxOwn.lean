/- The specification's own copies of transactions; what a transaction wrote last. -/
import Derived.Test.YtbpkjpoicelgcaaStTx
import Derived.Test.YtbpkjpoicelgcaaStWrSpec
import Derived.Deep.CutBlock
namespace Go.Proofs.Ytbpkjpoicelgcaa.G
open Go.ChangeShapes Go.WideShapes Go.ChangeAt Go.RowKit
set_option linter.unusedVariables false

theorem nuV_len (x : List Int) : (nuV x).length = x.length := by simp [nuV]
theorem nuV_at {x : List Int} {i : Nat} {z : Int} (h : x[i]? = some z) : (nuV x)[i]? = some (.int .i64 z) := by simp [nuV, h]
theorem nuV_one (x : List Int) : ∀ u ∈ nuV x, u.oneCell' = true := by
  intro u hu
  simp only [nuV, List.mem_map] at hu
  obtain ⟨z, _, rfl⟩ := hu
  rfl
theorem nuV_src {w : World} {b o : Nat} {x : List Int} (h : ∀ i z, x[i]? = some z → NuAt (rdOf w b) (o + i * 1) z) : ∀ j u, (nuV x)[j]? = some u → w.cell? ((⟨b, o, none⟩ : Addr).add j) = some u := by
  intro j u hu
  have hj : j < x.length := by have := (List.getElem?_eq_some_iff.1 hu).1; rwa [nuV_len] at this
  have h1 := h j x[j] (List.getElem?_eq_getElem hj)
  rw [nuV_at (List.getElem?_eq_getElem hj)] at hu
  simp only [Option.some.injEq] at hu
  subst hu
  rw [add_plain]
  have : rdOf w b (o + j * 1) = some (.int .i64 x[j]) := h1
  rw [Nat.mul_one] at this
  exact this
/-- Numbers copied by append onto nothing. -/
theorem app_copy_nu (x : List Int) (a : Option Addr) (g c N0 : Nat) (W : World) (hr : NuRow 0 W.heap.size W a x) (hl : x.length ≤ 1048576) (hg : N0 ≤ g) (hh : W.heap[g]? = some (.cells #[] 3 (0, 0))) :
    ∃ v W', (Builtin.append_ #[27, 27] 27 #[.slice (some ⟨g, 0, none⟩) 0 0, .slice a x.length c]).run Try.prog W = .ok v W' ∧ W'.ownsRow N0 3 1 v x.length (nuV x) ∧ Below W.heap.size W W' := by
  obtain ⟨i, hi, hz, hsz, hby⟩ := info_int
  have ht := Try.underlying27
  have hgl : g < W.heap.size := (Array.getElem?_eq_some_iff.1 hh).1
  by_cases h0 : x = []
  · subst h0
    have hsrc : Src Try.prog i.size 27 (.slice a 0 c) 0 [] W := by
      cases a
      · exact Src.ofNil W ht c
      · exact Src.ofSlice W ht _ 0 c [] (by simp) (by simp) (by simp)
    exact ⟨_, W, run_append_nothing (P := Try.prog) W _ _ _ _ i ht hi _ 0 0 (Nat.le_refl _) _ hsrc, ⟨rfl, .inr ⟨g, 0, #[], rfl, hg, hh, Nat.le_refl _, Nat.zero_le _, rfl, rfl⟩⟩, Below.refl _ _⟩
  · rcases hr with h | ⟨b, o, rfl, _, hb, hx⟩
    · exact absurd h h0
    have hlen := nuV_len x
    have hpos : 0 < x.length := List.length_pos_iff.2 h0
    have hsrc : Src Try.prog i.size 27 (.slice (some ⟨b, o, none⟩) x.length c) x.length (nuV x) W := Src.ofSlice W ht _ _ c _ (by rw [hsz, hlen, Nat.mul_one]) (nuV_src hx) (nuV_one x)
    have hold : (Builtin.firstCells i.size 0 (.slice (some ⟨g, 0, none⟩) 0 0)).run Try.prog W.drew = .ok ([] : List Value).toArray W.drew := run_firstCells_some W.drew i.size 0 _ 0 0 [] (by simp) (by simp)
    have hrun := run_append_grow_src (P := Try.prog) W 27 27 27 3 i _ ht hi hz (some ⟨g, 0, none⟩) 0 0 [] hold _ x.length (nuV x) hsrc (by omega) (by omega) (growslice_fits (by omega) (by rw [hby]; omega))
    simp only [Nat.zero_add, List.nil_append] at hrun
    have hge := grownCap_ge W x.length 0 3
    refine ⟨_, _, hrun, ⟨by rw [hlen, Nat.mul_one], .inr ⟨W.heap.size, _, _, rfl, by omega, heap_alloc_new W.drew _, hge, grownCap_le_maxLen _ _ _ _ (by unfold maxLen; omega), ?_, ?_⟩⟩, ((Below.refl _ _).drew).alloc (Nat.le_refl _) _⟩
    · simp [hlen, Builtin.zeroCells, Value.cells]; omega
    · simp [hlen]
/-- Writes copied by append onto nothing. -/
theorem app_copy_pu (l : List Ve) (a : Option Addr) (g c N0 : Nat) (W : World) (hr : VeRow 0 W.heap.size W a l) (hl : l.length ≤ 1048576) (hg : N0 ≤ g) (hh : W.heap[g]? = some (.cells #[] 43 (0, 0))) :
    ∃ v W', (Builtin.append_ #[28, 28] 28 #[.slice (some ⟨g, 0, none⟩) 0 0, .slice a l.length c]).run Try.prog W = .ok v W' ∧ W'.ownsRow N0 43 2 v l.length (veCells l) ∧ Below W.heap.size W W' := by
  obtain ⟨i, hi, hz, hsz, hby⟩ := info_PuX
  have ht := Try.underlying28
  have hgl : g < W.heap.size := (Array.getElem?_eq_some_iff.1 hh).1
  by_cases h0 : l = []
  · subst h0
    have hsrc : Src Try.prog i.size 28 (.slice a 0 c) 0 [] W := by
      cases a
      · exact Src.ofNil W ht c
      · exact Src.ofSlice W ht _ 0 c [] (by simp) (by simp) (by simp)
    exact ⟨_, W, run_append_nothing (P := Try.prog) W _ _ _ _ i ht hi _ 0 0 (Nat.le_refl _) _ hsrc, ⟨rfl, .inr ⟨g, 0, #[], rfl, hg, hh, Nat.le_refl _, Nat.zero_le _, rfl, rfl⟩⟩, Below.refl _ _⟩
  · rcases hr with h | ⟨b, o, rfl, _, hb, hx⟩
    · exact absurd h h0
    have hlen := veCells_len l
    have hpos : 0 < l.length := List.length_pos_iff.2 h0
    have hsrc : Src Try.prog i.size 28 (.slice (some ⟨b, o, none⟩) l.length c) l.length (veCells l) W := Src.ofSlice W ht _ _ c _ (by rw [hsz]; exact hlen) (veCells_src hx) (veCells_one l)
    have hold : (Builtin.firstCells i.size 0 (.slice (some ⟨g, 0, none⟩) 0 0)).run Try.prog W.drew = .ok ([] : List Value).toArray W.drew := run_firstCells_some W.drew i.size 0 _ 0 0 [] (by simp) (by simp)
    have hrun := run_append_grow_src (P := Try.prog) W 28 28 28 43 i _ ht hi hz (some ⟨g, 0, none⟩) 0 0 [] hold _ l.length (veCells l) hsrc (by omega) (by omega) (growslice_fits (by omega) (by rw [hby]; omega))
    simp only [Nat.zero_add, List.nil_append] at hrun
    have hge := grownCap_ge W l.length 0 43
    refine ⟨_, _, hrun, ⟨hlen, .inr ⟨W.heap.size, _, _, rfl, by omega, heap_alloc_new W.drew _, hge, grownCap_le_maxLen _ _ _ _ (by unfold maxLen; omega), ?_, ?_⟩⟩, ((Below.refl _ _).drew).alloc (Nat.le_refl _) _⟩
    · simp [hlen, Builtin.zeroCells, Value.cells]; omega
    · simp [hlen]
theorem PuOwn.of {base : Nat} {w : World} {v : Value} {x : List Ve} (h : w.ownsRow base 43 2 v x.length (veCells x)) : ∃ a c, v = .slice a x.length c ∧ PuOwn base w.heap.size w a x := by
  rcases h.2 with ⟨rfl, h0⟩ | ⟨g, cap, cur, rfl, h1, h2, h3, h4, h5, h6⟩
  · have : x = [] := List.eq_nil_of_length_eq_zero h0
    subst this
    exact ⟨none, 0, rfl, .inl rfl⟩
  · refine ⟨_, cap, rfl, .inr ⟨g, rfl, h1, (Array.getElem?_eq_some_iff.1 h2).1, cur, h2, by omega, fun i y hy => ?_⟩⟩
    obtain ⟨g0, g1⟩ := veCells_at x i y hy
    have hi := (List.getElem?_eq_some_iff.1 hy).1
    rw [← h6, List.getElem?_take, if_pos (by omega)] at g0 g1
    exact ⟨by simpa using g0, by simpa using g1⟩
/-- A transaction that a call owns and may append to. -/
def TxO (lo : Nat) (w : World) (rv wv : Value) (rs : List Int) (ws : List Ve) : Prop := w.ownsRow lo 3 1 rv rs.length (nuV rs) ∧ w.ownsRow lo 43 2 wv ws.length (veCells ws)
theorem TxO.own {lo : Nat} {w : World} {rv wv : Value} {rs : List Int} {ws : List Ve} (h : TxO lo w rv wv rs ws) : ∃ ra rc wa wc, rv = .slice ra rs.length rc ∧ wv = .slice wa ws.length wc ∧ TxOwn lo w.heap.size w ra wa rs ws := by
  obtain ⟨ra, rc, e1, h1⟩ := NuOwn.of h.1
  obtain ⟨wa, wc, e2, h2⟩ := PuOwn.of h.2
  exact ⟨ra, rc, wa, wc, e1, e2, h1, h2⟩
theorem own_lt3 {w : World} {base size n : Nat} {e : TypeId} {v : Value} {xs : List Value} (h : w.ownsRow base e size v n xs) (g : Nat) (hg : v.ownBlock = some g) : base ≤ g ∧ g < w.heap.size := by
  rcases h.2 with ⟨e, _⟩ | ⟨g', cap, cur, e, h1, h2, _⟩
  · subst e; cases hg
  · subst e
    simp only [Value.ownBlock, Option.some.injEq] at hg
    subst hg
    exact ⟨h1, (Array.getElem?_eq_some_iff.1 h2).1⟩
theorem TxO.move {lo : Nat} {w w' : World} {rv wv : Value} {rs : List Int} {ws : List Ve} (h : TxO lo w rv wv rs ws) (hk : ∀ k, lo ≤ k → k < w.heap.size → w'.heap[k]? = w.heap[k]?) : TxO lo w' rv wv rs ws :=
  ⟨own_set h.1 (fun g hg => hk g (own_lt3 h.1 g hg).1 (own_lt3 h.1 g hg).2), own_set h.2 (fun g hg => hk g (own_lt3 h.2 g hg).1 (own_lt3 h.2 g hg).2)⟩
theorem TxO.low {lo lo' : Nat} {w : World} {rv wv : Value} {rs : List Int} {ws : List Ve} (h : TxO lo w rv wv rs ws) (hl : lo' ≤ lo) : TxO lo' w rv wv rs ws := ⟨own_low h.1 hl, own_low h.2 hl⟩
theorem lastW_take2 {k : Int} {ps : List Ve} {i : Nat} (hi : i < ps.length) : lastW k (ps.take (i + 1)) = if ps[i].ts = k then some ps[i].v else lastW k (ps.take i) := by
  unfold lastW; rw [List.take_succ_eq_append_getElem hi, List.foldl_append]; rfl
theorem lastW_from {k : Int} {ps : List Ve} {n : Nat} (hn : n ≤ ps.length) (h : ∀ j (hj : j < ps.length), n ≤ j → ps[j].ts ≠ k) : lastW k ps = lastW k (ps.take n) := by
  have key : ∀ d, n + d ≤ ps.length → lastW k (ps.take (n + d)) = lastW k (ps.take n) := by
    intro d
    induction d with
    | zero => intro _; rfl
    | succ d ih =>
      intro hd
      rw [← Nat.add_assoc, lastW_take2 (by omega), if_neg (h _ (by omega) (by omega))]
      exact ih (by omega)
  have := key (ps.length - n) (by omega)
  rw [show n + (ps.length - n) = ps.length by omega, List.take_length] at this
  exact this
def wroteV (ws : List Ve) (key : Int) : Int := (lastW key ws).getD 0
def wroteB (ws : List Ve) (key : Int) : Bool := (lastW key ws).isSome
theorem ret_ib {a b : Int} {c d : Bool} (h1 : a = b) (h2 : c = d) : Ending.returned (.tuple #[.int .i64 a, .bool c]) = .returned (.tuple #[.int .i64 b, .bool d]) := by rw [h1, h2]
set_option maxHeartbeats 2000000 in
theorem spec_wrote (a : Option Addr) (c : Nat) (ws : List Ve) (key : Int) (w : World) (hr : VeRow 0 w.heap.size w a ws) (hl : ws.length ≤ 1048576) :
    Calls Try.prog 64 #[.slice a ws.length c, .int .i64 key] w fun e w' => e = .returned (.tuple #[.int .i64 (wroteV ws key), .bool (wroteB ws key)]) ∧ w' = w := by
  have HR : Hid _ := hr
  clear hr
  go_enter Try.func64, Try.ntmps64
  go_wp2_with fail
  go_loop [6] (fun i => ∃ (n : Nat) (z : Int), n ≤ ws.length ∧ i = .int .i64 z ∧ z = (n : Int) - 1 ∧ Hid (∀ j (hj : j < ws.length), n ≤ j → ws[j].ts ≠ key)) (fun i => (intOf i + 1).toNat)
  case atStart => exact ⟨ws.length, _, Nat.le_refl _, rfl, rfl, fun j hj h => by omega⟩
  case round =>
    obtain ⟨n, z, hn, rfl, hz, HN⟩ := hrel
    by_cases h0 : n = 0
    · subst h0
      have hz' : ¬ 0 ≤ z := by omega
      have HL : Hid (lastW key ws = none) := by rw [Hid, lastW_from (Nat.zero_le _) HN.out]; rfl
      have H1 : Hid (0 = wroteV ws key) := by rw [Hid, wroteV, HL.out]; rfl
      have H2 : Hid (false = wroteB ws key) := by rw [Hid, wroteB, HL.out]; rfl
      clear hz
      go_wp2_with fail
      go_ret2
      exact ⟨ret_ib H1.out H2.out, rfl⟩
    · obtain ⟨m, rfl⟩ : ∃ m, n = m + 1 := ⟨n - 1, by omega⟩
      obtain rfl : z = (m : Int) := by omega
      have hm : m < ws.length := by omega
      obtain ⟨b, o, ha, _, hbl, d0, d1⟩ := VeRow.cells HR.out m hm
      subst ha
      have hlt' : (m : Int) < ws.length := by omega
      have hge : (0 : Int) ≤ m := by omega
      by_cases he : ws[m].ts = key
      · have HL : Hid (lastW key ws = some ws[m].v) := by rw [Hid, lastW_from hn HN.out, lastW_take2 hm, if_pos he]
        have H1 : Hid (ws[m].v = wroteV ws key) := by rw [Hid, wroteV, HL.out]; rfl
        have H2 : Hid (true = wroteB ws key) := by rw [Hid, wroteB, HL.out]; rfl
        rw [he] at d0
        clear he hz
        go_wp2_with fail
        go_ret2
        exact ⟨ret_ib H1.out H2.out, rfl⟩
      · have he' : (ws[m].ts == key) = false := by simpa using he
        have HN2 : Hid (∀ j (hj : j < ws.length), m ≤ j → ws[j].ts ≠ key) := fun j hj h => by
          by_cases e : j = m
          · subst e; exact he
          · exact HN.out j hj (by omega)
        clear he hz
        go_wp2_with fail
        go_round
        case rel => exact ⟨m, _, by omega, by first | rfl | go_num, by omega, HN2⟩
        case measure => simp [intOf]
end Go.Proofs.Ytbpkjpoicelgcaa.G
