/- The specification's own copies of transactions; what a transaction wrote last. -/
import Derived.Test.YtlfcjhiojbcijaaStTx
import Derived.Test.YtlfcjhiojbcijaaStWrSpec
import Derived.Deep.CutBlock
namespace Go.Proofs.Ytlfcjhiojbcijaa.G
open Go.ChangeShapes Go.WideShapes Go.ChangeAt Go.RowKit
set_option linter.unusedVariables false

theorem nuV_len (x : List Int) : (nuV x).length = x.length := by simp [nuV]
theorem nuV_at {x : List Int} {i : Nat} {z : Int} (h : x[i]? = some z) : (nuV x)[i]? = some (.int .i64 z) := by simp [nuV, h]
theorem nuV_one (x : List Int) : ∀ u ∈ nuV x, u.oneCell' = true := by
  intro u hu
  simp only [nuV, List.mem_map] at hu
  obtain ⟨z, _, rfl⟩ := hu
  rfl
theorem nuV_src {w : World} {b o : Nat} {x : List Int} (h : ∀ i z, x[i]? = some z → NuAt (rdOf w b) (o + i * 1) z) : ∀ j u, (nuV x)[j]? = some u → w.cell? ((⟨b, o, none⟩ : Addr).add j) = some u := by
  intro j u hu
  have hj : j < x.length := by have := (List.getElem?_eq_some_iff.1 hu).1; rwa [nuV_len] at this
  have h1 := h j x[j] (List.getElem?_eq_getElem hj)
  rw [nuV_at (List.getElem?_eq_getElem hj)] at hu
  simp only [Option.some.injEq] at hu
  subst hu
  rw [add_plain]
  have : rdOf w b (o + j * 1) = some (.int .i64 x[j]) := h1
  rw [Nat.mul_one] at this
  exact this
/-- Numbers copied by append onto nothing. -/
theorem app_copy_nu (x : List Int) (a : Option Addr) (g c N0 : Nat) (W : World) (hr : NuRow 0 W.heap.size W a x) (hl : x.length ≤ 1048576) (hg : N0 ≤ g) (hh : W.heap[g]? = some (.cells #[] 3 (0, 0))) :
    ∃ v W', (Builtin.append_ #[25, 25] 25 #[.slice (some ⟨g, 0, none⟩) 0 0, .slice a x.length c]).run Try.prog W = .ok v W' ∧ W'.ownsRow N0 3 1 v x.length (nuV x) ∧ Below W.heap.size W W' := by
  obtain ⟨i, hi, hz, hsz, hby⟩ := info_int
  have ht := Try.underlying25
  have hgl : g < W.heap.size := (Array.getElem?_eq_some_iff.1 hh).1
  by_cases h0 : x = []
  · subst h0
    have hsrc : Src Try.prog i.size 25 (.slice a 0 c) 0 [] W := by
      cases a
      · exact Src.ofNil W ht c
      · exact Src.ofSlice W ht _ 0 c [] (by simp) (by simp) (by simp)
    exact ⟨_, W, run_append_nothing (P := Try.prog) W _ _ _ _ i ht hi _ 0 0 (Nat.le_refl _) _ hsrc, ⟨rfl, .inr ⟨g, 0, #[], rfl, hg, hh, Nat.le_refl _, Nat.zero_le _, rfl, rfl⟩⟩, Below.refl _ _⟩
  · rcases hr with h | ⟨b, o, rfl, _, hb, hx⟩
    · exact absurd h h0
    have hlen := nuV_len x
    have hpos : 0 < x.length := List.length_pos_iff.2 h0
    have hsrc : Src Try.prog i.size 25 (.slice (some ⟨b, o, none⟩) x.length c) x.length (nuV x) W := Src.ofSlice W ht _ _ c _ (by rw [hsz, hlen, Nat.mul_one]) (nuV_src hx) (nuV_one x)
    have hold : (Builtin.firstCells i.size 0 (.slice (some ⟨g, 0, none⟩) 0 0)).run Try.prog W.drew = .ok ([] : List Value).toArray W.drew := run_firstCells_some W.drew i.size 0 _ 0 0 [] (by simp) (by simp)
    have hrun := run_append_grow_src (P := Try.prog) W 25 25 25 3 i _ ht hi hz (some ⟨g, 0, none⟩) 0 0 [] hold _ x.length (nuV x) hsrc (by omega) (by omega) (growslice_fits (by omega) (by rw [hby]; omega))
    simp only [Nat.zero_add, List.nil_append] at hrun
    have hge := grownCap_ge W x.length 0 3
    refine ⟨_, _, hrun, ⟨by rw [hlen, Nat.mul_one], .inr ⟨W.heap.size, _, _, rfl, by omega, heap_alloc_new W.drew _, hge, grownCap_le_maxLen _ _ _ _ (by unfold maxLen; omega), ?_, ?_⟩⟩, ((Below.refl _ _).drew).alloc (Nat.le_refl _) _⟩
    · simp [hlen, Builtin.zeroCells, Value.cells]; omega
    · simp [hlen]
/-- Writes copied by append onto nothing. -/
theorem app_copy_pu (l : List Ve) (a : Option Addr) (g c N0 : Nat) (W : World) (hr : VeRow 0 W.heap.size W a l) (hl : l.length ≤ 1048576) (hg : N0 ≤ g) (hh : W.heap[g]? = some (.cells #[] 81 (0, 0))) :
    ∃ v W', (Builtin.append_ #[31, 31] 31 #[.slice (some ⟨g, 0, none⟩) 0 0, .slice a l.length c]).run Try.prog W = .ok v W' ∧ W'.ownsRow N0 81 2 v l.length (veCells l) ∧ Below W.heap.size W W' := by
  obtain ⟨i, hi, hz, hsz, hby⟩ := info_PuX
  have ht := Try.underlying31
  have hgl : g < W.heap.size := (Array.getElem?_eq_some_iff.1 hh).1
  by_cases h0 : l = []
  · subst h0
    have hsrc : Src Try.prog i.size 31 (.slice a 0 c) 0 [] W := by
      cases a
      · exact Src.ofNil W ht c
      · exact Src.ofSlice W ht _ 0 c [] (by simp) (by simp) (by simp)
    exact ⟨_, W, run_append_nothing (P := Try.prog) W _ _ _ _ i ht hi _ 0 0 (Nat.le_refl _) _ hsrc, ⟨rfl, .inr ⟨g, 0, #[], rfl, hg, hh, Nat.le_refl _, Nat.zero_le _, rfl, rfl⟩⟩, Below.refl _ _⟩
  · rcases hr with h | ⟨b, o, rfl, _, hb, hx⟩
    · exact absurd h h0
    have hlen := veCells_len l
    have hpos : 0 < l.length := List.length_pos_iff.2 h0
    have hsrc : Src Try.prog i.size 31 (.slice (some ⟨b, o, none⟩) l.length c) l.length (veCells l) W := Src.ofSlice W ht _ _ c _ (by rw [hsz]; exact hlen) (veCells_src hx) (veCells_one l)
    have hold : (Builtin.firstCells i.size 0 (.slice (some ⟨g, 0, none⟩) 0 0)).run Try.prog W.drew = .ok ([] : List Value).toArray W.drew := run_firstCells_some W.drew i.size 0 _ 0 0 [] (by simp) (by simp)
    have hrun := run_append_grow_src (P := Try.prog) W 31 31 31 81 i _ ht hi hz (some ⟨g, 0, none⟩) 0 0 [] hold _ l.length (veCells l) hsrc (by omega) (by omega) (growslice_fits (by omega) (by rw [hby]; omega))
    simp only [Nat.zero_add, List.nil_append] at hrun
    have hge := grownCap_ge W l.length 0 81
    refine ⟨_, _, hrun, ⟨hlen, .inr ⟨W.heap.size, _, _, rfl, by omega, heap_alloc_new W.drew _, hge, grownCap_le_maxLen _ _ _ _ (by unfold maxLen; omega), ?_, ?_⟩⟩, ((Below.refl _ _).drew).alloc (Nat.le_refl _) _⟩
    · simp [hlen, Builtin.zeroCells, Value.cells]; omega
    · simp [hlen]
theorem PuOwn.of {base : Nat} {w : World} {v : Value} {x : List Ve} (h : w.ownsRow base 81 2 v x.length (veCells x)) : ∃ a c, v = .slice a x.length c ∧ PuOwn base w.heap.size w a x := by
  rcases h.2 with ⟨rfl, h0⟩ | ⟨g, cap, cur, rfl, h1, h2, h3, h4, h5, h6⟩
  · have : x = [] := List.eq_nil_of_length_eq_zero h0
    subst this
    exact ⟨none, 0, rfl, .inl rfl⟩
  · refine ⟨_, cap, rfl, .inr ⟨g, rfl, h1, (Array.getElem?_eq_some_iff.1 h2).1, cur, h2, by omega, fun i y hy => ?_⟩⟩
    obtain ⟨g0, g1⟩ := veCells_at x i y hy
    have hi := (List.getElem?_eq_some_iff.1 hy).1
    rw [← h6, List.getElem?_take, if_pos (by omega)] at g0 g1
    exact ⟨by simpa using g0, by simpa using g1⟩
/-- A transaction that a call owns and may append to. -/
def TxO (lo : Nat) (w : World) (rv wv : Value) (rs : List Int) (ws : List Ve) : Prop := w.ownsRow lo 3 1 rv rs.length (nuV rs) ∧ w.ownsRow lo 81 2 wv ws.length (veCells ws)
theorem TxO.own {lo : Nat} {w : World} {rv wv : Value} {rs : List Int} {ws : List Ve} (h : TxO lo w rv wv rs ws) : ∃ ra rc wa wc, rv = .slice ra rs.length rc ∧ wv = .slice wa ws.length wc ∧ TxOwn lo w.heap.size w ra wa rs ws := by
  obtain ⟨ra, rc, e1, h1⟩ := NuOwn.of h.1
  obtain ⟨wa, wc, e2, h2⟩ := PuOwn.of h.2
  exact ⟨ra, rc, wa, wc, e1, e2, h1, h2⟩
theorem own_lt3 {w : World} {base size n : Nat} {e : TypeId} {v : Value} {xs : List Value} (h : w.ownsRow base e size v n xs) (g : Nat) (hg : v.ownBlock = some g) : base ≤ g ∧ g < w.heap.size := by
  rcases h.2 with ⟨e, _⟩ | ⟨g', cap, cur, e, h1, h2, _⟩
  · subst e; cases hg
  · subst e
    simp only [Value.ownBlock, Option.some.injEq] at hg
    subst hg
    exact ⟨h1, (Array.getElem?_eq_some_iff.1 h2).1⟩
theorem TxO.move {lo : Nat} {w w' : World} {rv wv : Value} {rs : List Int} {ws : List Ve} (h : TxO lo w rv wv rs ws) (hk : ∀ k, lo ≤ k → k < w.heap.size → w'.heap[k]? = w.heap[k]?) : TxO lo w' rv wv rs ws :=
  ⟨own_set h.1 (fun g hg => hk g (own_lt3 h.1 g hg).1 (own_lt3 h.1 g hg).2), own_set h.2 (fun g hg => hk g (own_lt3 h.2 g hg).1 (own_lt3 h.2 g hg).2)⟩
theorem TxO.low {lo lo' : Nat} {w : World} {rv wv : Value} {rs : List Int} {ws : List Ve} (h : TxO lo w rv wv rs ws) (hl : lo' ≤ lo) : TxO lo' w rv wv rs ws := ⟨own_low h.1 hl, own_low h.2 hl⟩
set_option maxHeartbeats 4000000 in
set_option maxRecDepth 4000 in
theorem spec_own (ra wa : Option Addr) (rc wc : Nat) (st : Int) (rs : List Int) (ws : List Ve) (w : World) (hr : TxRow 0 w.heap.size w ra wa rs ws) (hbd : TxBd 1048576 rs ws) :
    Calls Try.prog 24 #[.agg #[.int .i64 st, .slice ra rs.length rc, .slice wa ws.length wc]] w fun e w' => ∃ rv wv, e = .returned (.agg #[.int .i64 st, rv, wv]) ∧ TxO w.heap.size w' rv wv rs ws ∧ Below w.heap.size w w' := by
  obtain ⟨V, hV⟩ : ∃ V : World, V = ((w.alloc (.cells #[.int .i64 st, .slice ra rs.length rc, .slice wa ws.length wc] 33)).alloc (.cells #[.int .i64 0, .slice none 0 0, .slice none 0 0] 33)).alloc (.cells #[] 3) := ⟨_, rfl⟩
  have bV : Below w.heap.size w V := by
    rw [hV]
    repeat (first | exact Below.refl _ _ | refine Below.alloc ?_ (by first | omega | (simp <;> omega)) _)
  have zV : w.heap.size + 3 ≤ V.heap.size := by rw [hV]; simp
  have c0 : V.heap[w.heap.size]? = some (.cells #[.int .i64 st, .slice ra rs.length rc, .slice wa ws.length wc] 33 (0, 0)) := by
    rw [hV, Below.heap_alloc _ _ _ (by simp <;> omega), Below.heap_alloc _ _ _ (by simp <;> omega)]; exact heap_alloc_new _ _
  have c1 : V.heap[w.heap.size + 1]? = some (.cells #[.int .i64 0, .slice none 0 0, .slice none 0 0] 33 (0, 0)) := by
    rw [hV, Below.heap_alloc _ _ _ (by simp <;> omega)]
    have := heap_alloc_new (w.alloc (.cells #[.int .i64 st, .slice ra rs.length rc, .slice wa ws.length wc] 33)) (.cells #[.int .i64 0, .slice none 0 0, .slice none 0 0] 33)
    simpa using this
  have c2 : V.heap[w.heap.size + 1 + 1]? = some (.cells #[] 3 (0, 0)) := by
    rw [hV]
    have := heap_alloc_new ((w.alloc (.cells #[.int .i64 st, .slice ra rs.length rc, .slice wa ws.length wc] 33)).alloc (.cells #[.int .i64 0, .slice none 0 0, .slice none 0 0] 33)) (.cells #[] 3)
    simpa using this
  have hrV := TxRow.up hr bV
  obtain ⟨v1, W1, hrun, o1, b1⟩ := app_copy_nu rs ra (w.heap.size + 1 + 1) rc (w.heap.size + 2) V hrV.1 hbd.1 (by omega) c2
  obtain ⟨a1, k1, e1, _⟩ := NuOwn.of o1
  subst e1
  have z1 := b1.size
  have B1 : Hid (Below w.heap.size w W1) := bV.trans (b1.mono (by omega))
  have d0 := (b1.block w.heap.size (by omega)).trans c0
  have d1 := (b1.block (w.heap.size + 1) (by omega)).trans c1
  have O1 : Hid _ := o1
  have HRUN : Hid _ := hrun
  have HRW : Hid (TxRow 0 w.heap.size w ra wa rs ws) := hr
  have HD : Hid _ := hbd
  have D0 : Hid _ := d0
  have D1 : Hid _ := d1
  have x0 := fun o => row_cell d0 o
  have y0 := fun o => row_frozen d0 o
  clear bV c0 c1 c2 hrV o1 b1 hrun hr hbd d0 d1
  go_enter Try.func24, Try.ntmps24
  go_upto_region 2 with (first | (at_builtin; rw [← hV]; refine wpList_append_run rfl _ _ _ rfl _ _ _ _ rfl rfl HRUN.out ?_) | fail)
  clear hV HRUN x0 y0
  obtain ⟨U, hU⟩ : ∃ x : World, x = (W1.setCell ⟨w.heap.size, 1, none⟩ (.slice a1 rs.length k1)).alloc (.cells #[] 81) := ⟨_, rfl⟩
  have zU : U.heap.size = W1.heap.size + 1 := by rw [hU]; simp
  have oU : ∀ k, k ≠ w.heap.size → k < W1.heap.size → U.heap[k]? = W1.heap[k]? := fun k hk hlt => by
    rw [hU, Below.heap_alloc _ _ _ (by simpa using hlt)]; exact heap_set _ _ _ _ _ hk
  have u0 : U.heap[w.heap.size]? = some (.cells #[.int .i64 st, .slice a1 rs.length k1, .slice wa ws.length wc] 33 (0, 0)) := by
    rw [hU, Below.heap_alloc _ _ _ (by simp; omega)]
    have := row_set D0.out 1 (.slice a1 rs.length k1)
    simpa using this
  have u2 : U.heap[W1.heap.size]? = some (.cells #[] 81 (0, 0)) := by
    rw [hU]
    have := heap_alloc_new (W1.setCell ⟨w.heap.size, 1, none⟩ (.slice a1 rs.length k1)) (.cells #[] 81)
    simpa using this
  have BU : Below w.heap.size w U := by
    rw [hU]
    refine Below.alloc ?_ (by simp; omega) _
    exact B1.out.setCell (Nat.le_refl _) _
  have OU : U.ownsRow (w.heap.size + 2) 3 1 (.slice a1 rs.length k1) rs.length (nuV rs) := own_set O1.out (fun g hg => by have := own_lt3 O1.out g hg; exact oU g (by omega) this.2)
  have hrU := TxRow.up HRW.out BU
  obtain ⟨v2, W2, hrun, o2, b2⟩ := app_copy_pu ws wa W1.heap.size wc (w.heap.size + 2) U hrU.2 HD.out.2 (by omega) u2
  obtain ⟨a2, k2, e2, _⟩ := PuOwn.of o2
  subst e2
  have z2 := b2.size
  have B2 : Hid (Below w.heap.size w W2) := BU.trans (b2.mono (by omega))
  have d0 := (b2.block w.heap.size (by omega)).trans u0
  have d1 := (b2.block (w.heap.size + 1) (by omega)).trans ((oU _ (by omega) (by omega)).trans D1.out)
  have O2 : Hid (TxO (w.heap.size + 2) W2 (.slice a1 rs.length k1) (.slice a2 ws.length k2) rs ws) := ⟨own_set OU (fun g hg => b2.block g (own_lt3 OU g hg).2), o2⟩
  have HRUN : Hid _ := hrun
  have x0 := fun o => row_cell d0 o
  have y0 := fun o => row_frozen d0 o
  have x1 := fun o => row_cell d1 o
  have y1 := fun o => row_frozen d1 o
  have xd0 := fun o => row_cell u0 o
  rw [hU] at xd0
  have HU : Hid (U = (W1.setCell ⟨w.heap.size, 1, none⟩ (.slice a1 rs.length k1)).alloc (.cells #[] 81)) := hU
  clear oU u0 u2 BU OU hrU o2 b2 hrun d0 d1 zU hU
  go_wp2_with (first | (at_builtin; rw [← HU.out]; refine wpList_append_run rfl _ _ _ rfl _ _ _ _ rfl rfl HRUN.out ?_) | fail)
  refine bodyPost_ret (v := .agg #[.int .i64 st, .slice a1 rs.length k1, .slice a2 ws.length k2]) (by simp [results, Try.results24, go_sem, x1]) rfl ⟨_, _, rfl, ?_, ?_⟩
  · refine TxO.low (TxO.move O2.out (fun k h1 h2 => ?_)) (by omega)
    repeat rw [heap_set _ _ _ _ _ (by omega)]
  · repeat (refine Below.setCell ?_ (by first | omega | (simp <;> omega)) _)
    exact B2.out
theorem lastW_take2 {k : Int} {ps : List Ve} {i : Nat} (hi : i < ps.length) : lastW k (ps.take (i + 1)) = if ps[i].ts = k then some ps[i].v else lastW k (ps.take i) := by
  unfold lastW; rw [List.take_succ_eq_append_getElem hi, List.foldl_append]; rfl
theorem lastW_from {k : Int} {ps : List Ve} {n : Nat} (hn : n ≤ ps.length) (h : ∀ j (hj : j < ps.length), n ≤ j → ps[j].ts ≠ k) : lastW k ps = lastW k (ps.take n) := by
  have key : ∀ d, n + d ≤ ps.length → lastW k (ps.take (n + d)) = lastW k (ps.take n) := by
    intro d
    induction d with
    | zero => intro _; rfl
    | succ d ih =>
      intro hd
      rw [← Nat.add_assoc, lastW_take2 (by omega), if_neg (h _ (by omega) (by omega))]
      exact ih (by omega)
  have := key (ps.length - n) (by omega)
  rw [show n + (ps.length - n) = ps.length by omega, List.take_length] at this
  exact this
def wroteV (ws : List Ve) (key : Int) : Int := (lastW key ws).getD 0
def wroteB (ws : List Ve) (key : Int) : Bool := (lastW key ws).isSome
theorem ret_ib {a b : Int} {c d : Bool} (h1 : a = b) (h2 : c = d) : Ending.returned (.tuple #[.int .i64 a, .bool c]) = .returned (.tuple #[.int .i64 b, .bool d]) := by rw [h1, h2]
set_option maxHeartbeats 2000000 in
theorem spec_wrote (a : Option Addr) (c : Nat) (ws : List Ve) (key : Int) (w : World) (hr : VeRow 0 w.heap.size w a ws) (hl : ws.length ≤ 1048576) :
    Calls Try.prog 47 #[.slice a ws.length c, .int .i64 key] w fun e w' => e = .returned (.tuple #[.int .i64 (wroteV ws key), .bool (wroteB ws key)]) ∧ w' = w := by
  have HR : Hid _ := hr
  clear hr
  go_enter Try.func47, Try.ntmps47
  go_wp2_with fail
  go_loop [6] (fun i => ∃ (n : Nat) (z : Int), n ≤ ws.length ∧ i = .int .i64 z ∧ z = (n : Int) - 1 ∧ Hid (∀ j (hj : j < ws.length), n ≤ j → ws[j].ts ≠ key)) (fun i => (intOf i + 1).toNat)
  case atStart => exact ⟨ws.length, _, Nat.le_refl _, rfl, rfl, fun j hj h => by omega⟩
  case round =>
    obtain ⟨n, z, hn, rfl, hz, HN⟩ := hrel
    by_cases h0 : n = 0
    · subst h0
      have hz' : ¬ 0 ≤ z := by omega
      have HL : Hid (lastW key ws = none) := by rw [Hid, lastW_from (Nat.zero_le _) HN.out]; rfl
      have H1 : Hid (0 = wroteV ws key) := by rw [Hid, wroteV, HL.out]; rfl
      have H2 : Hid (false = wroteB ws key) := by rw [Hid, wroteB, HL.out]; rfl
      clear hz
      go_wp2_with fail
      go_ret2
      exact ⟨ret_ib H1.out H2.out, rfl⟩
    · obtain ⟨m, rfl⟩ : ∃ m, n = m + 1 := ⟨n - 1, by omega⟩
      obtain rfl : z = (m : Int) := by omega
      have hm : m < ws.length := by omega
      obtain ⟨b, o, ha, _, hbl, d0, d1⟩ := VeRow.cells HR.out m hm
      subst ha
      have hlt' : (m : Int) < ws.length := by omega
      have hge : (0 : Int) ≤ m := by omega
      by_cases he : ws[m].ts = key
      · have HL : Hid (lastW key ws = some ws[m].v) := by rw [Hid, lastW_from hn HN.out, lastW_take2 hm, if_pos he]
        have H1 : Hid (ws[m].v = wroteV ws key) := by rw [Hid, wroteV, HL.out]; rfl
        have H2 : Hid (true = wroteB ws key) := by rw [Hid, wroteB, HL.out]; rfl
        rw [he] at d0
        clear he hz
        go_wp2_with fail
        go_ret2
        exact ⟨ret_ib H1.out H2.out, rfl⟩
      · have he' : (ws[m].ts == key) = false := by simpa using he
        have HN2 : Hid (∀ j (hj : j < ws.length), m ≤ j → ws[j].ts ≠ key) := fun j hj h => by
          by_cases e : j = m
          · subst e; exact he
          · exact HN.out j hj (by omega)
        clear he hz
        go_wp2_with fail
        go_round
        case rel => exact ⟨m, _, by omega, by first | rfl | go_num, by omega, HN2⟩
        case measure => simp [intOf]
end Go.Proofs.Ytlfcjhiojbcijaa.G
