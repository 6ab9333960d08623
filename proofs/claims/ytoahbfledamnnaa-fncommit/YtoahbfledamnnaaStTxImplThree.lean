/- The program's own copies of transactions; what was written last; keys that were read. -/
import Derived.Test.YtoahbfledamnnaaStTxImplTwo
import Derived.Test.YtoahbfledamnnaaStTxOwn
import Derived.Test.YtoahbfledamnnaaGRegionFive
import Derived.Laws.CopyOwn
namespace Go.Proofs.Ytoahbfledamnnaa.G
open Go.ChangeShapes Go.WideShapes Go.ChangeAt Go.RowKit
set_option linter.unusedVariables false

set_option maxHeartbeats 2000000 in
theorem last_written (wa : Option Addr) (wq : Nat) (ws : List Ve) (key : Int) (w : World) (hr : VeRow 0 w.heap.size w wa ws) (hl : ws.length ≤ 1048576) :
    Calls Try.prog 30 #[.slice wa ws.length wq, .int .i64 key] w fun e w' => e = .returned (.tuple #[.int .i64 (wroteV ws key), .bool (wroteB ws key)]) ∧ Below w.heap.size w w' := by
  have HR : Hid (VeRow 0 w.heap.size w wa ws) := hr
  have HB : Hid (Below w.heap.size w w) := Below.refl _ _
  clear hr
  go_enter Try.func30, Try.ntmps30
  go_wp2_with fail
  go_loop [6] (fun i => ∃ (n : Nat) (z : Int), n ≤ ws.length ∧ i = .int .i64 z ∧ z = (n : Int) - 1 ∧ Hid (∀ j (hj : j < ws.length), n ≤ j → ws[j].ts ≠ key)) (fun i => (intOf i + 1).toNat)
  case atStart => exact ⟨ws.length, _, Nat.le_refl _, rfl, rfl, fun j hj h => by omega⟩
  case round =>
    obtain ⟨n, z, hn, rfl, hz, HN⟩ := hrel
    by_cases h0 : n = 0
    · subst h0
      have hz' : ¬ 0 ≤ z := by omega
      have HL : Hid (lastW key ws = none) := by rw [Hid, lastW_from (Nat.zero_le _) HN.out]; rfl
      have H1 : Hid (0 = wroteV ws key) := by rw [Hid, wroteV, HL.out]; rfl
      have H2 : Hid (false = wroteB ws key) := by rw [Hid, wroteB, HL.out]; rfl
      clear hz
      go_wp2_with fail
      go_ret2
      exact ⟨ret_ib H1.out H2.out, HB.out⟩
    · obtain ⟨m, rfl⟩ : ∃ m, n = m + 1 := ⟨n - 1, by omega⟩
      obtain rfl : z = (m : Int) := by omega
      have hm : m < ws.length := by omega
      obtain ⟨b, o, ha, _, hbl, d0, d1⟩ := VeRow.cells HR.out m hm
      subst ha
      have hlt' : (m : Int) < ws.length := by omega
      have hge : (0 : Int) ≤ m := by omega
      by_cases he : ws[m].ts = key
      · have HL : Hid (lastW key ws = some ws[m].v) := by rw [Hid, lastW_from hn HN.out, lastW_take2 hm, if_pos he]
        have H1 : Hid (ws[m].v = wroteV ws key) := by rw [Hid, wroteV, HL.out]; rfl
        have H2 : Hid (true = wroteB ws key) := by rw [Hid, wroteB, HL.out]; rfl
        rw [he] at d0
        clear he hz
        go_wp2_with fail
        go_ret2
        exact ⟨ret_ib H1.out H2.out, HB.out⟩
      · have he' : (ws[m].ts == key) = false := by simpa using he
        have HN2 : Hid (∀ j (hj : j < ws.length), m ≤ j → ws[j].ts ≠ key) := fun j hj h => by
          by_cases e : j = m
          · subst e; exact he
          · exact HN.out j hj (by omega)
        clear he hz
        go_wp2_with fail
        go_round
        case rel => exact ⟨m, _, by omega, by first | rfl | go_num, by omega, HN2⟩
        case measure => simp [intOf]
set_option maxHeartbeats 1000000 in
theorem ints_index (a : Option Addr) (c : Nat) (x : List Int) (n : Int) (w : World) (hr : NuRow 0 w.heap.size w a x) (hl : x.length ≤ 1048576) :
    Calls Try.prog 63 #[.slice a x.length c, .int .i64 n] w fun e w' => (∃ v : Int, e = .returned (.int .i64 v) ∧ decide (0 ≤ v) = decide (n ∈ x)) ∧ w' = w := by
  have HR : Hid _ := hr
  clear hr
  go_enter Try.func63, Try.ntmps63
  go_wp2_with fail
  go_loop [8] (fun i => ∃ (k : Nat), k ≤ x.length ∧ i = .int .i64 k ∧ Hid (∀ i (h : i < x.length), i < k → x[i] ≠ n)) (fun i => x.length - (intOf i).toNat)
  case atStart => exact ⟨0, by omega, rfl, fun i _ h => by omega⟩
  case round =>
    obtain ⟨k, hk, rfl, HK⟩ := hrel
    by_cases hlt : k < x.length
    · obtain ⟨b, o, ha, _, hbl, d0⟩ := NuRow.cells HR.out k hlt
      subst ha
      have hlt' : (k : Int) < x.length := by omega
      by_cases he : x[k] = n
      · have HT : Hid (decide (n ∈ x) = true) := decide_eq_true (by rw [← he]; exact List.getElem_mem hlt)
        rw [he] at d0
        clear he
        go_wp2_with fail
        go_ret
        exact ⟨⟨k, rfl, by simp [of_decide_eq_true HT.out]⟩, rfl⟩
      · have he' : (n == x[k]) = false := by simpa using fun h => he h.symm
        have HK2 : Hid (∀ i (h : i < x.length), i < k + 1 → x[i] ≠ n) := fun i h1 h2 => by
          by_cases e : i = k
          · subst e; exact he
          · exact HK.out i h1 (by omega)
        clear he
        go_wp2_with fail
        go_round
        case rel => exact ⟨k + 1, by omega, by go_num, HK2⟩
        case measure => simp [intOf]; omega
    · have HT : Hid (decide (n ∈ x) = false) := by
        refine decide_eq_false fun h => ?_
        obtain ⟨i, hi, e⟩ := List.getElem_of_mem h
        exact HK.out i hi (by omega) e
      go_wp2_with fail
      go_ret
      exact ⟨⟨-1, rfl, by simp [of_decide_eq_false HT.out]⟩, rfl⟩
set_option maxHeartbeats 1000000 in
theorem ints_contains (a : Option Addr) (c : Nat) (x : List Int) (n : Int) (w : World) (hr : NuRow 0 w.heap.size w a x) (hl : x.length ≤ 1048576) :
    Calls Try.prog 53 #[.slice a x.length c, .int .i64 n] w fun e w' => e = .returned (.bool (decide (n ∈ x))) ∧ w' = w := by
  have HR : Hid _ := hr
  clear hr
  go_enter Try.func53, Try.ntmps53
  go_wp2_with fail
  refine (ints_index a c x n _ HR.out hl).mono ?_
  rintro e w1 ⟨⟨v, rfl, hv⟩, hw⟩
  rw [hw]
  have HV : Hid _ := hv
  clear hv
  go_wp2_with fail
  go_ret
  exact ⟨ret_b HV.out, rfl⟩
set_option maxRecDepth 100000 in
theorem info_PuT : ∃ i, Try.prog.info? 43 = some i ∧ i.zero = some (.agg #[.int .i64 0, .int .i64 0]) ∧ i.size = 2 ∧ i.bytes = 16 := by
  refine ⟨_, rfl, ?_, ?_, ?_⟩ <;> kernel_rfl
theorem run_copy_one0 {P : Program} (w : World) (dT sT ty elem : TypeId) (dCap : Nat) (d a : Option Addr) (sCap : Nat) (hu : P.underlying dT = some (.slice elem)) (hs : (P.info? elem).map (·.size) = some 1) :
    (Builtin.copy_ #[dT, sT] ty #[.slice d 0 dCap, .slice a 0 sCap]).run P w = .ok (goInt 0) w := by
  cases hq : P.info? elem with
  | none => simp [hq] at hs
  | some i =>
    cases a with
    | none => cases d <;> simp [Builtin.copy_, run_underlying hu, Builtin.lenOf, Builtin.firstCells, sizeOf, typeInfo, hq, storeCells]
    | some a =>
      have hl := run_loadCells_list (P := P) w a [] (by simp)
      rw [List.length_nil] at hl
      cases d <;> simp [Builtin.copy_, run_underlying hu, Builtin.lenOf, Builtin.firstCells, sizeOf, typeInfo, hq, hl, storeCells]
theorem infoS_int : (Try.prog.info? 3).map (·.size) = some 1 := by kernel_rfl
theorem infoS_Put : (Try.prog.info? 43).map (·.size) = some 2 := by kernel_rfl
theorem copy_nu (x : List Int) (a : Option Addr) (g c N0 : Nat) (cs : Array Value) (W : World) (hr : NuRow 0 W.heap.size W a x) (hh : W.heap[g]? = some (.cells cs 3 (0, 0))) (hs : cs.size = x.length) :
    ∃ W' cs', (Builtin.copy_ #[27, 27] 3 #[.slice (some ⟨g, 0, none⟩) x.length x.length, .slice a x.length c]).run Try.prog W = .ok (goInt x.length) W' ∧ W'.heap[g]? = some (.cells cs' 3 (0, 0)) ∧ cs'.toList = nuV x ∧ (∀ k, k ≠ g → W'.heap[k]? = W.heap[k]?) ∧ W'.heap.size = W.heap.size ∧ (∀ B w0, Below B w0 W → B ≤ g → Below B w0 W') := by
  by_cases h0 : x = []
  · subst h0
    have : cs.toList = [] := List.eq_nil_of_length_eq_zero (by simpa using hs)
    exact ⟨W, cs, run_copy_one0 W _ _ _ _ _ _ _ _ Try.underlying27 infoS_int, hh, this, fun _ _ => rfl, rfl, fun _ _ h _ => h⟩
  · rcases hr with h | ⟨b, o, rfl, _, hb, hx⟩
    · exact absurd h h0
    have hlen := nuV_len x
    have hrun := run_copy_row (P := Try.prog) W 27 27 3 3 g 0 x.length x.length ⟨b, o, none⟩ x.length c cs _ (nuV x) Try.underlying27 infoS_int hh (by rw [hlen]; exact (Nat.min_self _).symm) (nuV_src hx) (by omega) (nuV_one x)
    have hlist : (List.take 0 cs.toList ++ nuV x ++ List.drop (0 + (nuV x).length) cs.toList) = nuV x := by
      rw [List.drop_eq_nil_of_le (by simp; omega)]; simp
    rw [hlist, hlen] at hrun
    exact ⟨_, _, hrun, setRow_heap W g cs _ _ _ hh, by simp, fun k hk => setRow_other W g k _ hk, by simp, fun B w0 h1 h2 => below_setRow h1 h2 _⟩
theorem copy_pu (x : List Ve) (a : Option Addr) (g c N0 : Nat) (cs : Array Value) (W : World) (hr : VeRow 0 W.heap.size W a x) (hh : W.heap[g]? = some (.cells cs 43 (0, 0))) (hs : cs.size = x.length * 2) :
    ∃ W' cs', (Builtin.copy_ #[28, 28] 3 #[.slice (some ⟨g, 0, none⟩) x.length x.length, .slice a x.length c]).run Try.prog W = .ok (goInt x.length) W' ∧ W'.heap[g]? = some (.cells cs' 43 (0, 0)) ∧ cs'.toList = veCells x ∧ (∀ k, k ≠ g → W'.heap[k]? = W.heap[k]?) ∧ W'.heap.size = W.heap.size ∧ (∀ B w0, Below B w0 W → B ≤ g → Below B w0 W') := by
  by_cases h0 : x = []
  · subst h0
    have : cs.toList = [] := List.eq_nil_of_length_eq_zero (by simpa using hs)
    exact ⟨W, cs, run_copy_two0 W _ _ _ _ 0 0 _ _ _ _ Try.underlying28 infoS_Put, hh, this, fun _ _ => rfl, rfl, fun _ _ h _ => h⟩
  · rcases hr with h | ⟨b, o, rfl, _, hb, hx⟩
    · exact absurd h h0
    have hlen := veCells_len x
    have hrun := run_copy_two (P := Try.prog) W 28 28 3 43 g 0 x.length x.length ⟨b, o, none⟩ x.length c x.length cs _ (veCells x) Try.underlying28 infoS_Put hh (Nat.min_self _) hlen (veCells_src hx) (by omega) (veCells_one x)
    have hlist : (List.take 0 cs.toList ++ veCells x ++ List.drop (0 + (veCells x).length) cs.toList) = veCells x := by
      rw [List.drop_eq_nil_of_le (by simp; omega)]; simp
    rw [hlist] at hrun
    exact ⟨_, _, hrun, setRow_heap W g cs _ _ _ hh, by simp, fun k hk => setRow_other W g k _ hk, by simp, fun B w0 h1 h2 => below_setRow h1 h2 _⟩
theorem alloc3 (V : World) (c1 c2 c3 : Array Value) (t1 t2 t3 : TypeId) : (((V.alloc (.cells c1 t1)).alloc (.cells c2 t2)).alloc (.cells c3 t3)).drew.heap[V.heap.size]? = some (.cells c1 t1 (0, 0)) ∧ (((V.alloc (.cells c1 t1)).alloc (.cells c2 t2)).alloc (.cells c3 t3)).drew.heap[V.heap.size + 1]? = some (.cells c2 t2 (0, 0)) ∧ (((V.alloc (.cells c1 t1)).alloc (.cells c2 t2)).alloc (.cells c3 t3)).drew.heap[V.heap.size + 1 + 1]? = some (.cells c3 t3 (0, 0)) ∧ Below V.heap.size V (((V.alloc (.cells c1 t1)).alloc (.cells c2 t2)).alloc (.cells c3 t3)).drew := by
  refine ⟨?_, ?_, ?_, ?_⟩
  · show (((V.alloc (.cells c1 t1)).alloc (.cells c2 t2)).alloc (.cells c3 t3)).heap[V.heap.size]? = _
    rw [Below.heap_alloc _ _ _ (by simp; omega), Below.heap_alloc _ _ _ (by simp)]; exact heap_alloc_new _ _
  · show (((V.alloc (.cells c1 t1)).alloc (.cells c2 t2)).alloc (.cells c3 t3)).heap[V.heap.size + 1]? = _
    rw [Below.heap_alloc _ _ _ (by simp)]
    have := heap_alloc_new (V.alloc (.cells c1 t1)) (.cells c2 t2)
    simpa using this
  · show (((V.alloc (.cells c1 t1)).alloc (.cells c2 t2)).alloc (.cells c3 t3)).heap[V.heap.size + 1 + 1]? = _
    have := heap_alloc_new ((V.alloc (.cells c1 t1)).alloc (.cells c2 t2)) (.cells c3 t3)
    simpa using this
  · refine Below.drew ?_
    repeat (first | exact Below.refl _ _ | refine Below.alloc ?_ (by first | omega | (simp <;> omega)) _)
/-- A new transaction whose rows are made, not yet filled. -/
def CpT (V : World) (st : Int) (rn wn : Nat) (cs1 cs2 : Array Value) (u : Value) (W : World) : Prop :=
  ∃ g1 g2 g3, u = .pointer (some ⟨g3, 0, none⟩) ∧ V.heap.size ≤ g1 ∧ V.heap.size ≤ g2 ∧ V.heap.size ≤ g3 ∧ W.heap[g1]? = some (.cells cs1 3 (0, 0)) ∧ W.heap[g2]? = some (.cells cs2 43 (0, 0)) ∧
    W.heap[g3]? = some (.cells #[.int .i64 st, .slice (some ⟨g1, 0, none⟩) rn rn, .slice (some ⟨g2, 0, none⟩) wn wn] 30 (0, 0)) ∧ Below V.heap.size V W
set_option maxHeartbeats 4000000 in
theorem copy_txn (ra wa : Option Addr) (rq wq : Nat) (st : Int) (rs : List Int) (ws : List Ve) (w : World) (ht : TxRow 0 w.heap.size w ra wa rs ws) (htb : TxBd 1048576 rs ws) :
    Calls Try.prog 29 #[.agg #[.int .i64 st, .slice ra rs.length rq, .slice wa ws.length wq]] w fun e w' => ∃ g1 g2, e = .returned (.agg #[.int .i64 st, .slice (some ⟨g1, 0, none⟩) rs.length rs.length, .slice (some ⟨g2, 0, none⟩) ws.length ws.length]) ∧ TxO w.heap.size w' (.slice (some ⟨g1, 0, none⟩) rs.length rs.length) (.slice (some ⟨g2, 0, none⟩) ws.length ws.length) rs ws ∧ Below w.heap.size w w' := by
  obtain ⟨V, hV⟩ : ∃ V, V = (w.alloc (.cells #[.int .i64 st, .slice ra rs.length rq, .slice wa ws.length wq] 30)).alloc (.cells #[.int .i64 0, .slice none 0 0, .slice none 0 0] 30) := ⟨_, rfl⟩
  have bV : Below w.heap.size w V := by
    rw [hV]
    repeat (first | exact Below.refl _ _ | refine Below.alloc ?_ (by first | omega | (simp <;> omega)) _)
  have zV : w.heap.size + 2 ≤ V.heap.size := by rw [hV]; simp
  have c0 : V.heap[w.heap.size]? = some (.cells #[.int .i64 st, .slice ra rs.length rq, .slice wa ws.length wq] 30 (0, 0)) := by
    rw [hV, Below.heap_alloc _ _ _ (by simp)]; exact heap_alloc_new _ _
  have c1 : V.heap[w.heap.size + 1]? = some (.cells #[.int .i64 0, .slice none 0 0, .slice none 0 0] 30 (0, 0)) := by
    rw [hV]
    have := heap_alloc_new (w.alloc (.cells #[.int .i64 st, .slice ra rs.length rq, .slice wa ws.length wq] 30)) (.cells #[.int .i64 0, .slice none 0 0, .slice none 0 0] 30)
    simpa using this
  have x0 := fun o => row_cell c0 o
  obtain ⟨i1, hi1, hz1, hsz1, hby1⟩ := info_int
  obtain ⟨i2, hi2, hz2, hsz2, hby2⟩ := info_PuT
  have hl1 := htb.1
  have hl2 := htb.2
  have hmk1 := fun W => run_make (P := Try.prog) W 27 3 i1 _ Try.underlying27 hi1 hz1 .i64 .i64 (rs.length : Int) (rs.length : Int) (by omega) (by omega) (by rw [hby1]; omega) (by omega)
  have hmk2 := fun W => run_make (P := Try.prog) W 28 43 i2 _ Try.underlying28 hi2 hz2 .i64 .i64 (ws.length : Int) (ws.length : Int) (by omega) (by omega) (by rw [hby2]; omega) (by omega)
  rw [hsz1, Int.toNat_natCast, Nat.mul_one] at hmk1
  rw [hsz2, Int.toNat_natCast] at hmk2
  have hs1 := size_madeCells (Value.int .i64 0).cells rs.length
  have hs2 := size_madeCells (Value.agg #[.int .i64 0, .int .i64 0]).cells (ws.length * 2)
  generalize madeCells (Value.int .i64 0).cells rs.length = cs1 at *
  generalize madeCells (Value.agg #[.int .i64 0, .int .i64 0]).cells (ws.length * 2) = cs2 at *
  clear hi1 hz1 hsz1 hby1 hi2 hz2 hsz2 hby2
  go_enter Try.func29, Try.ntmps29
  go_upto_region 1 with fail
  rw [← hV]
  clear hV
  have p1 := fun ob o => (World.cell?_alloc_past (w := V) ob w.heap.size o (by omega)).trans (x0 o)
  have p2 := fun ob ob2 o => (World.cell?_alloc_past (w := V.alloc ob) ob2 w.heap.size o (by simp; omega)).trans (p1 ob o)
  have p3 := fun ob ob2 ob3 o => (World.cell?_alloc_past (w := (V.alloc ob).alloc ob2) ob3 w.heap.size o (by simp; omega)).trans (p2 ob ob2 o)
  have HT : Hid (∀ W, Below V.heap.size V W → W.heap[w.heap.size]? = some (.cells #[.int .i64 st, .slice ra rs.length rq, .slice wa ws.length wq] 30 (0, 0)) ∧ W.heap[w.heap.size + 1]? = some (.cells #[.int .i64 0, .slice none 0 0, .slice none 0 0] 30 (0, 0)) ∧ TxRow 0 W.heap.size W ra wa rs ws ∧ Below w.heap.size w W) := fun W h =>
    have hw := bV.trans (h.mono (by omega))
    ⟨(h.block _ (by omega)).trans c0, (h.block _ (by omega)).trans c1, TxRow.up ht hw, hw⟩
  have HS1 : Hid _ := hs1
  have HS2 : Hid _ := hs2
  clear ht htb bV c0 c1 hs1 hs2
  go_cut [3] from 4 to 14 (fun u wx => CpT V st rs.length ws.length cs1 cs2 u wx)
  case first =>
    go_region
    all_goals (try go_wp2_with fail)
    all_goals go_meet
    all_goals (obtain ⟨h1, h2, h3, hb⟩ := alloc3 V _ _ _ _ _ _; first
      | exact ⟨_, _, _, rfl, by omega, by omega, by omega, h1, h2, h3, hb⟩
      | exact ⟨_, _, _, rfl, by omega, by omega, by omega, h1, h3, h2, hb⟩
      | exact ⟨_, _, _, rfl, by omega, by omega, by omega, h2, h1, h3, hb⟩
      | exact ⟨_, _, _, rfl, by omega, by omega, by omega, h2, h3, h1, hb⟩
      | exact ⟨_, _, _, rfl, by omega, by omega, by omega, h3, h1, h2, hb⟩
      | exact ⟨_, _, _, rfl, by omega, by omega, by omega, h3, h2, h1, hb⟩)
  clear p1 p2 p3 x0 hmk1 hmk2
  obtain ⟨wx, rfl⟩ : ∃ x, x = wc := ⟨_, rfl⟩
  obtain ⟨g1, g2, g3, rfl, k1, k2, k3, G1, G2, G3, BX⟩ := hcut
  have n12 : g1 ≠ g2 := by rintro rfl; rw [G1] at G2; simp at G2
  have n13 : g1 ≠ g3 := by rintro rfl; rw [G1] at G3; simp at G3
  have n23 : g2 ≠ g3 := by rintro rfl; rw [G2] at G3; simp at G3
  obtain ⟨t0, t1, t2, t3⟩ := HT.out _ BX
  obtain ⟨W1, d1, hr1, H1, e1, o1, s1, b1⟩ := copy_nu rs ra g1 rq 0 cs1 wx t2.1 G1 HS1.out
  have BX1 := b1 _ _ BX (by omega)
  obtain ⟨u0, u1, u2, u3⟩ := HT.out _ BX1
  have G2' := (o1 g2 (Ne.symm n12)).trans G2
  have G3' := (o1 g3 (Ne.symm n13)).trans G3
  obtain ⟨W2, d2, hr2, H2, e2, o2, s2, b2⟩ := copy_pu ws wa g2 wq 0 cs2 W1 u2.2 G2' HS2.out
  have BX2 := b2 _ _ BX1 (by omega)
  obtain ⟨v0, v1, v2, v3⟩ := HT.out _ BX2
  have G3'' := (o2 g3 (Ne.symm n23)).trans G3'
  have G1'' := (o2 g1 n12).trans H1
  have zx := (Array.getElem?_eq_some_iff.1 G1'').1
  have zy := (Array.getElem?_eq_some_iff.1 H2).1
  have FIN : Hid (TxO (w.heap.size + 2) W2 (.slice (some ⟨g1, 0, none⟩) rs.length rs.length) (.slice (some ⟨g2, 0, none⟩) ws.length ws.length) rs ws) := by
    refine ⟨⟨by rw [nuV_len, Nat.mul_one], .inr ⟨g1, rs.length, d1, rfl, by omega, G1'', Nat.le_refl _, by unfold maxLen; omega, ?_, ?_⟩⟩, ⟨veCells_len ws, .inr ⟨g2, ws.length, d2, rfl, by omega, H2, Nat.le_refl _, by unfold maxLen; omega, ?_, ?_⟩⟩⟩
    · rw [← Array.length_toList, e1, nuV_len, Nat.mul_one]
    · rw [e1, List.take_of_length_le (by rw [nuV_len]; omega)]
    · rw [← Array.length_toList, e2, veCells_len]
    · rw [e2, List.take_of_length_le (by rw [veCells_len]; omega)]
  have BW : Hid (Below w.heap.size w W2) := v3
  have HW : Hid (w.heap.size + 1 < V.heap.size) := by unfold Hid; omega
  have y0 := fun o => row_cell t0 o
  have y3 := fun o => row_cell G3 o
  have z0 := fun o => row_cell u0 o
  have z3 := fun o => row_cell G3' o
  have q3 := fun o => row_cell G3'' o
  have q1 := fun o => row_cell v1 o
  have f1 := fun o => row_frozen v1 o
  clear t0 t1 t2 t3 u0 u1 u2 u3 v0 v1 v2 v3 G1 G2 G3 G2' G3' G3'' G1'' H1 H2 o1 o2 b1 b2 BX BX1 BX2 e1 e2 HT HS1 HS2
  go_wp2_with fail
  refine bodyPost_ret (v := .agg #[.int .i64 st, .slice (some ⟨g1, 0, none⟩) rs.length rs.length, .slice (some ⟨g2, 0, none⟩) ws.length ws.length]) (by simp [results, Try.results29, go_sem, q1]) rfl ⟨g1, g2, rfl, ?_, ?_⟩
  · refine TxO.low (TxO.move FIN.out (fun k h1 h2 => ?_)) (show w.heap.size ≤ w.heap.size + 2 by omega)
    repeat rw [heap_set _ _ _ _ _ (by omega)]
  · repeat (refine Below.setCell ?_ (by first | omega | (simp <;> omega)) _)
    exact BW.out
end Go.Proofs.Ytoahbfledamnnaa.G
