/- The program's WriteTxn. -/
import Derived.Test.YtbpkjpoicelgcaaStTxImplTwo
import Derived.Test.YtbpkjpoicelgcaaStTxOwn
import Derived.Test.YtbpkjpoicelgcaaStCopy
import Derived.Laws.CopyOwn
import Derived.Test.YtbpkjpoicelgcaaStWrSpecTwo
import Derived.Deep.CutBlock
import Derived.Deep.CutRange
namespace Go.Proofs.Ytbpkjpoicelgcaa.G
open Go.ChangeShapes Go.WideShapes Go.ChangeAt Go.RowKit
set_option linter.unusedVariables false

set_option maxHeartbeats 2000000 in
theorem last_written (ra wa : Option Addr) (rq wq rn : Nat) (st : Int) (ws : List Ve) (key : Int) (w : World) (hr : VeRow 0 w.heap.size w wa ws) (hl : ws.length ≤ 1048576) :
    Calls Try.prog 30 #[.agg #[.int .i64 st, .slice ra rn rq, .slice wa ws.length wq], .int .i64 key] w fun e w' => e = .returned (.tuple #[.int .i64 (wroteV ws key), .bool (wroteB ws key)]) ∧ Below w.heap.size w w' := by
  obtain ⟨V, hV⟩ : ∃ V, V = w.alloc (.cells #[.int .i64 st, .slice ra rn rq, .slice wa ws.length wq] 30) := ⟨_, rfl⟩
  have B0 : Below w.heap.size w V := by rw [hV]; exact (Below.refl _ _).alloc (Nat.le_refl _) _
  have c0 : V.heap[w.heap.size]? = some (.cells #[.int .i64 st, .slice ra rn rq, .slice wa ws.length wq] 30 (0, 0)) := by rw [hV]; exact heap_alloc_new _ _
  have x0 := fun o => row_cell c0 o
  have HR : Hid (VeRow 0 V.heap.size V wa ws) := VeRow.up hr B0
  have HB : Hid _ := B0
  clear hr B0 c0
  go_enter Try.func30, Try.ntmps30
  go_upto_region 1 with fail
  rw [← hV]
  clear hV
  go_wp2_with fail
  go_loop [6] (fun i => ∃ (n : Nat) (z : Int), n ≤ ws.length ∧ i = .int .i64 z ∧ z = (n : Int) - 1 ∧ Hid (∀ j (hj : j < ws.length), n ≤ j → ws[j].ts ≠ key)) (fun i => (intOf i + 1).toNat)
  case atStart => exact ⟨ws.length, _, Nat.le_refl _, rfl, rfl, fun j hj h => by omega⟩
  case round =>
    obtain ⟨n, z, hn, rfl, hz, HN⟩ := hrel
    by_cases h0 : n = 0
    · subst h0
      have hz' : ¬ 0 ≤ z := by omega
      have HL : Hid (lastW key ws = none) := by rw [Hid, lastW_from (Nat.zero_le _) HN.out]; rfl
      have H1 : Hid (0 = wroteV ws key) := by rw [Hid, wroteV, HL.out]; rfl
      have H2 : Hid (false = wroteB ws key) := by rw [Hid, wroteB, HL.out]; rfl
      clear hz
      go_wp2_with fail
      go_ret2
      exact ⟨ret_ib H1.out H2.out, HB.out⟩
    · obtain ⟨m, rfl⟩ : ∃ m, n = m + 1 := ⟨n - 1, by omega⟩
      obtain rfl : z = (m : Int) := by omega
      have hm : m < ws.length := by omega
      obtain ⟨b, o, ha, _, hbl, d0, d1⟩ := VeRow.cells HR.out m hm
      subst ha
      have hlt' : (m : Int) < ws.length := by omega
      have hge : (0 : Int) ≤ m := by omega
      by_cases he : ws[m].ts = key
      · have HL : Hid (lastW key ws = some ws[m].v) := by rw [Hid, lastW_from hn HN.out, lastW_take2 hm, if_pos he]
        have H1 : Hid (ws[m].v = wroteV ws key) := by rw [Hid, wroteV, HL.out]; rfl
        have H2 : Hid (true = wroteB ws key) := by rw [Hid, wroteB, HL.out]; rfl
        rw [he] at d0
        clear he hz
        go_wp2_with fail
        go_ret2
        exact ⟨ret_ib H1.out H2.out, HB.out⟩
      · have he' : (ws[m].ts == key) = false := by simpa using he
        have HN2 : Hid (∀ j (hj : j < ws.length), m ≤ j → ws[j].ts ≠ key) := fun j hj h => by
          by_cases e : j = m
          · subst e; exact he
          · exact HN.out j hj (by omega)
        clear he hz
        go_wp2_with fail
        go_round
        case rel => exact ⟨m, _, by omega, by first | rfl | go_num, by omega, HN2⟩
        case measure => simp [intOf]
set_option maxHeartbeats 1000000 in
theorem ints_index (a : Option Addr) (c : Nat) (x : List Int) (n : Int) (w : World) (hr : NuRow 0 w.heap.size w a x) (hl : x.length ≤ 1048576) :
    Calls Try.prog 53 #[.slice a x.length c, .int .i64 n] w fun e w' => (∃ v : Int, e = .returned (.int .i64 v) ∧ decide (0 ≤ v) = decide (n ∈ x)) ∧ w' = w := by
  have HR : Hid _ := hr
  clear hr
  go_enter Try.func53, Try.ntmps53
  go_wp2_with fail
  go_loop [8] (fun i => ∃ (k : Nat), k ≤ x.length ∧ i = .int .i64 k ∧ Hid (∀ i (h : i < x.length), i < k → x[i] ≠ n)) (fun i => x.length - (intOf i).toNat)
  case atStart => exact ⟨0, by omega, rfl, fun i _ h => by omega⟩
  case round =>
    obtain ⟨k, hk, rfl, HK⟩ := hrel
    by_cases hlt : k < x.length
    · obtain ⟨b, o, ha, _, hbl, d0⟩ := NuRow.cells HR.out k hlt
      subst ha
      have hlt' : (k : Int) < x.length := by omega
      by_cases he : x[k] = n
      · have HT : Hid (decide (n ∈ x) = true) := decide_eq_true (by rw [← he]; exact List.getElem_mem hlt)
        rw [he] at d0
        clear he
        go_wp2_with fail
        go_ret
        exact ⟨⟨k, rfl, by simp [of_decide_eq_true HT.out]⟩, rfl⟩
      · have he' : (n == x[k]) = false := by simpa using fun h => he h.symm
        have HK2 : Hid (∀ i (h : i < x.length), i < k + 1 → x[i] ≠ n) := fun i h1 h2 => by
          by_cases e : i = k
          · subst e; exact he
          · exact HK.out i h1 (by omega)
        clear he
        go_wp2_with fail
        go_round
        case rel => exact ⟨k + 1, by omega, by go_num, HK2⟩
        case measure => simp [intOf]; omega
    · have HT : Hid (decide (n ∈ x) = false) := by
        refine decide_eq_false fun h => ?_
        obtain ⟨i, hi, e⟩ := List.getElem_of_mem h
        exact HK.out i hi (by omega) e
      go_wp2_with fail
      go_ret
      exact ⟨⟨-1, rfl, by simp [of_decide_eq_false HT.out]⟩, rfl⟩
set_option maxHeartbeats 1000000 in
theorem ints_contains (a : Option Addr) (c : Nat) (x : List Int) (n : Int) (w : World) (hr : NuRow 0 w.heap.size w a x) (hl : x.length ≤ 1048576) :
    Calls Try.prog 31 #[.slice a x.length c, .int .i64 n] w fun e w' => e = .returned (.bool (decide (n ∈ x))) ∧ w' = w := by
  have HR : Hid _ := hr
  clear hr
  go_enter Try.func31, Try.ntmps31
  go_wp2_with fail
  refine (ints_index a c x n _ HR.out hl).mono ?_
  rintro e w1 ⟨⟨v, rfl, hv⟩, hw⟩
  rw [hw]
  have HV : Hid _ := hv
  clear hv
  go_wp2_with fail
  go_ret
  exact ⟨ret_b HV.out, rfl⟩
set_option maxRecDepth 100000 in
theorem info_PuT : ∃ i, Try.prog.info? 43 = some i ∧ i.zero = some (.agg #[.int .i64 0, .int .i64 0]) ∧ i.size = 2 ∧ i.bytes = 16 := by
  refine ⟨_, rfl, ?_, ?_, ?_⟩ <;> kernel_rfl
theorem run_copy_one0 {P : Program} (w : World) (dT sT ty elem : TypeId) (dCap : Nat) (d a : Option Addr) (sCap : Nat) (hu : P.underlying dT = some (.slice elem)) (hs : (P.info? elem).map (·.size) = some 1) :
    (Builtin.copy_ #[dT, sT] ty #[.slice d 0 dCap, .slice a 0 sCap]).run P w = .ok (goInt 0) w := by
  cases hq : P.info? elem with
  | none => simp [hq] at hs
  | some i =>
    cases a with
    | none => cases d <;> simp [Builtin.copy_, run_underlying hu, Builtin.lenOf, Builtin.firstCells, sizeOf, typeInfo, hq, storeCells]
    | some a =>
      have hl := run_loadCells_list (P := P) w a [] (by simp)
      rw [List.length_nil] at hl
      cases d <;> simp [Builtin.copy_, run_underlying hu, Builtin.lenOf, Builtin.firstCells, sizeOf, typeInfo, hq, hl, storeCells]
theorem infoS_int : (Try.prog.info? 3).map (·.size) = some 1 := by kernel_rfl
theorem infoS_Put : (Try.prog.info? 43).map (·.size) = some 2 := by kernel_rfl
theorem copy_nu (x : List Int) (a : Option Addr) (g c N0 : Nat) (cs : Array Value) (W : World) (hr : NuRow 0 W.heap.size W a x) (hh : W.heap[g]? = some (.cells cs 3 (0, 0))) (hs : cs.size = x.length) :
    ∃ W' cs', (Builtin.copy_ #[27, 27] 3 #[.slice (some ⟨g, 0, none⟩) x.length x.length, .slice a x.length c]).run Try.prog W = .ok (goInt x.length) W' ∧ W'.heap[g]? = some (.cells cs' 3 (0, 0)) ∧ cs'.toList = nuV x ∧ (∀ k, k ≠ g → W'.heap[k]? = W.heap[k]?) ∧ W'.heap.size = W.heap.size ∧ (∀ B w0, Below B w0 W → B ≤ g → Below B w0 W') := by
  by_cases h0 : x = []
  · subst h0
    have : cs.toList = [] := List.eq_nil_of_length_eq_zero (by simpa using hs)
    exact ⟨W, cs, run_copy_one0 W _ _ _ _ _ _ _ _ Try.underlying27 infoS_int, hh, this, fun _ _ => rfl, rfl, fun _ _ h _ => h⟩
  · rcases hr with h | ⟨b, o, rfl, _, hb, hx⟩
    · exact absurd h h0
    have hlen := nuV_len x
    have hrun := run_copy_row (P := Try.prog) W 27 27 3 3 g 0 x.length x.length ⟨b, o, none⟩ x.length c cs _ (nuV x) Try.underlying27 infoS_int hh (by rw [hlen]; exact (Nat.min_self _).symm) (nuV_src hx) (by omega) (nuV_one x)
    have hlist : (List.take 0 cs.toList ++ nuV x ++ List.drop (0 + (nuV x).length) cs.toList) = nuV x := by
      rw [List.drop_eq_nil_of_le (by simp; omega)]; simp
    rw [hlist, hlen] at hrun
    exact ⟨_, _, hrun, setRow_heap W g cs _ _ _ hh, by simp, fun k hk => setRow_other W g k _ hk, by simp, fun B w0 h1 h2 => below_setRow h1 h2 _⟩
theorem copy_pu (x : List Ve) (a : Option Addr) (g c N0 : Nat) (cs : Array Value) (W : World) (hr : VeRow 0 W.heap.size W a x) (hh : W.heap[g]? = some (.cells cs 43 (0, 0))) (hs : cs.size = x.length * 2) :
    ∃ W' cs', (Builtin.copy_ #[28, 28] 3 #[.slice (some ⟨g, 0, none⟩) x.length x.length, .slice a x.length c]).run Try.prog W = .ok (goInt x.length) W' ∧ W'.heap[g]? = some (.cells cs' 43 (0, 0)) ∧ cs'.toList = veCells x ∧ (∀ k, k ≠ g → W'.heap[k]? = W.heap[k]?) ∧ W'.heap.size = W.heap.size ∧ (∀ B w0, Below B w0 W → B ≤ g → Below B w0 W') := by
  by_cases h0 : x = []
  · subst h0
    have : cs.toList = [] := List.eq_nil_of_length_eq_zero (by simpa using hs)
    exact ⟨W, cs, run_copy_two0 W _ _ _ _ 0 0 _ _ _ _ Try.underlying28 infoS_Put, hh, this, fun _ _ => rfl, rfl, fun _ _ h _ => h⟩
  · rcases hr with h | ⟨b, o, rfl, _, hb, hx⟩
    · exact absurd h h0
    have hlen := veCells_len x
    have hrun := run_copy_two (P := Try.prog) W 28 28 3 43 g 0 x.length x.length ⟨b, o, none⟩ x.length c x.length cs _ (veCells x) Try.underlying28 infoS_Put hh (Nat.min_self _) hlen (veCells_src hx) (by omega) (veCells_one x)
    have hlist : (List.take 0 cs.toList ++ veCells x ++ List.drop (0 + (veCells x).length) cs.toList) = veCells x := by
      rw [List.drop_eq_nil_of_le (by simp; omega)]; simp
    rw [hlist] at hrun
    exact ⟨_, _, hrun, setRow_heap W g cs _ _ _ hh, by simp, fun k hk => setRow_other W g k _ hk, by simp, fun B w0 h1 h2 => below_setRow h1 h2 _⟩
theorem alloc3 (V : World) (c1 c2 c3 : Array Value) (t1 t2 t3 : TypeId) : (((V.alloc (.cells c1 t1)).alloc (.cells c2 t2)).alloc (.cells c3 t3)).drew.heap[V.heap.size]? = some (.cells c1 t1 (0, 0)) ∧ (((V.alloc (.cells c1 t1)).alloc (.cells c2 t2)).alloc (.cells c3 t3)).drew.heap[V.heap.size + 1]? = some (.cells c2 t2 (0, 0)) ∧ (((V.alloc (.cells c1 t1)).alloc (.cells c2 t2)).alloc (.cells c3 t3)).drew.heap[V.heap.size + 1 + 1]? = some (.cells c3 t3 (0, 0)) ∧ Below V.heap.size V (((V.alloc (.cells c1 t1)).alloc (.cells c2 t2)).alloc (.cells c3 t3)).drew := by
  refine ⟨?_, ?_, ?_, ?_⟩
  · show (((V.alloc (.cells c1 t1)).alloc (.cells c2 t2)).alloc (.cells c3 t3)).heap[V.heap.size]? = _
    rw [Below.heap_alloc _ _ _ (by simp; omega), Below.heap_alloc _ _ _ (by simp)]; exact heap_alloc_new _ _
  · show (((V.alloc (.cells c1 t1)).alloc (.cells c2 t2)).alloc (.cells c3 t3)).heap[V.heap.size + 1]? = _
    rw [Below.heap_alloc _ _ _ (by simp)]
    have := heap_alloc_new (V.alloc (.cells c1 t1)) (.cells c2 t2)
    simpa using this
  · show (((V.alloc (.cells c1 t1)).alloc (.cells c2 t2)).alloc (.cells c3 t3)).heap[V.heap.size + 1 + 1]? = _
    have := heap_alloc_new ((V.alloc (.cells c1 t1)).alloc (.cells c2 t2)) (.cells c3 t3)
    simpa using this
  · refine Below.drew ?_
    repeat (first | exact Below.refl _ _ | refine Below.alloc ?_ (by first | omega | (simp <;> omega)) _)
/-- A new transaction whose rows are made, not yet filled. -/
def CpT (V : World) (st : Int) (rn wn : Nat) (cs1 cs2 : Array Value) (u : Value) (W : World) : Prop :=
  ∃ g1 g2 g3, u = .pointer (some ⟨g3, 0, none⟩) ∧ V.heap.size ≤ g1 ∧ V.heap.size ≤ g2 ∧ V.heap.size ≤ g3 ∧ W.heap[g1]? = some (.cells cs1 3 (0, 0)) ∧ W.heap[g2]? = some (.cells cs2 43 (0, 0)) ∧
    W.heap[g3]? = some (.cells #[.int .i64 st, .slice (some ⟨g1, 0, none⟩) rn rn, .slice (some ⟨g2, 0, none⟩) wn wn] 30 (0, 0)) ∧ Below V.heap.size V W
set_option maxHeartbeats 4000000 in
theorem copy_txn (ra wa : Option Addr) (rq wq : Nat) (st : Int) (rs : List Int) (ws : List Ve) (w : World) (ht : TxRow 0 w.heap.size w ra wa rs ws) (htb : TxBd 1048576 rs ws) :
    Calls Try.prog 29 #[.agg #[.int .i64 st, .slice ra rs.length rq, .slice wa ws.length wq]] w fun e w' => ∃ g1 g2, e = .returned (.agg #[.int .i64 st, .slice (some ⟨g1, 0, none⟩) rs.length rs.length, .slice (some ⟨g2, 0, none⟩) ws.length ws.length]) ∧ TxO w.heap.size w' (.slice (some ⟨g1, 0, none⟩) rs.length rs.length) (.slice (some ⟨g2, 0, none⟩) ws.length ws.length) rs ws ∧ Below w.heap.size w w' := by
  obtain ⟨V, hV⟩ : ∃ V, V = (w.alloc (.cells #[.int .i64 st, .slice ra rs.length rq, .slice wa ws.length wq] 30)).alloc (.cells #[.int .i64 0, .slice none 0 0, .slice none 0 0] 30) := ⟨_, rfl⟩
  have bV : Below w.heap.size w V := by
    rw [hV]
    repeat (first | exact Below.refl _ _ | refine Below.alloc ?_ (by first | omega | (simp <;> omega)) _)
  have zV : w.heap.size + 2 ≤ V.heap.size := by rw [hV]; simp
  have c0 : V.heap[w.heap.size]? = some (.cells #[.int .i64 st, .slice ra rs.length rq, .slice wa ws.length wq] 30 (0, 0)) := by
    rw [hV, Below.heap_alloc _ _ _ (by simp)]; exact heap_alloc_new _ _
  have c1 : V.heap[w.heap.size + 1]? = some (.cells #[.int .i64 0, .slice none 0 0, .slice none 0 0] 30 (0, 0)) := by
    rw [hV]
    have := heap_alloc_new (w.alloc (.cells #[.int .i64 st, .slice ra rs.length rq, .slice wa ws.length wq] 30)) (.cells #[.int .i64 0, .slice none 0 0, .slice none 0 0] 30)
    simpa using this
  have x0 := fun o => row_cell c0 o
  obtain ⟨i1, hi1, hz1, hsz1, hby1⟩ := info_int
  obtain ⟨i2, hi2, hz2, hsz2, hby2⟩ := info_PuT
  have hl1 := htb.1
  have hl2 := htb.2
  have hmk1 := fun W => run_make (P := Try.prog) W 27 3 i1 _ Try.underlying27 hi1 hz1 .i64 .i64 (rs.length : Int) (rs.length : Int) (by omega) (by omega) (by rw [hby1]; omega) (by omega)
  have hmk2 := fun W => run_make (P := Try.prog) W 28 43 i2 _ Try.underlying28 hi2 hz2 .i64 .i64 (ws.length : Int) (ws.length : Int) (by omega) (by omega) (by rw [hby2]; omega) (by omega)
  rw [hsz1, Int.toNat_natCast, Nat.mul_one] at hmk1
  rw [hsz2, Int.toNat_natCast] at hmk2
  have hs1 := size_madeCells (Value.int .i64 0).cells rs.length
  have hs2 := size_madeCells (Value.agg #[.int .i64 0, .int .i64 0]).cells (ws.length * 2)
  generalize madeCells (Value.int .i64 0).cells rs.length = cs1 at *
  generalize madeCells (Value.agg #[.int .i64 0, .int .i64 0]).cells (ws.length * 2) = cs2 at *
  clear hi1 hz1 hsz1 hby1 hi2 hz2 hsz2 hby2
  go_enter Try.func29, Try.ntmps29
  go_upto_region 1 with fail
  rw [← hV]
  clear hV
  have p1 := fun ob o => (World.cell?_alloc_past (w := V) ob w.heap.size o (by omega)).trans (x0 o)
  have p2 := fun ob ob2 o => (World.cell?_alloc_past (w := V.alloc ob) ob2 w.heap.size o (by simp; omega)).trans (p1 ob o)
  have p3 := fun ob ob2 ob3 o => (World.cell?_alloc_past (w := (V.alloc ob).alloc ob2) ob3 w.heap.size o (by simp; omega)).trans (p2 ob ob2 o)
  have HT : Hid (∀ W, Below V.heap.size V W → W.heap[w.heap.size]? = some (.cells #[.int .i64 st, .slice ra rs.length rq, .slice wa ws.length wq] 30 (0, 0)) ∧ W.heap[w.heap.size + 1]? = some (.cells #[.int .i64 0, .slice none 0 0, .slice none 0 0] 30 (0, 0)) ∧ TxRow 0 W.heap.size W ra wa rs ws ∧ Below w.heap.size w W) := fun W h =>
    have hw := bV.trans (h.mono (by omega))
    ⟨(h.block _ (by omega)).trans c0, (h.block _ (by omega)).trans c1, TxRow.up ht hw, hw⟩
  have HS1 : Hid _ := hs1
  have HS2 : Hid _ := hs2
  clear ht htb bV c0 c1 hs1 hs2
  go_cut [3] from 4 to 14 (fun u wx => CpT V st rs.length ws.length cs1 cs2 u wx)
  case first =>
    go_region
    all_goals (try go_wp2_with fail)
    all_goals go_meet
    all_goals (obtain ⟨h1, h2, h3, hb⟩ := alloc3 V _ _ _ _ _ _; first
      | exact ⟨_, _, _, rfl, by omega, by omega, by omega, h1, h2, h3, hb⟩
      | exact ⟨_, _, _, rfl, by omega, by omega, by omega, h1, h3, h2, hb⟩
      | exact ⟨_, _, _, rfl, by omega, by omega, by omega, h2, h1, h3, hb⟩
      | exact ⟨_, _, _, rfl, by omega, by omega, by omega, h2, h3, h1, hb⟩
      | exact ⟨_, _, _, rfl, by omega, by omega, by omega, h3, h1, h2, hb⟩
      | exact ⟨_, _, _, rfl, by omega, by omega, by omega, h3, h2, h1, hb⟩)
  clear p1 p2 p3 x0 hmk1 hmk2
  obtain ⟨wx, rfl⟩ : ∃ x, x = wc := ⟨_, rfl⟩
  obtain ⟨g1, g2, g3, rfl, k1, k2, k3, G1, G2, G3, BX⟩ := hcut
  have n12 : g1 ≠ g2 := by rintro rfl; rw [G1] at G2; simp at G2
  have n13 : g1 ≠ g3 := by rintro rfl; rw [G1] at G3; simp at G3
  have n23 : g2 ≠ g3 := by rintro rfl; rw [G2] at G3; simp at G3
  obtain ⟨t0, t1, t2, t3⟩ := HT.out _ BX
  obtain ⟨W1, d1, hr1, H1, e1, o1, s1, b1⟩ := copy_nu rs ra g1 rq 0 cs1 wx t2.1 G1 HS1.out
  have BX1 := b1 _ _ BX (by omega)
  obtain ⟨u0, u1, u2, u3⟩ := HT.out _ BX1
  have G2' := (o1 g2 (Ne.symm n12)).trans G2
  have G3' := (o1 g3 (Ne.symm n13)).trans G3
  obtain ⟨W2, d2, hr2, H2, e2, o2, s2, b2⟩ := copy_pu ws wa g2 wq 0 cs2 W1 u2.2 G2' HS2.out
  have BX2 := b2 _ _ BX1 (by omega)
  obtain ⟨v0, v1, v2, v3⟩ := HT.out _ BX2
  have G3'' := (o2 g3 (Ne.symm n23)).trans G3'
  have G1'' := (o2 g1 n12).trans H1
  have zx := (Array.getElem?_eq_some_iff.1 G1'').1
  have zy := (Array.getElem?_eq_some_iff.1 H2).1
  have FIN : Hid (TxO (w.heap.size + 2) W2 (.slice (some ⟨g1, 0, none⟩) rs.length rs.length) (.slice (some ⟨g2, 0, none⟩) ws.length ws.length) rs ws) := by
    refine ⟨⟨by rw [nuV_len, Nat.mul_one], .inr ⟨g1, rs.length, d1, rfl, by omega, G1'', Nat.le_refl _, by unfold maxLen; omega, ?_, ?_⟩⟩, ⟨veCells_len ws, .inr ⟨g2, ws.length, d2, rfl, by omega, H2, Nat.le_refl _, by unfold maxLen; omega, ?_, ?_⟩⟩⟩
    · rw [← Array.length_toList, e1, nuV_len, Nat.mul_one]
    · rw [e1, List.take_of_length_le (by rw [nuV_len]; omega)]
    · rw [← Array.length_toList, e2, veCells_len]
    · rw [e2, List.take_of_length_le (by rw [veCells_len]; omega)]
  have BW : Hid (Below w.heap.size w W2) := v3
  have HW : Hid (w.heap.size + 1 < V.heap.size) := by unfold Hid; omega
  have y0 := fun o => row_cell t0 o
  have y3 := fun o => row_cell G3 o
  have z0 := fun o => row_cell u0 o
  have z3 := fun o => row_cell G3' o
  have q3 := fun o => row_cell G3'' o
  have q1 := fun o => row_cell v1 o
  have f1 := fun o => row_frozen v1 o
  clear t0 t1 t2 t3 u0 u1 u2 u3 v0 v1 v2 v3 G1 G2 G3 G2' G3' G3'' G1'' H1 H2 o1 o2 b1 b2 BX BX1 BX2 e1 e2 HT HS1 HS2
  go_wp2_with fail
  refine bodyPost_ret (v := .agg #[.int .i64 st, .slice (some ⟨g1, 0, none⟩) rs.length rs.length, .slice (some ⟨g2, 0, none⟩) ws.length ws.length]) (by simp [results, Try.results29, go_sem, q1]) rfl ⟨g1, g2, rfl, ?_, ?_⟩
  · refine TxO.low (TxO.move FIN.out (fun k h1 h2 => ?_)) (show w.heap.size ≤ w.heap.size + 2 by omega)
    repeat rw [heap_set _ _ _ _ _ (by omega)]
  · repeat (refine Below.setCell ?_ (by first | omega | (simp <;> omega)) _)
    exact BW.out
end Go.Proofs.Ytbpkjpoicelgcaa.G
namespace Go.Proofs.Ytbpkjpoicelgcaa.G
open Go.ChangeShapes Go.WideShapes Go.ChangeAt Go.RowKit
set_option linter.unusedVariables false

/-- What ReadTxn answers: a transaction, a value, a code. -/
def RtIs (l : Chs) (now st : Int) (rs : List Int) (ws : List Ve) (key : Int) (st' : Int) (rs' : List Int) (ws' : List Ve) (v cd : Int) : Prop :=
  (txnB l now st rs ws = false ∧ st' = 0 ∧ rs' = [] ∧ ws' = [] ∧ v = 0 ∧ cd = 1) ∨
  (txnB l now st rs ws = true ∧ inB key 0 15 = false ∧ st' = 0 ∧ rs' = [] ∧ ws' = [] ∧ v = 0 ∧ cd = 4) ∨
  (txnB l now st rs ws = true ∧ inB key 0 15 = true ∧ st' = st ∧ rs' = rdK rs ws key ∧ ws' = ws ∧ v = rdV l st ws key ∧ cd = 0)
/-- A transaction, a value and a code that a call tells. -/
def TvS (w : World) (st' : Int) (rs' : List Int) (ws' : List Ve) (v cd : Int) (e : Ending) (w' : World) : Prop := (∃ ra' rq' wa' wq', e = .returned (.tuple #[.agg #[.int .i64 st', .slice ra' rs'.length rq', .slice wa' ws'.length wq'], .int .i64 v, .int .i64 cd]) ∧ TxOwn 0 w'.heap.size w' ra' wa' rs' ws') ∧ Below w.heap.size w w'
theorem rtIs (l : Chs) (now st : Int) (rs : List Int) (ws : List Ve) (key : Int) (hb : TxBd 1048576 rs ws) : ∃ st' rs' ws' v cd, RtIs l now st rs ws key st' rs' ws' v cd ∧ TxBd 1048576 rs' ws' := by
  cases hT : txnB l now st rs ws
  · exact ⟨_, _, _, _, _, .inl ⟨hT, rfl, rfl, rfl, rfl, rfl⟩, Nat.zero_le _, Nat.zero_le _⟩
  cases hK : inB key 0 15
  · exact ⟨_, _, _, _, _, .inr (.inl ⟨hT, hK, rfl, rfl, rfl, rfl, rfl⟩), Nat.zero_le _, Nat.zero_le _⟩
  · exact ⟨_, _, _, _, _, .inr (.inr ⟨hT, hK, rfl, rfl, rfl, rfl, rfl⟩), by have := rdK_len (ws := ws) (key := key) (txnB_all hT).2.2.2; omega, hb.2⟩
end Go.Proofs.Ytbpkjpoicelgcaa.G
namespace Go.Proofs.Ytbpkjpoicelgcaa.G
open Go.ChangeShapes Go.WideShapes Go.ChangeAt Go.RowKit
set_option linter.unusedVariables false

/-- What WriteTxn answers: a transaction, a code. -/
def WtIs (l : Chs) (now st : Int) (rs : List Int) (ws : List Ve) (pk pv : Int) (st' : Int) (rs' : List Int) (ws' : List Ve) (cd : Int) : Prop :=
  (txnB l now st rs ws = false ∧ st' = 0 ∧ rs' = [] ∧ ws' = [] ∧ cd = 1) ∨
  (txnB l now st rs ws = true ∧ putB pk pv = false ∧ st' = 0 ∧ rs' = [] ∧ ws' = [] ∧ cd = 4) ∨
  (txnB l now st rs ws = true ∧ putB pk pv = true ∧ ws.length = 400 ∧ st' = st ∧ rs' = rs ∧ ws' = ws ∧ cd = 6) ∨
  (txnB l now st rs ws = true ∧ putB pk pv = true ∧ ws.length ≠ 400 ∧ st' = st ∧ rs' = rs ∧ ws' = ws ++ [⟨pk, pv⟩] ∧ cd = 0)
/-- A transaction and a code that a call tells. -/
def TcS (w : World) (st' : Int) (rs' : List Int) (ws' : List Ve) (cd : Int) (e : Ending) (w' : World) : Prop := (∃ ra' rq' wa' wq', e = .returned (.tuple #[.agg #[.int .i64 st', .slice ra' rs'.length rq', .slice wa' ws'.length wq'], .int .i64 cd]) ∧ TxOwn 0 w'.heap.size w' ra' wa' rs' ws') ∧ Below w.heap.size w w'
theorem puts_one (k v : Int) : putsB [⟨k, v⟩] = putB k v := by simp [putsB]
theorem app_put3 (xs : List Ve) (p : Ve) (v : Value) (base h : Nat) (W : World) (ho : W.ownsRow base 43 2 v xs.length (veCells xs)) (hu : W.heap[h]? = some (.cells #[.int .i64 p.ts, .int .i64 p.v] 43 (0, 0))) (hk : xs.length ≤ 1048576) (hb : base ≤ W.heap.size) :
    ∃ g cap W', (Builtin.append_ #[28, 28] 28 #[v, .slice (some ⟨h, 0, none⟩) 1 1]).run Try.prog W = .ok (.slice (some ⟨g, 0, none⟩) (xs.length + 1) cap) W' ∧ W'.ownsRow base 43 2 (.slice (some ⟨g, 0, none⟩) (xs.length + 1) cap) (xs.length + 1) (veCells (xs ++ [p])) ∧ W.grownBy W' v.ownBlock ∧ g < W'.heap.size := by
  obtain ⟨i, hi, hz, hsz, hby⟩ := info_PuX
  have e : veCells (xs ++ [p]) = veCells xs ++ [.int .i64 p.ts, .int .i64 p.v] := by simp [veCells]
  rw [e]
  obtain ⟨g, cap, W', h1, h2, h3, h4, h5⟩ := run_append_lies (P := Try.prog) W 28 28 base 43 i _ 2 16 Try.underlying28 hi hz hsz hby rfl (by decide) v xs.length (veCells xs) ho ⟨h, 0, none⟩ 1 1 [.int .i64 p.ts, .int .i64 p.v] rfl (fun j x hx => by
    rw [add_plain]
    match j, hx with
    | 0, hx => simp only [List.getElem?_cons_zero, Option.some.injEq] at hx; subst hx; exact row_cell hu 0
    | 1, hx => simp only [List.getElem?_cons_succ, List.getElem?_cons_zero, Option.some.injEq] at hx; subst hx; exact row_cell hu 1) (fun x hx => by
      simp only [List.mem_cons, List.not_mem_nil, or_false] at hx
      rcases hx with rfl | rfl <;> rfl) (by omega) (by unfold maxLen; omega) (by omega) hb W.heap.size rfl
  exact ⟨g, cap, W', h1, h2, h3, h5⟩
end Go.Proofs.Ytbpkjpoicelgcaa.G
namespace Go.Proofs.Ytbpkjpoicelgcaa.G
open Go.ChangeShapes Go.WideShapes Go.ChangeAt Go.RowKit
set_option linter.unusedVariables false

set_option maxHeartbeats 8000000 in
set_option maxRecDepth 4000 in
theorem impl_wt0 (a ra wa : Option Addr) (c rq wq : Nat) (l : Chs) (now st : Int) (rs : List Int) (ws : List Ve) (pk pv : Int) (w : World) (hs : ChRow 0 w.heap.size w a l) (hsb : ChsBd 1048576 l) (hr : TxRow 0 w.heap.size w ra wa rs ws) (hbd : TxBd 1048576 rs ws) {st' : Int} {rs' : List Int} {ws' : List Ve} {cd : Int} (h : WtIs l now st rs ws pk pv st' rs' ws' cd) :
    Calls Try.prog 12 #[.agg #[.slice a l.length c, .int .i64 now], .agg #[.int .i64 st, .slice ra rs.length rq, .slice wa ws.length wq], .agg #[.int .i64 pk, .int .i64 pv]] w fun e w' => (∃ ra' rq' wa' wq', e = .returned (.tuple #[.agg #[.int .i64 st', .slice ra' rs'.length rq', .slice wa' ws'.length wq'], .int .i64 cd]) ∧ TxOwn w.heap.size w'.heap.size w' ra' wa' rs' ws') ∧ Below w.heap.size w w' := by
  have HI : Hid (WtIs l now st rs ws pk pv st' rs' ws' cd) := h
  clear h
  obtain ⟨V, hV⟩ : ∃ V, V = ((((w.alloc (.cells #[.slice a l.length c, .int .i64 now] 25)).alloc (.cells #[.int .i64 st, .slice ra rs.length rq, .slice wa ws.length wq] 30)).alloc (.cells #[.int .i64 pk, .int .i64 pv] 43)).alloc (.cells #[.int .i64 0, .slice none 0 0, .slice none 0 0] 30)) := ⟨_, rfl⟩
  have bV : Below w.heap.size w V := by
    rw [hV]
    repeat (first | exact Below.refl _ _ | refine Below.alloc ?_ (by first | omega | (simp <;> omega)) _)
  have zV : w.heap.size + 4 ≤ V.heap.size := by rw [hV]; simp
  have c0 : V.heap[w.heap.size]? = some (.cells #[.slice a l.length c, .int .i64 now] 25 (0, 0)) := by
    rw [hV, Below.heap_alloc _ _ _ (by simp <;> omega), Below.heap_alloc _ _ _ (by simp <;> omega), Below.heap_alloc _ _ _ (by simp <;> omega)]
    have := heap_alloc_new w (.cells #[.slice a l.length c, .int .i64 now] 25)
    simpa using this
  have c1 : V.heap[w.heap.size + 1]? = some (.cells #[.int .i64 st, .slice ra rs.length rq, .slice wa ws.length wq] 30 (0, 0)) := by
    rw [hV, Below.heap_alloc _ _ _ (by simp <;> omega), Below.heap_alloc _ _ _ (by simp <;> omega)]
    have := heap_alloc_new (w.alloc (.cells #[.slice a l.length c, .int .i64 now] 25)) (.cells #[.int .i64 st, .slice ra rs.length rq, .slice wa ws.length wq] 30)
    simpa using this
  have c2 : V.heap[w.heap.size + 1 + 1]? = some (.cells #[.int .i64 pk, .int .i64 pv] 43 (0, 0)) := by
    rw [hV, Below.heap_alloc _ _ _ (by simp <;> omega)]
    have := heap_alloc_new ((w.alloc (.cells #[.slice a l.length c, .int .i64 now] 25)).alloc (.cells #[.int .i64 st, .slice ra rs.length rq, .slice wa ws.length wq] 30)) (.cells #[.int .i64 pk, .int .i64 pv] 43)
    simpa using this
  have c3 : V.heap[w.heap.size + 1 + 1 + 1]? = some (.cells #[.int .i64 0, .slice none 0 0, .slice none 0 0] 30 (0, 0)) := by
    rw [hV]
    have := heap_alloc_new (((w.alloc (.cells #[.slice a l.length c, .int .i64 now] 25)).alloc (.cells #[.int .i64 st, .slice ra rs.length rq, .slice wa ws.length wq] 30)).alloc (.cells #[.int .i64 pk, .int .i64 pv] 43)) (.cells #[.int .i64 0, .slice none 0 0, .slice none 0 0] 30)
    simpa using this
  have KV : Hid (∀ W, Below V.heap.size V W → W.heap[w.heap.size]? = some (.cells #[.slice a l.length c, .int .i64 now] 25 (0, 0)) ∧ W.heap[w.heap.size + 1]? = some (.cells #[.int .i64 st, .slice ra rs.length rq, .slice wa ws.length wq] 30 (0, 0)) ∧ W.heap[w.heap.size + 1 + 1]? = some (.cells #[.int .i64 pk, .int .i64 pv] 43 (0, 0)) ∧ W.heap[w.heap.size + 1 + 1 + 1]? = some (.cells #[.int .i64 0, .slice none 0 0, .slice none 0 0] 30 (0, 0)) ∧ ChRow 0 W.heap.size W a l ∧ TxRow 0 W.heap.size W ra wa rs ws ∧ Below w.heap.size w W) := fun W h =>
    have hw := bV.trans (h.mono (by omega))
    ⟨(h.block _ (by omega)).trans c0, (h.block _ (by omega)).trans c1, (h.block _ (by omega)).trans c2, (h.block _ (by omega)).trans c3, ChRow.up hs hw, TxRow.up hr hw, hw⟩
  have HE : Hid (ChsBd 1048576 l) := hsb
  have HD : Hid (TxBd 1048576 rs ws) := hbd
  have HW0 : Hid (TxRow 0 w.heap.size w ra wa rs ws) := hr
  have x0 := fun o => row_cell c0 o
  have x1 := fun o => row_cell c1 o
  clear hs hr hbd hsb c0 c1 c2 c3 bV
  go_enter Try.func12, Try.ntmps12
  go_upto_region 1 with fail
  rw [← hV]
  clear hV
  go_wp2_with fail
  refine (impl_txnOK a ra wa c rq wq l now st rs ws _ (KV.out _ (Below.refl _ _)).2.2.2.2.1 HE.out (KV.out _ (Below.refl _ _)).2.2.2.2.2.1 HD.out).mono ?_
  rintro e w1 ⟨rfl, hb1⟩
  have q1 : Hid (Below V.heap.size V w1) := hb1
  obtain ⟨t0, t1, t2, t3, t4, t5, t6⟩ := KV.out _ q1.out
  have xa1 := fun o => row_cell t0 o
  have xb1 := fun o => row_cell t1 o
  have yb1 := fun o => row_frozen t1 o
  have xp1 := fun o => row_cell t2 o
  have xc1 := fun o => row_cell t3 o
  have yc1 := fun o => row_frozen t3 o
  have B11 : Hid _ := t1
  have B31 : Hid _ := t3
  have TS1 : Hid (ChRow 0 w1.heap.size w1 a l) := t4
  have TT1 : Hid (TxRow 0 w1.heap.size w1 ra wa rs ws) := t5
  have TB1 : Hid (Below w.heap.size w w1) := t6
  have z1 := hb1.size
  clear t0 t1 t2 t3 t4 t5 t6 hb1
  clear x0 x1
  cases hS : txnB l now st rs ws
  · obtain ⟨_, rfl, rfl, rfl, rfl⟩ : txnB l now st rs ws = false ∧ st' = 0 ∧ rs' = [] ∧ ws' = [] ∧ cd = 1 := by
      rcases HI.out with h | ⟨h, _⟩ | ⟨h, _⟩ | ⟨h, _⟩
      · exact h
      all_goals rw [hS] at h; cases h
    clear HI hS
    go_wp2_with fail
    refine bodyPost_ret (v := .tuple #[.agg #[.int .i64 0, .slice none 0 0, .slice none 0 0], .int .i64 1]) (by simp [results, Try.results12, go_sem, xc1]) rfl ⟨⟨none, 0, none, 0, rfl, .inl rfl, .inl rfl⟩, ?_⟩
    repeat (refine Below.setCell ?_ (by first | omega | (simp <;> omega)) _)
    exact TB1.out
  have HS : Hid (txnB l now st rs ws = true) := hS
  have hal := txnB_all hS
  have hwl : ws.length ≤ 400 := (putsB_all hal.2.2.1).1
  have hrl := readsB_len hal.2.2.2
  clear hS hal
  go_wp2_with fail
  refine (impl_putOK pk pv _).mono ?_
  rintro e w2 ⟨rfl, hb2⟩
  have q2 : Hid (Below V.heap.size V w2) := q1.out.trans (hb2.mono (by have := q1.out.size; omega))
  obtain ⟨t0, t1, t2, t3, t4, t5, t6⟩ := KV.out _ q2.out
  have xa2 := fun o => row_cell t0 o
  have xb2 := fun o => row_cell t1 o
  have yb2 := fun o => row_frozen t1 o
  have xp2 := fun o => row_cell t2 o
  have xc2 := fun o => row_cell t3 o
  have yc2 := fun o => row_frozen t3 o
  have B12 : Hid _ := t1
  have B32 : Hid _ := t3
  have TS2 : Hid (ChRow 0 w2.heap.size w2 a l) := t4
  have TT2 : Hid (TxRow 0 w2.heap.size w2 ra wa rs ws) := t5
  have TB2 : Hid (Below w.heap.size w w2) := t6
  have z2 := hb2.size
  clear t0 t1 t2 t3 t4 t5 t6 hb2
  clear xa1 xb1 yb1 xp1 xc1 yc1
  cases hP : putB pk pv
  · obtain ⟨_, _, rfl, rfl, rfl, rfl⟩ : txnB l now st rs ws = true ∧ putB pk pv = false ∧ st' = 0 ∧ rs' = [] ∧ ws' = [] ∧ cd = 4 := by
      rcases HI.out with ⟨h, _⟩ | h | ⟨_, h, _⟩ | ⟨_, h, _⟩
      · rw [HS.out] at h; cases h
      · exact h
      all_goals rw [hP] at h; cases h
    clear HI hP
    go_wp2_with fail
    refine bodyPost_ret (v := .tuple #[.agg #[.int .i64 0, .slice none 0 0, .slice none 0 0], .int .i64 4]) (by simp [results, Try.results12, go_sem, xc2]) rfl ⟨⟨none, 0, none, 0, rfl, .inl rfl, .inl rfl⟩, ?_⟩
    repeat (refine Below.setCell ?_ (by first | omega | (simp <;> omega)) _)
    exact TB2.out
  by_cases h4 : ws.length = 400
  · obtain ⟨_, _, _, rfl, rfl, rfl, rfl⟩ : txnB l now st rs ws = true ∧ putB pk pv = true ∧ ws.length = 400 ∧ st' = st ∧ rs' = rs ∧ ws' = ws ∧ cd = 6 := by
      rcases HI.out with ⟨h, _⟩ | ⟨_, h, _⟩ | h | ⟨_, _, h, _⟩
      · rw [HS.out] at h; cases h
      · rw [hP] at h; cases h
      · exact h
      · exact absurd h4 h
    have h4' : ((ws'.length : Int) == 400) = true := by rw [h4]; rfl
    have HL : Hid (ws'.length = 400) := h4
    clear HI hP h4
    go_wp2_with fail
    have hq := copy_txn ra wa rq wq st' rs' ws' _ TT2.out HD.out
    rw [HL.out] at hq
    refine hq.mono ?_
    clear hq h4' hwl
    rintro e w3 ⟨g1, g2, rfl, o3, hb3⟩
    have o4 : TxOwn w2.heap.size w3.heap.size w3 (some ⟨g1, 0, none⟩) (some ⟨g2, 0, none⟩) rs' ws' := by
      obtain ⟨ra3, rq3, wa3, wq3, e1, e2, o4⟩ := o3.own
      simp only [Value.slice.injEq] at e1 e2
      rw [e1.1, e2.1]; exact o4
    obtain ⟨ra3, hra3⟩ : ∃ x : Option Addr, x = some ⟨g1, 0, none⟩ := ⟨_, rfl⟩
    obtain ⟨wa3, hwa3⟩ : ∃ x : Option Addr, x = some ⟨g2, 0, none⟩ := ⟨_, rfl⟩
    obtain ⟨rq3, hrq3⟩ : ∃ x : Nat, x = rs'.length := ⟨_, rfl⟩
    obtain ⟨wq3, hwq3⟩ : ∃ x : Nat, x = 400 := ⟨_, rfl⟩
    rw [← hra3, ← hwa3] at o4 ⊢
    clear hra3 hwa3 hrq3 hwq3 rq3 wq3
    have O4 : Hid (TxOwn w2.heap.size w3.heap.size w3 ra3 wa3 rs' ws') := o4
    have q3 : Hid (Below V.heap.size V w3) := q2.out.trans (hb3.mono (by omega))
    obtain ⟨t0, t1, t2, t3, t4, t5, t6⟩ := KV.out _ q3.out
    have xa3 := fun o => row_cell t0 o
    have xb3 := fun o => row_cell t1 o
    have yb3 := fun o => row_frozen t1 o
    have xp3 := fun o => row_cell t2 o
    have xc3 := fun o => row_cell t3 o
    have yc3 := fun o => row_frozen t3 o
    have B13 : Hid _ := t1
    have B33 : Hid _ := t3
    have TS3 : Hid (ChRow 0 w3.heap.size w3 a l) := t4
    have TT3 : Hid (TxRow 0 w3.heap.size w3 ra wa rs' ws') := t5
    have TB3 : Hid (Below w.heap.size w w3) := t6
    have z3 := hb3.size
    clear t0 t1 t2 t3 t4 t5 t6 hb3
    clear o3 o4 xa2 xb2 yb2 xp2 xc2 yc2
    go_wp2_with fail
    refine bodyPost_ret (v := .tuple #[.agg #[.int .i64 st', .slice ra3 rs'.length rs'.length, .slice wa3 ws'.length 400], .int .i64 6]) (by first | (simp [results, Try.results12, go_sem, xc3]; done) | (simp [results, Try.results12, go_sem, xc3]; exact HL.out.symm)) rfl ⟨⟨ra3, _, wa3, _, rfl, ?_⟩, ?_⟩
    · refine TxOwn.wide (TxOwn.keep O4.out (fun k h1 h2 => ?_)) (by omega) (by simp)
      repeat rw [heap_set _ _ _ _ _ (by omega)]
    · repeat (refine Below.setCell ?_ (by first | omega | (simp <;> omega)) _)
      exact TB3.out
  · obtain ⟨_, _, _, rfl, rfl, rfl, rfl⟩ : txnB l now st rs ws = true ∧ putB pk pv = true ∧ ws.length ≠ 400 ∧ st' = st ∧ rs' = rs ∧ ws' = ws ++ [⟨pk, pv⟩] ∧ cd = 0 := by
      rcases HI.out with ⟨h, _⟩ | ⟨_, h, _⟩ | ⟨_, _, h, _⟩ | h
      · rw [HS.out] at h; cases h
      · rw [hP] at h; cases h
      · exact absurd h h4
      · exact h
    have h4' : ((ws.length : Int) == 400) = false := by simp; omega
    clear HI hP h4
    go_wp2_with fail
    refine (copy_txn ra wa rq wq st' rs' ws _ TT2.out HD.out).mono ?_
    rintro e w3 ⟨g1, g2, rfl, o3, hb3⟩
    obtain ⟨rv, hrv⟩ : ∃ x : Value, x = .slice (some ⟨g1, 0, none⟩) rs'.length rs'.length := ⟨_, rfl⟩
    have q3 : Hid (Below V.heap.size V w3) := q2.out.trans (hb3.mono (by omega))
    obtain ⟨t0, t1, t2, t3, t4, t5, t6⟩ := KV.out _ q3.out
    have z3 := hb3.size
    have z3' := q3.out.size
    obtain ⟨U2, hU2⟩ : ∃ x : World, x = w3.alloc (.cells #[.int .i64 st', .slice (some ⟨g1, 0, none⟩) rs'.length rs'.length, .slice (some ⟨g2, 0, none⟩) ws.length ws.length] 30) := ⟨_, rfl⟩
    have b2 : Below w3.heap.size w3 U2 := by rw [hU2]; exact (Below.refl _ _).alloc (Nat.le_refl _) _
    have u1 : U2.heap[w3.heap.size]? = some (.cells #[.int .i64 st', .slice (some ⟨g1, 0, none⟩) rs'.length rs'.length, .slice (some ⟨g2, 0, none⟩) ws.length ws.length] 30 (0, 0)) := by rw [hU2]; exact heap_alloc_new _ _
    have u2 := (b2.block _ (by omega)).trans t2
    have u3 := (b2.block _ (by omega)).trans t3
    have zU2 := b2.size
    have zU2' := (Array.getElem?_eq_some_iff.1 u1).1
    have BU2 : Below w.heap.size w U2 := t6.trans (b2.mono (by have := t6.size; omega))
    have OU2 : TxO (w.heap.size + 4) U2 (.slice (some ⟨g1, 0, none⟩) rs'.length rs'.length) (.slice (some ⟨g2, 0, none⟩) ws.length ws.length) rs' ws := TxO.low (TxO.move o3 (fun k h1 h2 => b2.block k h2)) (by omega)
    have O3 : TxO w2.heap.size w3 (.slice (some ⟨g1, 0, none⟩) rs'.length rs'.length) (.slice (some ⟨g2, 0, none⟩) ws.length ws.length) rs' ws := o3
    obtain ⟨U3, hU3⟩ : ∃ x : World, x = U2.alloc (.cells #[.int .i64 pk, .int .i64 pv] 43) := ⟨_, rfl⟩
    have b3 : Below U2.heap.size U2 U3 := by rw [hU3]; exact (Below.refl _ _).alloc (Nat.le_refl _) _
    have cU3 : U3.heap[U2.heap.size]? = some (.cells #[.int .i64 pk, .int .i64 pv] 43 (0, 0)) := by rw [hU3]; exact heap_alloc_new _ _
    have zU3 := b3.size
    have hg2 : g2 < w3.heap.size := (own_lt3 O3.2 g2 rfl).2
    have hg2' : w2.heap.size ≤ g2 := (own_lt3 O3.2 g2 rfl).1
    have hg1 : g1 < w3.heap.size := (own_lt3 O3.1 g1 rfl).2
    have hg1' : w2.heap.size ≤ g1 := (own_lt3 O3.1 g1 rfl).1
    have hn12 : g1 ≠ g2 := by
      rcases O3.1.2 with ⟨e1, _⟩ | ⟨ga, ca, cua, ea, _, ha, _⟩
      · cases e1
      rcases O3.2.2 with ⟨e2, _⟩ | ⟨gb, cb, cub, eb, _, hb, _⟩
      · cases e2
      simp only [Value.slice.injEq, Option.some.injEq, Addr.mk.injEq] at ea eb
      obtain ⟨⟨rfl, _⟩, _⟩ := ea
      obtain ⟨⟨rfl, _⟩, _⟩ := eb
      rintro rfl
      rw [ha] at hb; simp at hb
    obtain ⟨g4, k4, W4, hrun, o4, gr4, hg4⟩ := app_put3 ws ⟨pk, pv⟩ (.slice (some ⟨g2, 0, none⟩) ws.length ws.length) (w.heap.size + 4) U2.heap.size U3 (own_below OU2.2 b3) cU3 (by omega) (by omega)
    have kept : ∀ g, g < U2.heap.size → g ≠ g2 → W4.heap[g]? = U2.heap[g]? := fun g hg hn => (gr4.block g (by omega) (fun e => hn (by simpa [Value.ownBlock] using e))).trans (b3.block g (by omega))
    have v1 := (kept w3.heap.size (by omega) (by omega)).trans u1
    have v3 := (kept (w.heap.size + 1 + 1 + 1) (by omega) (by omega)).trans u3
    have x4 := fun o => row_cell v1 o
    have y4 := fun o => row_frozen v1 o
    have x5 := fun o => row_cell v3 o
    have y5 := fun o => row_frozen v3 o
    have xu1 := fun o => row_cell u1 o
    have xu2 := fun o => row_cell u2 o
    have BW4 : Hid (Below w.heap.size w W4) := (BU2.trans (b3.mono (by omega))).grown gr4 (by have := BU2.size; omega) (fun g e => by simp [Value.ownBlock] at e; omega)
    have hz4 := gr4.size
    have O4W : Hid (W4.ownsRow (w.heap.size + 4) 43 2 (.slice (some ⟨g4, 0, none⟩) (ws.length + 1) k4) (ws ++ [(⟨pk, pv⟩ : Ve)]).length (veCells (ws ++ [⟨pk, pv⟩]))) := by rw [Hid]; simpa using o4
    have R4W : Hid (W4.ownsRow (w.heap.size + 4) 3 1 (.slice (some ⟨g1, 0, none⟩) rs'.length rs'.length) rs'.length (nuV rs')) := own_set (own_below OU2.1 b3) (fun g hg => by
      simp only [Value.ownBlock, Option.some.injEq] at hg
      subst hg
      exact (kept _ (by omega) hn12).trans (b3.block _ (by omega)).symm)
    have hg4n : g4 ≠ w3.heap.size ∧ w.heap.size + 4 ≤ g4 := by
      rcases O4W.out.2 with ⟨e1, _⟩ | ⟨ga, ca, cua, ea, h1, ha, _⟩
      · cases e1
      simp only [Value.slice.injEq, Option.some.injEq, Addr.mk.injEq] at ea
      obtain ⟨⟨rfl, _⟩, _⟩ := ea
      refine ⟨?_, h1⟩
      rintro rfl
      rw [v1] at ha; simp at ha
    have HRUN : Hid _ := hrun
    have HU2 : Hid (U2 = _) := hU2
    have HU3 : Hid (U3 = U2.alloc (.cells #[.int .i64 pk, .int .i64 pv] 43)) := hU3
    clear hU2 hU3 b3 cU3 hrun o4 gr4 kept v1 v3 u1 u2 u3 OU2 BU2 O3 o3 b2 t0 t1 t2 t3 t4 t5 t6 hrv rv
    clear xa2 xb2 yb2 xp2 xc2 yc2
    go_upto_region 8 with fail
    rw [← HU2.out]
    go_wp2_with (first | (at_builtin; rw [← HU3.out]; refine wpList_append_run rfl _ _ _ rfl _ _ _ _ rfl rfl HRUN.out ?_) | fail)
    refine bodyPost_ret (v := .tuple #[.agg #[.int .i64 st', .slice (some ⟨g1, 0, none⟩) rs'.length rs'.length, .slice (some ⟨g4, 0, none⟩) (ws.length + 1) k4], .int .i64 0]) (by simp [results, Try.results12, go_sem, x5]) rfl ⟨⟨some ⟨g1, 0, none⟩, rs'.length, some ⟨g4, 0, none⟩, k4, by simp, ?_⟩, ?_⟩
    · have mv : ∀ {W' : World}, (∀ k, k ≠ w3.heap.size → w.heap.size + 4 ≤ k → W'.heap[k]? = W4.heap[k]?) → W'.heap.size = W4.heap.size → TxOwn w.heap.size W'.heap.size W' (some ⟨g1, 0, none⟩) (some ⟨g4, 0, none⟩) rs' (ws ++ [⟨pk, pv⟩]) := fun {W'} hk hs => by
        have h1 : TxO (w.heap.size + 4) W' (.slice (some ⟨g1, 0, none⟩) rs'.length rs'.length) (.slice (some ⟨g4, 0, none⟩) (ws.length + 1) k4) rs' (ws ++ [⟨pk, pv⟩]) := ⟨own_set R4W.out (fun g hg => by
          simp only [Value.ownBlock, Option.some.injEq] at hg; subst hg; exact hk _ (by omega) (by omega)), own_set O4W.out (fun g hg => by
          simp only [Value.ownBlock, Option.some.injEq] at hg; subst hg; exact hk _ hg4n.1 hg4n.2)⟩
        obtain ⟨r1, r2, a1, a2, e1, e2, h3⟩ := h1.own
        simp only [Value.slice.injEq] at e1 e2
        rw [e1.1, e2.1]
        exact TxOwn.wide h3 (by omega) (Nat.le_refl _)
      refine mv (fun k hk hk2 => ?_) (by simp)
      repeat rw [heap_set _ _ _ _ _ (by omega)]
    · repeat (refine Below.setCell ?_ (by first | omega | (simp <;> omega)) _)
      exact BW4.out
theorem impl_wt (a ra wa : Option Addr) (c rq wq : Nat) (l : Chs) (now st : Int) (rs : List Int) (ws : List Ve) (pk pv : Int) (sa : Int) (ra' : List Int) (wa' : List Ve) (cd : Int) (w : World) (hs : ChRow 0 w.heap.size w a l) (hsb : ChsBd 1048576 l) (hr : TxRow 0 w.heap.size w ra wa rs ws) (hbd : TxBd 1048576 rs ws) (h : WtIs l now st rs ws pk pv sa ra' wa' cd) :
    Calls Try.prog 12 #[.agg #[.slice a l.length c, .int .i64 now], .agg #[.int .i64 st, .slice ra rs.length rq, .slice wa ws.length wq], .agg #[.int .i64 pk, .int .i64 pv]] w fun e w' => ∃ r1 c1 w1 c2, e = .returned (.tuple #[.agg #[.int .i64 sa, .slice r1 ra'.length c1, .slice w1 wa'.length c2], .int .i64 cd]) ∧ TxOwn w.heap.size w'.heap.size w' r1 w1 ra' wa' ∧ Below w.heap.size w w' := by
  refine (impl_wt0 a ra wa c rq wq l now st rs ws pk pv w hs hsb hr hbd h).mono ?_
  rintro e w' ⟨⟨r1, c1, w1, c2, he, ho⟩, hb⟩
  exact ⟨r1, c1, w1, c2, he, ho, hb⟩
end Go.Proofs.Ytbpkjpoicelgcaa.G
