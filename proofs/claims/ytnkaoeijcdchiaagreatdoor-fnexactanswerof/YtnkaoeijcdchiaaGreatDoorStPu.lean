/- Lists of puts: what the law counts, copies, compares and marks. -/
import Derived.Test.YtnkaoeijcdchiaaGreatDoorStMark
namespace Go.Proofs.YtnkaoeijcdchiaaGreatDoor.G
open Go.ChangeShapes Go.WideShapes Go.ChangeAt Go.RowKit
set_option linter.unusedVariables false

section
variable {H : Type} {enc : TypeId × Value → H} {W : World}
theorem Pus_open {fuel : Nat} {cs : List Value} {x : DataW H × List MemPlace} (h : DataW.trod enc Tryz.prog W 0 (fun _ => true) true fuel 26 cs = some x) :
    ∃ a c, ∃ l : List Ve, cs = [.slice a l.length c] ∧ l.length ≤ c ∧ l.length ≤ maxLen ∧ VeRow 0 W.heap.size W a l := by
  have ci : Tryz.prog.cellsOf 3 = 1 := by kernel_rfl
  have hcap : ∃ a len cap, cs = [.slice a len cap] ∧ len ≤ cap := by
    rcases DataW.trod_slice Tryz.underlying26 h with ⟨rfl, _⟩ | ⟨a, len, cap, elems, rest, n, rfl, rfl, _, hb, hl, hm, hlen, hel, _, _⟩
    · exact ⟨_, _, _, rfl, Nat.le_refl _⟩
    · exact ⟨_, _, _, rfl, hl⟩
  obtain ⟨a, len, cap, rfl, hm, hr⟩ := sl_open Tryz.underlying26 (z := 2) (by kernel_rfl) (by omega) h
  obtain ⟨a9, len9, cap9, e9, hcp⟩ := hcap
  simp only [List.cons.injEq, Value.slice.injEq, and_true] at e9
  obtain ⟨rfl, rfl, rfl⟩ := e9
  rcases hr with rfl | ⟨n, b, o, rfl, rfl, hb, hx⟩
  · exact ⟨a, cap, [], rfl, Nat.zero_le _, Nat.zero_le _, .inl rfl⟩
  · obtain ⟨l, hl, hp⟩ := list_of (p := fun i x => VeAt (rdOf W b) (o + i * 2) x) (fun i hi => by
      obtain ⟨cs', y, hcl, hc, hd⟩ := hx i hi
      obtain ⟨xs, n', rfl, rfl, _, hxl, hf⟩ := DataW.trod_struct Tryz.underlying98 hd
      obtain ⟨v0, v1, rfl⟩ := listTwo hcl
      obtain ⟨y0, y1, rfl⟩ := listTwo hxl
      obtain ⟨g0, e0, _, _⟩ := DataW.trod_int Tryz.underlying3 (hf 0 _ rfl)
      obtain ⟨g1, e1, _, _⟩ := DataW.trod_int Tryz.underlying3 (hf 1 _ rfl)
      simp [ci] at e0 e1
      subst e0 e1
      exact ⟨⟨g0, g1⟩, hc 0 (by omega), hc 1 (by omega)⟩)
    subst hl
    exact ⟨_, cap, l, rfl, hcp, hm, .inr ⟨b, o, rfl, Nat.zero_le _, hb, fun i x hx => hp i x hx⟩⟩
end
set_option maxHeartbeats 1000000 in
theorem sz_Pus (a : Option Addr) (c len : Nat) (n : Int) (w : World) (hl : len ≤ maxLen) (h0 : 0 ≤ n) (h1 : n ≤ 1048576) :
    Calls Tryz.prog 22 #[.slice a len c, .int .i64 n] w fun e w' => ∃ m, e = .returned (.int .i64 m) ∧ Sz n m (len ≤ 1048576) ∧ w' = w := by
  unfold maxLen at hl
  by_cases hz : n - len < 0
  · go_enter Tryz.func22, Tryz.ntmps22
    go_wp2_with fail
    go_ret
    exact ⟨-1, rfl, Sz.neg h0, rfl⟩
  · go_enter Tryz.func22, Tryz.ntmps22
    go_wp2_with fail
    go_ret
    exact ⟨_, rfl, ⟨by omega, by omega, fun _ => by omega⟩, rfl⟩
/-- A block that holds a chain's versions, from its start. -/
def PuBlk (w : World) (b : Nat) (l : List Ve) : Prop := ∃ cs, w.heap[b]? = some (.cells cs 79 (0, 0)) ∧ l.length * 2 ≤ cs.size ∧ ∀ i x, l[i]? = some x → VeCell cs (i * 2) x
theorem PuBlk.move {w w' : World} {b : Nat} {l : List Ve} (h : PuBlk w b l) (e : w'.heap[b]? = w.heap[b]?) : PuBlk w' b l := by
  obtain ⟨cs, h1, h2, h3⟩ := h
  exact ⟨cs, e.trans h1, h2, h3⟩
theorem PuBlk.row {w : World} {b : Nat} {l : List Ve} {lo hi : Nat} (h : PuBlk w b l) (h1 : lo ≤ b) (h2 : b < hi) : VeRow lo hi w (some ⟨b, 0, none⟩) l := by
  obtain ⟨cs, g1, g2, g3⟩ := h
  refine .inr ⟨b, 0, rfl, h1, h2, fun i x hx => ?_⟩
  rw [row_rd g1, Nat.zero_add]
  exact g3 i x hx
theorem PuBlk.lt {w : World} {b : Nat} {l : List Ve} (h : PuBlk w b l) : b < w.heap.size := by
  obtain ⟨cs, g1, _⟩ := h
  exact (Array.getElem?_eq_some_iff.1 g1).1
set_option maxRecDepth 100000 in
theorem info_PuX : ∃ i, Tryz.prog.info? 79 = some i ∧ i.zero = some (.agg #[.int .i64 0, .int .i64 0]) ∧ i.size = 2 ∧ i.bytes = 16 := by
  refine ⟨_, rfl, ?_, ?_, ?_⟩ <;> kernel_rfl
set_option maxHeartbeats 1000000 in
theorem to_Pu (x : Ve) (w : World) :
    Calls Tryz.prog 56 #[.agg #[.int .i64 x.ts, .int .i64 x.v]] w fun e w' => e = .returned (.agg #[.int .i64 x.ts, .int .i64 x.v]) ∧ Below w.heap.size w w' := by
  go_enter Tryz.func56, Tryz.ntmps56
  go_wp2
  refine bodyPost_ret (v := .agg #[.int .i64 x.ts, .int .i64 x.v]) (by simp [results, Tryz.results56, go_sem]) rfl ⟨rfl, ?_⟩
  repeat (first | exact Below.refl _ _ | refine Below.setCell ?_ (by first | omega | (simp <;> omega)) _ | refine Below.alloc ?_ (by first | omega | (simp <;> omega)) _)
set_option maxHeartbeats 2000000 in
theorem to_Pus (a : Option Addr) (c : Nat) (l : List Ve) (w : World) (hr : VeRow 0 w.heap.size w a l) (hl : l.length ≤ 1048576) :
    Calls Tryz.prog 29 #[.slice a l.length c] w fun e w' => e = .returned (.slice (some ⟨w.heap.size, 0, none⟩) l.length l.length) ∧ PuBlk w' w.heap.size l ∧ Below w.heap.size w w' := by
  have HR : Hid (VeRow 0 w.heap.size w a l) := hr
  clear hr
  obtain ⟨i27, hi, hz, hsz, hby⟩ := info_PuX
  have hmk := run_make (P := Tryz.prog) w 41 79 i27 _ Tryz.underlying41 hi hz .i64 .i64 (l.length : Int) (l.length : Int) (by omega) (by omega) (by rw [hby]; omega) (by omega)
  rw [hsz, Int.toNat_natCast] at hmk
  clear hi hz hsz hby
  have hs0 := size_madeCells (Value.agg #[.int .i64 0, .int .i64 0]).cells (l.length * 2)
  generalize madeCells (Value.agg #[.int .i64 0, .int .i64 0]).cells (l.length * 2) = cs0 at *
  go_enter Tryz.func29, Tryz.ntmps29
  go_wp2_with fail
  go_loopw [4] (fun i w' => ∃ (k : Nat) (cs : Array Value), k ≤ l.length ∧ i = .int .i64 k ∧ Below w.heap.size w w' ∧ Hid (w'.heap[w.heap.size]? = some (.cells cs 79 (0, 0))) ∧ cs.size = l.length * 2 ∧ Hid (∀ i x, i < k → l[i]? = some x → VeCell cs (i * 2) x)) (fun i _ => l.length - (intOf i).toNat)
  case atStart => exact ⟨0, cs0, by omega, rfl, (Below.refl _ _).alloc (Nat.le_refl _) _, heap_alloc_new _ _, hs0, fun i x h => by omega⟩
  case round =>
    rename_i wr
    obtain ⟨k, cs, hk, rfl, hb, HH, hcs, HL⟩ := hrel
    clear hmk hs0
    by_cases hlt : k < l.length
    · obtain ⟨b, o, ha, _, hbl, d0, d1⟩ := VeRow.cells (VeRow.keep HR.out (agree hb (Nat.le_refl _))) k hlt
      subst ha
      go_wp2_with fail
      refine (to_Pu l[k] _).mono ?_
      rintro e w1 ⟨rfl, hb1⟩
      have hN : w.heap.size < wr.heap.size := (Array.getElem?_eq_some_iff.1 HH.out).1
      have HH1 : Hid (w1.heap[w.heap.size]? = some (.cells cs 79 (0, 0))) := (hb1.block _ hN).trans HH.out
      obtain ⟨v0, hv0⟩ : ∃ v, w1.cell? ⟨w.heap.size, k * 2, none⟩ = some v := ⟨_, (row_cell HH1.out _).trans (Array.getElem?_eq_getElem (by omega))⟩
      obtain ⟨v1, hv1⟩ : ∃ v, w1.cell? ⟨w.heap.size, k * 2 + 1, none⟩ = some v := ⟨_, (row_cell HH1.out _).trans (Array.getElem?_eq_getElem (by omega))⟩
      have hf0 := row_frozen HH1.out (k * 2)
      have hf1 := row_frozen HH1.out (k * 2 + 1)
      have qb : Hid _ := hb.trans (hb1.mono hb.size)
      have hz1 := hb1.size
      clear d0 d1
      go_wp2_with fail
      exact ⟨⟨k + 1, _, by omega, by go_num, (qb.out.setCell (Nat.le_refl _) _).setCell (Nat.le_refl _) _, row_set (row_set HH1.out _ _) _ _, by simp [hcs], put_ve hcs hlt HL.out⟩, by simp [intOf]; omega⟩
    · go_wp2_with fail
      go_ret
      obtain rfl : k = l.length := by omega
      exact ⟨rfl, ⟨cs, HH.out, by omega, fun i x hx => HL.out i x (List.getElem?_eq_some_iff.1 hx).1 hx⟩, hb⟩
set_option maxHeartbeats 1000000 in
theorem eq_Pu (x : Ve) (w : World) :
    Calls Tryz.prog 41 #[.agg #[.int .i64 x.ts, .int .i64 x.v], .agg #[.int .i64 x.ts, .int .i64 x.v]] w fun e w' => e = .returned (.bool true) ∧ Below w.heap.size w w' := by
  go_enter Tryz.func41, Tryz.ntmps41
  go_wp2_with fail
  go_ret
  refine ⟨rfl, ?_⟩
  repeat (first | exact Below.refl _ _ | refine Below.alloc ?_ (by simp) _)
set_option maxHeartbeats 1000000 in
theorem eq_Pus (a a' : Option Addr) (c c' : Nat) (l : List Ve) (w : World) (hr : VeRow 0 w.heap.size w a l) (hr' : VeRow 0 w.heap.size w a' l) (hl : l.length ≤ 1048576) :
    Calls Tryz.prog 15 #[.slice a l.length c, .slice a' l.length c'] w fun e w' => e = .returned (.bool true) ∧ Below w.heap.size w w' := by
  have HR : Hid (VeRow 0 w.heap.size w a l) := hr
  have HR' : Hid (VeRow 0 w.heap.size w a' l) := hr'
  clear hr hr'
  go_enter Tryz.func15, Tryz.ntmps15
  go_wp2_with fail
  go_loopw [5] (fun i w' => ∃ (k : Nat), k ≤ l.length ∧ i = .int .i64 k ∧ Below w.heap.size w w') (fun i _ => l.length - (intOf i).toNat)
  case atStart => exact ⟨0, by omega, rfl, Below.refl _ _⟩
  case round =>
    rename_i wr
    obtain ⟨k, hk, rfl, hb⟩ := hrel
    by_cases hlt : k < l.length
    · obtain ⟨b, o, ha, _, hbl, d0, d1⟩ := VeRow.cells (VeRow.keep HR.out (agree hb (Nat.le_refl _))) k hlt
      obtain ⟨b', o', ha', _, hbl', f0, f1⟩ := VeRow.cells (VeRow.keep HR'.out (agree hb (Nat.le_refl _))) k hlt
      subst ha
      subst ha'
      have hlt' : (k : Int) < l.length := by omega
      go_wp2_with fail
      go_region_with (go_at_call 41; refine (eq_Pu l[k] _).mono ?_; rintro e w1 ⟨rfl, hb1⟩)
      all_goals
        go_wp2_with fail
        exact ⟨⟨k + 1, by omega, by go_num, hb.drew.trans (hb1.mono hb.size)⟩, by simp [intOf]; omega⟩
    · go_wp2_with fail
      go_ret
      exact ⟨rfl, hb⟩
/-- A block whose first n versions bear the marks from K on. -/
def PuMk (w : World) (b : Nat) (K : Int) (n : Nat) : Prop := ∃ cs, w.heap[b]? = some (.cells cs 79 (0, 0)) ∧ n * 2 ≤ cs.size ∧ ∀ i : Nat, i < n → cs[i * 2]? = some (.int .i64 (K + 2 * i)) ∧ cs[i * 2 + 1]? = some (.int .i64 (K + 2 * i + 1))
theorem PuMk.move {w w' : World} {b : Nat} {K : Int} {n : Nat} (h : PuMk w b K n) (e : w'.heap[b]? = w.heap[b]?) : PuMk w' b K n := by
  obtain ⟨cs, h1, h2⟩ := h
  exact ⟨cs, e.trans h1, h2⟩
set_option maxHeartbeats 2000000 in
theorem mark_Pus (b c : Nat) (l : List Ve) (K : Int) (w : World) (hv : PuBlk w b l) (hl : l.length ≤ 1048576) (h0 : 0 ≤ K) (h1 : K ≤ 4398046511104) :
    Calls Tryz.prog 18 #[.slice (some ⟨b, 0, none⟩) l.length c, .int .i64 K] w fun e w' => ∃ r : Int, e = .returned (.int .i64 r) ∧ r = K + 2 * l.length ∧ PuMk w' b K l.length ∧ KeptS b (b + 1) w w' := by
  obtain ⟨cs0, hh, hs, _⟩ := hv
  have HH : Hid _ := hh
  clear hh
  go_enter Tryz.func18, Tryz.ntmps18
  go_wp2_with fail
  go_loopw [1, 5] (fun s i w' => ∃ (k : Nat) (z : Int) (cs : Array Value), k ≤ l.length ∧ i = .int .i64 k ∧ s = .int .i64 z ∧ z = K + 2 * k ∧ Hid (w'.heap[b]? = some (.cells cs 79 (0, 0))) ∧ l.length * 2 ≤ cs.size ∧ Hid (∀ i : Nat, i < k → cs[i * 2]? = some (.int .i64 (K + 2 * i)) ∧ cs[i * 2 + 1]? = some (.int .i64 (K + 2 * i + 1))) ∧ Hid (KeptS b (b + 1) w w')) (fun _ i _ => l.length - (intOf i).toNat)
  case atStart => exact ⟨0, K, cs0, by omega, rfl, rfl, by omega, HH, hs, fun i h => by omega, KeptS.refl _ _ _⟩
  case round =>
    obtain ⟨k, z, cs, hk, rfl, rfl, hz, HW, hcs, HM, HK⟩ := hrel
    by_cases hlt : k < l.length
    · obtain ⟨u0, hv0⟩ : ∃ v, wr.cell? ⟨b, k * 2, none⟩ = some v := ⟨_, (row_cell HW.out _).trans (Array.getElem?_eq_getElem (by omega))⟩
      obtain ⟨u1, hv1⟩ : ∃ v, wr.cell? ⟨b, k * 2 + 1, none⟩ = some v := ⟨_, (row_cell HW.out _).trans (Array.getElem?_eq_getElem (by omega))⟩
      have hf0 := row_frozen HW.out (k * 2)
      have hf1 := row_frozen HW.out (k * 2 + 1)
      have HZ : Hid (z = K + 2 * k) := hz
      have hz1 : 0 ≤ z := by omega
      have hz2 : z ≤ 4398048608256 := by omega
      clear hz
      go_wp2_with fail
      exact ⟨⟨k + 1, z + 2, _, by omega, by go_num, by go_num, by have := HZ.out; omega, row_set (row_set HW.out _ _) _ _, by simpa using hcs, mk_put hcs hlt HM.out HZ.out (by rw [HZ.out]), (HK.out.set (p := ⟨b, k * 2, none⟩) (Nat.le_refl _) (Nat.lt_succ_self _) _).set (p := ⟨b, k * 2 + 1, none⟩) (Nat.le_refl _) (Nat.lt_succ_self _) _⟩, by simp [intOf]; omega⟩
    · obtain rfl : k = l.length := by omega
      go_wp2_with fail
      go_ret
      exact ⟨_, rfl, hz, ⟨cs, HW.out, hcs, HM.out⟩, HK.out⟩
set_option maxHeartbeats 2000000 in
theorem mark_Pus0 (a : Option Addr) (c : Nat) (K : Int) (w : World) :
    Calls Tryz.prog 18 #[.slice a 0 c, .int .i64 K] w fun e w' => e = .returned (.int .i64 K) ∧ w' = w := by
  go_enter Tryz.func18, Tryz.ntmps18
  go_wp2_with fail
  go_loop [1, 5] (fun s i => s = .int .i64 K ∧ i = .int .i64 0) (fun _ _ => 0)
  case atStart => exact ⟨rfl, rfl⟩
  case round =>
    obtain ⟨rfl, rfl⟩ := hrel
    go_wp2_with fail
    go_ret
    exact ⟨rfl, rfl⟩
set_option maxHeartbeats 2000000 in
theorem held_Pus (b c n : Nat) (K : Int) (w : World) (hv : PuMk w b K n) (hl : n ≤ 1048576) (h0 : 0 ≤ K) (h1 : K ≤ 4398046511104) :
    Calls Tryz.prog 19 #[.slice (some ⟨b, 0, none⟩) n c, .int .i64 K] w fun e w' => ∃ r : Int, e = .returned (.int .i64 r) ∧ r = K + 2 * n ∧ w' = w := by
  obtain ⟨cs, hh, hs, hm⟩ := hv
  have HH : Hid _ := hh
  have HM : Hid _ := hm
  clear hh hm
  go_enter Tryz.func19, Tryz.ntmps19
  go_wp2_with fail
  go_loop [1, 5] (fun s i => ∃ (k : Nat) (z : Int), k ≤ n ∧ i = .int .i64 k ∧ s = .int .i64 z ∧ z = K + 2 * k) (fun _ i => n - (intOf i).toNat)
  case atStart => exact ⟨0, K, by omega, rfl, rfl, by omega⟩
  case round =>
    obtain ⟨k, z, hk, rfl, rfl, hz⟩ := hrel
    by_cases hlt : k < n
    · obtain ⟨m0, m1⟩ := HM.out k hlt
      rw [← hz] at m0 m1
      have d0 := (row_cell HH.out (k * 2)).trans m0
      have d1 := (row_cell HH.out (k * 2 + 1)).trans m1
      have HZ : Hid (z = K + 2 * k) := hz
      have hz1 : 0 ≤ z := by omega
      have hz2 : z ≤ 4398048608256 := by omega
      clear hz m0 m1
      go_wp2_with fail
      go_round
      case rel => exact ⟨k + 1, z + 2, by omega, by go_num, by go_num, by have := HZ.out; omega⟩
      case measure => simp [intOf]; omega
    · obtain rfl : k = n := by omega
      have HZ : Hid _ := hz
      clear hz
      go_wp2_with fail
      go_ret
      exact ⟨_, rfl, HZ.out, rfl⟩
set_option maxHeartbeats 2000000 in
theorem held_Pus0 (a : Option Addr) (c : Nat) (K : Int) (w : World) :
    Calls Tryz.prog 19 #[.slice a 0 c, .int .i64 K] w fun e w' => e = .returned (.int .i64 K) ∧ w' = w := by
  go_enter Tryz.func19, Tryz.ntmps19
  go_wp2_with fail
  go_loop [1, 5] (fun s i => s = .int .i64 K ∧ i = .int .i64 0) (fun _ _ => 0)
  case atStart => exact ⟨rfl, rfl⟩
  case round =>
    obtain ⟨rfl, rfl⟩ := hrel
    go_wp2_with fail
    go_ret
    exact ⟨rfl, rfl⟩
end Go.Proofs.YtnkaoeijcdchiaaGreatDoor.G
