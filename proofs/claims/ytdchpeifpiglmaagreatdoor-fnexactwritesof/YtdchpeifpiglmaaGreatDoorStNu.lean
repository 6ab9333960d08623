/- Rows of numbers: what the law counts and copies of them. -/
import Derived.Test.YtdchpeifpiglmaaGreatDoorStMark
import Derived.Deep.AppendLies
import Derived.Deep.AppendSrc
namespace Go.Proofs.YtdchpeifpiglmaaGreatDoor.G
open Go.ChangeShapes Go.WideShapes Go.ChangeAt Go.RowKit
set_option linter.unusedVariables false

section
variable {H : Type} {enc : TypeId × Value → H} {W : World}
theorem Pus_open {fuel : Nat} {cs : List Value} {x : DataW H × List MemPlace} (h : DataW.trod enc Tryz.prog W 0 (fun _ => true) true fuel 26 cs = some x) :
    ∃ a c, ∃ l : List Ve, cs = [.slice a l.length c] ∧ l.length ≤ c ∧ l.length ≤ maxLen ∧ VeRow 0 W.heap.size W a l := by
  have ci : Tryz.prog.cellsOf 3 = 1 := by kernel_rfl
  have hcap : ∃ a len cap, cs = [.slice a len cap] ∧ len ≤ cap := by
    rcases DataW.trod_slice Tryz.underlying26 h with ⟨rfl, _⟩ | ⟨a, len, cap, elems, rest, n, rfl, rfl, _, hb, hl, hm, hlen, hel, _, _⟩
    · exact ⟨_, _, _, rfl, Nat.le_refl _⟩
    · exact ⟨_, _, _, rfl, hl⟩
  obtain ⟨a, len, cap, rfl, hm, hr⟩ := sl_open Tryz.underlying26 (z := 2) (by kernel_rfl) (by omega) h
  obtain ⟨a9, len9, cap9, e9, hcp⟩ := hcap
  simp only [List.cons.injEq, Value.slice.injEq, and_true] at e9
  obtain ⟨rfl, rfl, rfl⟩ := e9
  rcases hr with rfl | ⟨n, b, o, rfl, rfl, hb, hx⟩
  · exact ⟨a, cap, [], rfl, Nat.zero_le _, Nat.zero_le _, .inl rfl⟩
  · obtain ⟨l, hl, hp⟩ := list_of (p := fun i x => VeAt (rdOf W b) (o + i * 2) x) (fun i hi => by
      obtain ⟨cs', y, hcl, hc, hd⟩ := hx i hi
      obtain ⟨xs, n', rfl, rfl, _, hxl, hf⟩ := DataW.trod_struct Tryz.underlying93 hd
      obtain ⟨v0, v1, rfl⟩ := listTwo hcl
      obtain ⟨y0, y1, rfl⟩ := listTwo hxl
      obtain ⟨g0, e0, _, _⟩ := DataW.trod_int Tryz.underlying3 (hf 0 _ rfl)
      obtain ⟨g1, e1, _, _⟩ := DataW.trod_int Tryz.underlying3 (hf 1 _ rfl)
      simp [ci] at e0 e1
      subst e0 e1
      exact ⟨⟨g0, g1⟩, hc 0 (by omega), hc 1 (by omega)⟩)
    subst hl
    exact ⟨_, cap, l, rfl, hcp, hm, .inr ⟨b, o, rfl, Nat.zero_le _, hb, fun i x hx => hp i x hx⟩⟩
end
set_option maxHeartbeats 1000000 in
theorem sz_Pus (a : Option Addr) (c len : Nat) (n : Int) (w : World) (hl : len ≤ maxLen) (h0 : 0 ≤ n) (h1 : n ≤ 1048576) :
    Calls Tryz.prog 19 #[.slice a len c, .int .i64 n] w fun e w' => ∃ m, e = .returned (.int .i64 m) ∧ Sz n m (len ≤ 1048576) ∧ w' = w := by
  unfold maxLen at hl
  by_cases hz : n - len < 0
  · go_enter Tryz.func19, Tryz.ntmps19
    go_wp2_with fail
    go_ret
    exact ⟨-1, rfl, Sz.neg h0, rfl⟩
  · go_enter Tryz.func19, Tryz.ntmps19
    go_wp2_with fail
    go_ret
    exact ⟨_, rfl, ⟨by omega, by omega, fun _ => by omega⟩, rfl⟩
/-- A block that holds a chain's versions, from its start. -/
def PuBlk (w : World) (b : Nat) (l : List Ve) : Prop := ∃ cs, w.heap[b]? = some (.cells cs 70 (0, 0)) ∧ l.length * 2 ≤ cs.size ∧ ∀ i x, l[i]? = some x → VeCell cs (i * 2) x
theorem PuBlk.move {w w' : World} {b : Nat} {l : List Ve} (h : PuBlk w b l) (e : w'.heap[b]? = w.heap[b]?) : PuBlk w' b l := by
  obtain ⟨cs, h1, h2, h3⟩ := h
  exact ⟨cs, e.trans h1, h2, h3⟩
theorem PuBlk.row {w : World} {b : Nat} {l : List Ve} {lo hi : Nat} (h : PuBlk w b l) (h1 : lo ≤ b) (h2 : b < hi) : VeRow lo hi w (some ⟨b, 0, none⟩) l := by
  obtain ⟨cs, g1, g2, g3⟩ := h
  refine .inr ⟨b, 0, rfl, h1, h2, fun i x hx => ?_⟩
  rw [row_rd g1, Nat.zero_add]
  exact g3 i x hx
theorem PuBlk.lt {w : World} {b : Nat} {l : List Ve} (h : PuBlk w b l) : b < w.heap.size := by
  obtain ⟨cs, g1, _⟩ := h
  exact (Array.getElem?_eq_some_iff.1 g1).1
set_option maxRecDepth 100000 in
theorem info_PuX : ∃ i, Tryz.prog.info? 70 = some i ∧ i.zero = some (.agg #[.int .i64 0, .int .i64 0]) ∧ i.size = 2 ∧ i.bytes = 16 := by
  refine ⟨_, rfl, ?_, ?_, ?_⟩ <;> kernel_rfl
set_option maxHeartbeats 1000000 in
theorem to_Pu (x : Ve) (w : World) :
    Calls Tryz.prog 48 #[.agg #[.int .i64 x.ts, .int .i64 x.v]] w fun e w' => e = .returned (.agg #[.int .i64 x.ts, .int .i64 x.v]) ∧ Below w.heap.size w w' := by
  go_enter Tryz.func48, Tryz.ntmps48
  go_wp2
  refine bodyPost_ret (v := .agg #[.int .i64 x.ts, .int .i64 x.v]) (by simp [results, Tryz.results48, go_sem]) rfl ⟨rfl, ?_⟩
  repeat (first | exact Below.refl _ _ | refine Below.setCell ?_ (by first | omega | (simp <;> omega)) _ | refine Below.alloc ?_ (by first | omega | (simp <;> omega)) _)
set_option maxHeartbeats 2000000 in
theorem to_Pus (a : Option Addr) (c : Nat) (l : List Ve) (w : World) (hr : VeRow 0 w.heap.size w a l) (hl : l.length ≤ 1048576) :
    Calls Tryz.prog 26 #[.slice a l.length c] w fun e w' => e = .returned (.slice (some ⟨w.heap.size, 0, none⟩) l.length l.length) ∧ PuBlk w' w.heap.size l ∧ Below w.heap.size w w' := by
  have HR : Hid (VeRow 0 w.heap.size w a l) := hr
  clear hr
  obtain ⟨i27, hi, hz, hsz, hby⟩ := info_PuX
  have hmk := run_make (P := Tryz.prog) w 35 70 i27 _ Tryz.underlying35 hi hz .i64 .i64 (l.length : Int) (l.length : Int) (by omega) (by omega) (by rw [hby]; omega) (by omega)
  rw [hsz, Int.toNat_natCast] at hmk
  clear hi hz hsz hby
  have hs0 := size_madeCells (Value.agg #[.int .i64 0, .int .i64 0]).cells (l.length * 2)
  generalize madeCells (Value.agg #[.int .i64 0, .int .i64 0]).cells (l.length * 2) = cs0 at *
  go_enter Tryz.func26, Tryz.ntmps26
  go_wp2_with fail
  go_loopw [4] (fun i w' => ∃ (k : Nat) (cs : Array Value), k ≤ l.length ∧ i = .int .i64 k ∧ Below w.heap.size w w' ∧ Hid (w'.heap[w.heap.size]? = some (.cells cs 70 (0, 0))) ∧ cs.size = l.length * 2 ∧ Hid (∀ i x, i < k → l[i]? = some x → VeCell cs (i * 2) x)) (fun i _ => l.length - (intOf i).toNat)
  case atStart => exact ⟨0, cs0, by omega, rfl, (Below.refl _ _).alloc (Nat.le_refl _) _, heap_alloc_new _ _, hs0, fun i x h => by omega⟩
  case round =>
    rename_i wr
    obtain ⟨k, cs, hk, rfl, hb, HH, hcs, HL⟩ := hrel
    clear hmk hs0
    by_cases hlt : k < l.length
    · obtain ⟨b, o, ha, _, hbl, d0, d1⟩ := VeRow.cells (VeRow.keep HR.out (agree hb (Nat.le_refl _))) k hlt
      subst ha
      go_wp2_with fail
      refine (to_Pu l[k] _).mono ?_
      rintro e w1 ⟨rfl, hb1⟩
      have hN : w.heap.size < wr.heap.size := (Array.getElem?_eq_some_iff.1 HH.out).1
      have HH1 : Hid (w1.heap[w.heap.size]? = some (.cells cs 70 (0, 0))) := (hb1.block _ hN).trans HH.out
      obtain ⟨v0, hv0⟩ : ∃ v, w1.cell? ⟨w.heap.size, k * 2, none⟩ = some v := ⟨_, (row_cell HH1.out _).trans (Array.getElem?_eq_getElem (by omega))⟩
      obtain ⟨v1, hv1⟩ : ∃ v, w1.cell? ⟨w.heap.size, k * 2 + 1, none⟩ = some v := ⟨_, (row_cell HH1.out _).trans (Array.getElem?_eq_getElem (by omega))⟩
      have hf0 := row_frozen HH1.out (k * 2)
      have hf1 := row_frozen HH1.out (k * 2 + 1)
      have qb : Hid _ := hb.trans (hb1.mono hb.size)
      have hz1 := hb1.size
      clear d0 d1
      go_wp2_with fail
      exact ⟨⟨k + 1, _, by omega, by go_num, (qb.out.setCell (Nat.le_refl _) _).setCell (Nat.le_refl _) _, row_set (row_set HH1.out _ _) _ _, by simp [hcs], put_ve hcs hlt HL.out⟩, by simp [intOf]; omega⟩
    · go_wp2_with fail
      go_ret
      obtain rfl : k = l.length := by omega
      exact ⟨rfl, ⟨cs, HH.out, by omega, fun i x hx => HL.out i x (List.getElem?_eq_some_iff.1 hx).1 hx⟩, hb⟩
set_option maxHeartbeats 1000000 in
theorem eq_Pu (x : Ve) (w : World) :
    Calls Tryz.prog 31 #[.agg #[.int .i64 x.ts, .int .i64 x.v], .agg #[.int .i64 x.ts, .int .i64 x.v]] w fun e w' => e = .returned (.bool true) ∧ Below w.heap.size w w' := by
  go_enter Tryz.func31, Tryz.ntmps31
  go_wp2_with fail
  go_ret
  refine ⟨rfl, ?_⟩
  repeat (first | exact Below.refl _ _ | refine Below.alloc ?_ (by simp) _)
set_option maxHeartbeats 1000000 in
theorem eq_Pus (a a' : Option Addr) (c c' : Nat) (l : List Ve) (w : World) (hr : VeRow 0 w.heap.size w a l) (hr' : VeRow 0 w.heap.size w a' l) (hl : l.length ≤ 1048576) :
    Calls Tryz.prog 10 #[.slice a l.length c, .slice a' l.length c'] w fun e w' => e = .returned (.bool true) ∧ Below w.heap.size w w' := by
  have HR : Hid (VeRow 0 w.heap.size w a l) := hr
  have HR' : Hid (VeRow 0 w.heap.size w a' l) := hr'
  clear hr hr'
  go_enter Tryz.func10, Tryz.ntmps10
  go_wp2_with fail
  go_loopw [5] (fun i w' => ∃ (k : Nat), k ≤ l.length ∧ i = .int .i64 k ∧ Below w.heap.size w w') (fun i _ => l.length - (intOf i).toNat)
  case atStart => exact ⟨0, by omega, rfl, Below.refl _ _⟩
  case round =>
    rename_i wr
    obtain ⟨k, hk, rfl, hb⟩ := hrel
    by_cases hlt : k < l.length
    · obtain ⟨b, o, ha, _, hbl, d0, d1⟩ := VeRow.cells (VeRow.keep HR.out (agree hb (Nat.le_refl _))) k hlt
      obtain ⟨b', o', ha', _, hbl', f0, f1⟩ := VeRow.cells (VeRow.keep HR'.out (agree hb (Nat.le_refl _))) k hlt
      subst ha
      subst ha'
      have hlt' : (k : Int) < l.length := by omega
      go_wp2_with fail
      go_region_with (go_at_call 31; refine (eq_Pu l[k] _).mono ?_; rintro e w1 ⟨rfl, hb1⟩)
      all_goals
        go_wp2_with fail
        exact ⟨⟨k + 1, by omega, by go_num, hb.drew.trans (hb1.mono hb.size)⟩, by simp [intOf]; omega⟩
    · go_wp2_with fail
      go_ret
      exact ⟨rfl, hb⟩
/-- A block whose first n versions bear the marks from K on. -/
def PuMk (w : World) (b : Nat) (K : Int) (n : Nat) : Prop := ∃ cs, w.heap[b]? = some (.cells cs 70 (0, 0)) ∧ n * 2 ≤ cs.size ∧ ∀ i : Nat, i < n → cs[i * 2]? = some (.int .i64 (K + 2 * i)) ∧ cs[i * 2 + 1]? = some (.int .i64 (K + 2 * i + 1))
theorem PuMk.move {w w' : World} {b : Nat} {K : Int} {n : Nat} (h : PuMk w b K n) (e : w'.heap[b]? = w.heap[b]?) : PuMk w' b K n := by
  obtain ⟨cs, h1, h2⟩ := h
  exact ⟨cs, e.trans h1, h2⟩
set_option maxHeartbeats 2000000 in
theorem mark_Pus (b c : Nat) (l : List Ve) (K : Int) (w : World) (hv : PuBlk w b l) (hl : l.length ≤ 1048576) (h0 : 0 ≤ K) (h1 : K ≤ 4398046511104) :
    Calls Tryz.prog 15 #[.slice (some ⟨b, 0, none⟩) l.length c, .int .i64 K] w fun e w' => ∃ r : Int, e = .returned (.int .i64 r) ∧ r = K + 2 * l.length ∧ PuMk w' b K l.length ∧ KeptS b (b + 1) w w' := by
  obtain ⟨cs0, hh, hs, _⟩ := hv
  have HH : Hid _ := hh
  clear hh
  go_enter Tryz.func15, Tryz.ntmps15
  go_wp2_with fail
  go_loopw [1, 5] (fun s i w' => ∃ (k : Nat) (z : Int) (cs : Array Value), k ≤ l.length ∧ i = .int .i64 k ∧ s = .int .i64 z ∧ z = K + 2 * k ∧ Hid (w'.heap[b]? = some (.cells cs 70 (0, 0))) ∧ l.length * 2 ≤ cs.size ∧ Hid (∀ i : Nat, i < k → cs[i * 2]? = some (.int .i64 (K + 2 * i)) ∧ cs[i * 2 + 1]? = some (.int .i64 (K + 2 * i + 1))) ∧ Hid (KeptS b (b + 1) w w')) (fun _ i _ => l.length - (intOf i).toNat)
  case atStart => exact ⟨0, K, cs0, by omega, rfl, rfl, by omega, HH, hs, fun i h => by omega, KeptS.refl _ _ _⟩
  case round =>
    obtain ⟨k, z, cs, hk, rfl, rfl, hz, HW, hcs, HM, HK⟩ := hrel
    by_cases hlt : k < l.length
    · obtain ⟨u0, hv0⟩ : ∃ v, wr.cell? ⟨b, k * 2, none⟩ = some v := ⟨_, (row_cell HW.out _).trans (Array.getElem?_eq_getElem (by omega))⟩
      obtain ⟨u1, hv1⟩ : ∃ v, wr.cell? ⟨b, k * 2 + 1, none⟩ = some v := ⟨_, (row_cell HW.out _).trans (Array.getElem?_eq_getElem (by omega))⟩
      have hf0 := row_frozen HW.out (k * 2)
      have hf1 := row_frozen HW.out (k * 2 + 1)
      have HZ : Hid (z = K + 2 * k) := hz
      have hz1 : 0 ≤ z := by omega
      have hz2 : z ≤ 4398048608256 := by omega
      clear hz
      go_wp2_with fail
      exact ⟨⟨k + 1, z + 2, _, by omega, by go_num, by go_num, by have := HZ.out; omega, row_set (row_set HW.out _ _) _ _, by simpa using hcs, mk_put hcs hlt HM.out HZ.out (by rw [HZ.out]), (HK.out.set (p := ⟨b, k * 2, none⟩) (Nat.le_refl _) (Nat.lt_succ_self _) _).set (p := ⟨b, k * 2 + 1, none⟩) (Nat.le_refl _) (Nat.lt_succ_self _) _⟩, by simp [intOf]; omega⟩
    · obtain rfl : k = l.length := by omega
      go_wp2_with fail
      go_ret
      exact ⟨_, rfl, hz, ⟨cs, HW.out, hcs, HM.out⟩, HK.out⟩
set_option maxHeartbeats 2000000 in
theorem mark_Pus0 (a : Option Addr) (c : Nat) (K : Int) (w : World) :
    Calls Tryz.prog 15 #[.slice a 0 c, .int .i64 K] w fun e w' => e = .returned (.int .i64 K) ∧ w' = w := by
  go_enter Tryz.func15, Tryz.ntmps15
  go_wp2_with fail
  go_loop [1, 5] (fun s i => s = .int .i64 K ∧ i = .int .i64 0) (fun _ _ => 0)
  case atStart => exact ⟨rfl, rfl⟩
  case round =>
    obtain ⟨rfl, rfl⟩ := hrel
    go_wp2_with fail
    go_ret
    exact ⟨rfl, rfl⟩
set_option maxHeartbeats 2000000 in
theorem held_Pus (b c n : Nat) (K : Int) (w : World) (hv : PuMk w b K n) (hl : n ≤ 1048576) (h0 : 0 ≤ K) (h1 : K ≤ 4398046511104) :
    Calls Tryz.prog 16 #[.slice (some ⟨b, 0, none⟩) n c, .int .i64 K] w fun e w' => ∃ r : Int, e = .returned (.int .i64 r) ∧ r = K + 2 * n ∧ w' = w := by
  obtain ⟨cs, hh, hs, hm⟩ := hv
  have HH : Hid _ := hh
  have HM : Hid _ := hm
  clear hh hm
  go_enter Tryz.func16, Tryz.ntmps16
  go_wp2_with fail
  go_loop [1, 5] (fun s i => ∃ (k : Nat) (z : Int), k ≤ n ∧ i = .int .i64 k ∧ s = .int .i64 z ∧ z = K + 2 * k) (fun _ i => n - (intOf i).toNat)
  case atStart => exact ⟨0, K, by omega, rfl, rfl, by omega⟩
  case round =>
    obtain ⟨k, z, hk, rfl, rfl, hz⟩ := hrel
    by_cases hlt : k < n
    · obtain ⟨m0, m1⟩ := HM.out k hlt
      rw [← hz] at m0 m1
      have d0 := (row_cell HH.out (k * 2)).trans m0
      have d1 := (row_cell HH.out (k * 2 + 1)).trans m1
      have HZ : Hid (z = K + 2 * k) := hz
      have hz1 : 0 ≤ z := by omega
      have hz2 : z ≤ 4398048608256 := by omega
      clear hz m0 m1
      go_wp2_with fail
      go_round
      case rel => exact ⟨k + 1, z + 2, by omega, by go_num, by go_num, by have := HZ.out; omega⟩
      case measure => simp [intOf]; omega
    · obtain rfl : k = n := by omega
      have HZ : Hid _ := hz
      clear hz
      go_wp2_with fail
      go_ret
      exact ⟨_, rfl, HZ.out, rfl⟩
set_option maxHeartbeats 2000000 in
theorem held_Pus0 (a : Option Addr) (c : Nat) (K : Int) (w : World) :
    Calls Tryz.prog 16 #[.slice a 0 c, .int .i64 K] w fun e w' => e = .returned (.int .i64 K) ∧ w' = w := by
  go_enter Tryz.func16, Tryz.ntmps16
  go_wp2_with fail
  go_loop [1, 5] (fun s i => s = .int .i64 K ∧ i = .int .i64 0) (fun _ _ => 0)
  case atStart => exact ⟨rfl, rfl⟩
  case round =>
    obtain ⟨rfl, rfl⟩ := hrel
    go_wp2_with fail
    go_ret
    exact ⟨rfl, rfl⟩
end Go.Proofs.YtdchpeifpiglmaaGreatDoor.G
namespace Go.Proofs.YtdchpeifpiglmaaGreatDoor.G
open Go.ChangeShapes Go.WideShapes Go.ChangeAt Go.RowKit
set_option linter.unusedVariables false

theorem keyB_in (key : Int) : inS key 0 15 = keyS key := by unfold inS keyS; rw [Bool.eq_iff_iff]; simp; omega
end Go.Proofs.YtdchpeifpiglmaaGreatDoor.G
namespace Go.Proofs.YtdchpeifpiglmaaGreatDoor.G
open Go.ChangeShapes Go.WideShapes Go.ChangeAt Go.RowKit
set_option linter.unusedVariables false

def NuAt (rd : Nat → Option Value) (o : Nat) (x : Int) : Prop := rd o = some (.int .i64 x)
abbrev NuRow (lo hi : Nat) (w : World) (a : Option Addr) (l : List Int) : Prop := Row NuAt 1 lo hi w a l
theorem NuRow.keep {lo hi : Nat} {w w' : World} {a : Option Addr} {l : List Int} (h : NuRow lo hi w a l) (hk : Agree lo hi w w') : NuRow lo hi w' a l := Row.of h hk fun _ _ _ hx => hx
theorem NuRow.wide {lo hi lo' hi' : Nat} {w : World} {a : Option Addr} {l : List Int} (h : NuRow lo hi w a l) (e1 : lo' ≤ lo) (e2 : hi ≤ hi') : NuRow lo' hi' w a l := Row.out h e1 e2 fun _ _ _ hx => hx
theorem NuRow.up {w w' : World} {a : Option Addr} {l : List Int} (h : NuRow 0 w.heap.size w a l) (hb : Below w.heap.size w w') : NuRow 0 w'.heap.size w' a l := NuRow.wide (NuRow.keep h (agree hb (Nat.le_refl _))) (Nat.le_refl _) hb.size
theorem NuRow.cells {lo hi : Nat} {w : World} {a : Option Addr} {l : List Int} (h : NuRow lo hi w a l) (k : Nat) (hk : k < l.length) :
    ∃ b o, a = some ⟨b, o, none⟩ ∧ lo ≤ b ∧ b < hi ∧ w.cell? ⟨b, o + k, none⟩ = some (.int .i64 l[k]) := by
  obtain ⟨b, o, e1, e2, e3, h0⟩ := Row.at_ h k hk
  rw [Nat.mul_one] at h0
  exact ⟨b, o, e1, e2, e3, h0⟩
theorem nu_of {w : World} {N lo hi : Nat} {cs : Array Value} {T : TypeId} {l : List Int} (h : w.heap[N]? = some (.cells cs T (0, 0))) (h1 : lo ≤ N) (h2 : N < hi) (hc : ∀ i (h : i < l.length), cs[i]? = some (.int .i64 l[i])) : NuRow lo hi w (some ⟨N, 0, none⟩) l := by
  refine .inr ⟨N, 0, rfl, h1, h2, fun i x hx => ?_⟩
  obtain ⟨hi, rfl⟩ := List.getElem?_eq_some_iff.1 hx
  rw [row_rd h]
  show cs[0 + i * 1]? = _
  rw [Nat.mul_one, Nat.zero_add]
  exact hc i hi
set_option maxRecDepth 100000 in
theorem info_int : ∃ i, Tryz.prog.info? 3 = some i ∧ i.zero = some (.int .i64 0) ∧ i.size = 1 ∧ i.bytes = 8 := by
  refine ⟨_, rfl, ?_, ?_, ?_⟩ <;> kernel_rfl
/-- What all keys tell at an hour. -/
def vals (l : Chs) (ts : Int) : List Int := l.map fun x => readV x ts
theorem vals_len (l : Chs) (ts : Int) : (vals l ts).length = l.length := by simp [vals]
theorem vals_at {l : Chs} {ts : Int} {i : Nat} (h : i < (vals l ts).length) : (vals l ts)[i] = readV (l[i]'(by rw [vals_len] at h; exact h)) ts := by simp [vals]
end Go.Proofs.YtdchpeifpiglmaaGreatDoor.G
namespace Go.Proofs.YtdchpeifpiglmaaGreatDoor.G
open Go.ChangeShapes Go.WideShapes Go.ChangeAt Go.RowKit
set_option linter.unusedVariables false

set_option maxRecDepth 100000 in
theorem info_bool : ∃ i, Tryz.prog.info? 4 = some i ∧ i.zero = some (.bool false) ∧ i.size = 1 ∧ i.bytes = 1 := by
  refine ⟨_, rfl, ?_, ?_, ?_⟩ <;> kernel_rfl
theorem wpList_append_run {P : Program} {ops : Array Oper} {rest : List Oper} {o : Oper} {a : Act} {Q : Exit → Act → World → Prop} {w : World} (hgd : o.guard = none) (s x : Operand) (t : TypeId)
    (ho : o.op = .call { callee := .builtin .append, args := #[s, x], argTypes := #[t, t] }) (sv xv rv : Value) (w' : World) (hs : a.eval s = sv) (hx : a.eval x = xv)
    (hr : (Builtin.append_ #[t, t] o.type #[sv, xv]).run P w = .ok rv w') (h : wpList P ops Q rest (a.put o.dst rv) w') : wpList P ops Q (o :: rest) a w := by
  refine wpList_plain hgd fun K hK => ?_
  unfold Oper.wp execOp
  simp only [ho, resolve, invoke, builtin, Sem.run_bind, Sem.run_pure, Result.andThen_ok, List.map_toArray, List.map_cons, List.map_nil, hs, hx, hr]
  exact hK _ _ h
def nuV (x : List Int) : List Value := x.map fun z => .int .i64 z
theorem nuV_snoc (x : List Int) (z : Int) : nuV (x ++ [z]) = nuV x ++ [.int .i64 z] := by simp [nuV]
theorem app_num (x : List Int) (z : Int) (v : Value) (base h : Nat) (W : World) (ho : W.ownsRow base 3 1 v x.length (nuV x)) (hu : W.heap[h]? = some (.cells #[.int .i64 z] 3 (0, 0))) (hk : x.length ≤ 1048576) (hb : base ≤ W.heap.size) :
    ∃ g cap W', (Builtin.append_ #[25, 25] 25 #[v, .slice (some ⟨h, 0, none⟩) 1 1]).run Tryz.prog W = .ok (.slice (some ⟨g, 0, none⟩) (x.length + 1) cap) W' ∧ W'.ownsRow base 3 1 (.slice (some ⟨g, 0, none⟩) (x.length + 1) cap) (x.length + 1) (nuV (x ++ [z])) ∧ W.grownBy W' v.ownBlock ∧ (v.ownBlock = some g ∨ g = W.heap.size) ∧ g < W'.heap.size := by
  obtain ⟨i, hi, hz, hsz, hby⟩ := info_int
  rw [nuV_snoc]
  exact run_append_lies (P := Tryz.prog) W 25 25 base 3 i _ 1 8 Tryz.underlying25 hi hz hsz hby rfl (by decide) v x.length (nuV x) ho ⟨h, 0, none⟩ 1 1 [.int .i64 z] rfl (fun j y hx => by
    have hj : j = 0 := by have := (List.getElem?_eq_some_iff.1 hx).1; simpa using this
    subst hj
    simp only [List.getElem?_cons_zero, Option.some.injEq] at hx
    subst hx
    rw [add_plain]
    exact row_cell hu 0) (fun y hy => by rw [List.mem_singleton.1 hy]; rfl) (by omega) (by unfold maxLen; omega) (by omega) hb W.heap.size rfl
/-- The keys below k that changed. -/
def keysK (l : Chs) (ts : Int) : Nat → List Int
  | 0 => []
  | k + 1 => if chgB (chAt l k) ts = true then keysK l ts k ++ [(k : Int)] else keysK l ts k
theorem keysK_len (l : Chs) (ts : Int) : ∀ k, (keysK l ts k).length ≤ k
  | 0 => Nat.le_refl _
  | k + 1 => by
    have := keysK_len l ts k
    unfold keysK
    split <;> simp <;> omega
/-- Numbers that a call owns. -/
def NuOwn (lo hi : Nat) (w : World) (a : Option Addr) (x : List Int) : Prop := x = [] ∨ ∃ g cs, a = some ⟨g, 0, none⟩ ∧ lo ≤ g ∧ g < hi ∧ w.heap[g]? = some (.cells cs 3 (0, 0)) ∧ x.length ≤ cs.size ∧ ∀ (i : Nat) (z : Int), x[i]? = some z → cs[i]? = some (.int .i64 z)
theorem NuOwn.of {base : Nat} {w : World} {v : Value} {x : List Int} (h : w.ownsRow base 3 1 v x.length (nuV x)) : ∃ a c, v = .slice a x.length c ∧ NuOwn base w.heap.size w a x := by
  rcases h.2 with ⟨rfl, h0⟩ | ⟨g, cap, cur, rfl, h1, h2, h3, h4, h5, h6⟩
  · have : x = [] := List.eq_nil_of_length_eq_zero h0
    subst this
    exact ⟨none, 0, rfl, .inl rfl⟩
  · refine ⟨_, cap, rfl, .inr ⟨g, cur, rfl, h1, (Array.getElem?_eq_some_iff.1 h2).1, h2, by omega, fun i z hz => ?_⟩⟩
    have hi := (List.getElem?_eq_some_iff.1 hz).1
    have : (nuV x)[i]? = some (.int .i64 z) := by simp [nuV, hz]
    rw [← h6, List.getElem?_take, if_pos (by omega)] at this
    simpa using this
theorem NuOwn.row {lo hi : Nat} {w : World} {a : Option Addr} {x : List Int} (h : NuOwn lo hi w a x) : NuRow lo hi w a x := by
  rcases h with h | ⟨g, cs, rfl, h1, h2, h3, h4, h5⟩
  · exact .inl h
  · exact nu_of h3 h1 h2 (fun i h => h5 i _ (List.getElem?_eq_getElem h))
theorem NuOwn.keep {lo hi : Nat} {w w' : World} {a : Option Addr} {x : List Int} (h : NuOwn lo hi w a x) (hk : Agree lo hi w w') : NuOwn lo hi w' a x := by
  rcases h with h | ⟨g, cs, rfl, h1, h2, h3, h4⟩
  · exact .inl h
  · exact .inr ⟨g, cs, rfl, h1, h2, (hk g h1 h2).trans h3, h4⟩
theorem NuOwn.wide {lo hi lo' hi' : Nat} {w : World} {a : Option Addr} {x : List Int} (h : NuOwn lo hi w a x) (e1 : lo' ≤ lo) (e2 : hi ≤ hi') : NuOwn lo' hi' w a x := by
  rcases h with h | ⟨g, cs, rfl, h1, h2, h3⟩
  · exact .inl h
  · exact .inr ⟨g, cs, rfl, by omega, by omega, h3⟩
/-- Numbers that bear the marks from K on. -/
def NuMk (lo hi : Nat) (w : World) (a : Option Addr) (n : Nat) (K : Int) : Prop := n = 0 ∨ ∃ g cs, a = some ⟨g, 0, none⟩ ∧ lo ≤ g ∧ g < hi ∧ w.heap[g]? = some (.cells cs 3 (0, 0)) ∧ n ≤ cs.size ∧ ∀ i : Nat, i < n → cs[i]? = some (.int .i64 (K + i))
theorem NuMk.keep {lo hi : Nat} {w w' : World} {a : Option Addr} {n : Nat} {K : Int} (h : NuMk lo hi w a n K) (hk : Agree lo hi w w') : NuMk lo hi w' a n K := by
  rcases h with h | ⟨g, cs, rfl, h1, h2, h3, h4⟩
  · exact .inl h
  · exact .inr ⟨g, cs, rfl, h1, h2, (hk g h1 h2).trans h3, h4⟩
set_option maxHeartbeats 2000000 in
theorem mark_nums (a : Option Addr) (c : Nat) (x : List Int) (lo hi : Nat) (K : Int) (w : World) (ho : NuOwn lo hi w a x) (hl : x.length ≤ 1048576) (h0 : 0 ≤ K) (h1 : K ≤ 4398046511104) :
    Calls Tryz.prog 37 #[.slice a x.length c, .int .i64 K] w fun e w' => ∃ r : Int, e = .returned (.int .i64 r) ∧ r = K + x.length ∧ NuMk lo hi w' a x.length K ∧ KeptS lo hi w w' := by
  rcases ho with rfl | ⟨g, cs0, rfl, g1, g2, hh, hs, hm⟩
  · go_enter Tryz.func37, Tryz.ntmps37
    go_wp2_with fail
    go_loop [1, 5] (fun s i => s = .int .i64 K ∧ i = .int .i64 0) (fun _ _ => 0)
    case atStart => exact ⟨rfl, rfl⟩
    case round =>
      obtain ⟨rfl, rfl⟩ := hrel
      go_wp2_with fail
      go_ret
      exact ⟨_, rfl, by simp, .inl rfl, KeptS.refl _ _ _⟩
  · have HH : Hid _ := hh
    clear hh hm
    go_enter Tryz.func37, Tryz.ntmps37
    go_wp2_with fail
    go_loopw [1, 5] (fun s i w' => ∃ (k : Nat) (z : Int) (cs : Array Value), k ≤ x.length ∧ i = .int .i64 k ∧ s = .int .i64 z ∧ z = K + k ∧ Hid (w'.heap[g]? = some (.cells cs 3 (0, 0))) ∧ x.length ≤ cs.size ∧ Hid (∀ i : Nat, i < k → cs[i]? = some (.int .i64 (K + i))) ∧ Hid (KeptS lo hi w w')) (fun _ i _ => x.length - (intOf i).toNat)
    case atStart => exact ⟨0, K, cs0, by omega, rfl, rfl, by omega, HH, hs, fun i h => by omega, KeptS.refl _ _ _⟩
    case round =>
      obtain ⟨k, z, cs, hk, rfl, rfl, hz, HW, hcs, HM, HK⟩ := hrel
      by_cases hlt : k < x.length
      · obtain ⟨u0, hv0⟩ : ∃ v, wr.cell? ⟨g, k, none⟩ = some v := ⟨_, (row_cell HW.out _).trans (Array.getElem?_eq_getElem (by omega))⟩
        have hf0 := row_frozen HW.out k
        have HZ : Hid (z = K + k) := hz
        have hz1 : 0 ≤ z := by omega
        have hz2 : z ≤ 4398048608256 := by omega
        clear hz
        go_wp2_with fail
        refine ⟨⟨k + 1, z + 1, _, by omega, by go_num, by go_num, by have := HZ.out; omega, row_set HW.out _ _, by simpa using hcs, ?_, HK.out.set (p := ⟨g, k, none⟩) g1 g2 _⟩, by simp [intOf]; omega⟩
        intro i hi
        by_cases e : i = k
        · subst e; rw [← HZ.out]; simp [Array.getElem?_setIfInBounds]; omega
        · rw [Array.getElem?_setIfInBounds_ne (by omega)]; exact HM.out i (by omega)
      · obtain rfl : k = x.length := by omega
        have HZ : Hid _ := hz
        clear hz
        go_wp2_with fail
        go_ret
        exact ⟨_, rfl, HZ.out, .inr ⟨g, cs, rfl, g1, g2, HW.out, hcs, HM.out⟩, HK.out⟩
set_option maxHeartbeats 2000000 in
theorem eq_nums (a a' : Option Addr) (c c' : Nat) (x : List Int) (w : World) (hr : NuRow 0 w.heap.size w a x) (hr' : NuRow 0 w.heap.size w a' x) (hl : x.length ≤ 1048576) :
    Calls Tryz.prog 33 #[.slice a x.length c, .slice a' x.length c'] w fun e w' => e = .returned (.bool true) ∧ Below w.heap.size w w' := by
  have HR : Hid _ := hr
  have HR' : Hid _ := hr'
  clear hr hr'
  go_enter Tryz.func33, Tryz.ntmps33
  go_wp2_with fail
  go_loopw [5] (fun i w' => ∃ (k q : Nat), k ≤ x.length ∧ i = .int .i64 k ∧ w' = w.drewN q) (fun i _ => x.length - (intOf i).toNat)
  case atStart => exact ⟨0, 0, by omega, rfl, rfl⟩
  case round =>
    obtain ⟨k, q, hk, rfl, rfl⟩ := hrel
    by_cases hlt : k < x.length
    · obtain ⟨b, o, ha, _, hbl, d0⟩ := NuRow.cells HR.out k hlt
      obtain ⟨b', o', ha', _, hbl', d1⟩ := NuRow.cells HR'.out k hlt
      subst ha ha'
      have hlt' : (k : Int) < x.length := by omega
      go_wp2_with fail
      go_quiet (fail)
      go_wp2_with fail
      exact ⟨⟨k + 1, q + nq, by omega, by go_num, by simp⟩, by simp [intOf]; omega⟩
    · go_wp2_with fail
      go_ret
      exact ⟨rfl, below_drewN (Below.refl _ _) _⟩
end Go.Proofs.YtdchpeifpiglmaaGreatDoor.G
namespace Go.Proofs.YtdchpeifpiglmaaGreatDoor.G
open Go.ChangeShapes Go.WideShapes Go.ChangeAt Go.RowKit
set_option linter.unusedVariables false

section
variable {H : Type} {enc : TypeId × Value → H} {W : World}
theorem Nus_open {fuel : Nat} {cs : List Value} {x : DataW H × List MemPlace} (h : DataW.trod enc Tryz.prog W 0 (fun _ => true) true fuel 25 cs = some x) :
    ∃ a c, ∃ l : List Int, cs = [.slice a l.length c] ∧ l.length ≤ maxLen ∧ NuRow 0 W.heap.size W a l := by
  have ci : Tryz.prog.cellsOf 3 = 1 := by kernel_rfl
  obtain ⟨a, len, cap, rfl, hm, hr⟩ := sl_open Tryz.underlying25 (z := 1) (by kernel_rfl) (by omega) h
  rcases hr with rfl | ⟨n, b, o, rfl, rfl, hb, hx⟩
  · exact ⟨a, cap, [], rfl, Nat.zero_le _, .inl rfl⟩
  · obtain ⟨l, hl, hp⟩ := list_of (p := fun i x => NuAt (rdOf W b) (o + i * 1) x) (fun i hi => by
      obtain ⟨cs', y, hcl, hc, hd⟩ := hx i hi
      obtain ⟨g0, e0, _, _⟩ := DataW.trod_int Tryz.underlying3 hd
      subst e0
      exact ⟨g0, hc 0 (by omega)⟩)
    subst hl
    exact ⟨_, cap, l, rfl, hm, .inr ⟨b, o, rfl, Nat.zero_le _, hb, fun i x hx => hp i x hx⟩⟩
end
set_option maxHeartbeats 1000000 in
theorem sz_nums (a : Option Addr) (c len : Nat) (n : Int) (w : World) (hl : len ≤ maxLen) (h0 : 0 ≤ n) (h1 : n ≤ 1048576) :
    Calls Tryz.prog 18 #[.slice a len c, .int .i64 n] w fun e w' => ∃ m, e = .returned (.int .i64 m) ∧ Sz n m (len ≤ 1048576) ∧ w' = w := by
  unfold maxLen at hl
  by_cases hz : n - len < 0
  · go_enter Tryz.func18, Tryz.ntmps18
    go_wp2_with fail
    go_ret
    exact ⟨-1, rfl, Sz.neg h0, rfl⟩
  · go_enter Tryz.func18, Tryz.ntmps18
    go_wp2_with fail
    go_ret
    exact ⟨_, rfl, ⟨by omega, by omega, fun _ => by omega⟩, rfl⟩
set_option maxHeartbeats 1000000 in
theorem to_nums (a : Option Addr) (c : Nat) (l : List Int) (w : World) (hr : NuRow 0 w.heap.size w a l) (hl : l.length ≤ 1048576) :
    Calls Tryz.prog 25 #[.slice a l.length c] w fun e w' => e = .returned (.slice (some ⟨w.heap.size, 0, none⟩) l.length l.length) ∧ NuOwn w.heap.size w'.heap.size w' (some ⟨w.heap.size, 0, none⟩) l ∧ Below w.heap.size w w' := by
  have HR : Hid (NuRow 0 w.heap.size w a l) := hr
  clear hr
  obtain ⟨i27, hi, hz, hsz, hby⟩ := info_int
  have hmk := run_make (P := Tryz.prog) w 25 3 i27 _ Tryz.underlying25 hi hz .i64 .i64 (l.length : Int) (l.length : Int) (by omega) (by omega) (by rw [hby]; omega) (by omega)
  rw [hsz, Int.toNat_natCast, Nat.mul_one] at hmk
  clear hi hz hsz hby
  have hs0 := size_madeCells (Value.int .i64 0).cells l.length
  generalize madeCells (Value.int .i64 0).cells l.length = cs0 at *
  go_enter Tryz.func25, Tryz.ntmps25
  go_wp2_with fail
  go_loopw [4] (fun i w' => ∃ (k : Nat) (cs : Array Value), k ≤ l.length ∧ i = .int .i64 k ∧ Below w.heap.size w w' ∧ Hid (w'.heap[w.heap.size]? = some (.cells cs 3 (0, 0))) ∧ cs.size = l.length ∧ Hid (∀ i x, i < k → l[i]? = some x → cs[i]? = some (.int .i64 x))) (fun i _ => l.length - (intOf i).toNat)
  case atStart => exact ⟨0, cs0, by omega, rfl, (Below.refl _ _).alloc (Nat.le_refl _) _, heap_alloc_new _ _, hs0, fun i x h => by omega⟩
  case round =>
    obtain ⟨wo, rfl⟩ : ∃ x, x = wr := ⟨_, rfl⟩
    obtain ⟨k, cs, hk, rfl, hb, HH, hcs, HL⟩ := hrel
    clear hmk hs0
    by_cases hlt : k < l.length
    · obtain ⟨b, o, ha, _, hbl, d0⟩ := NuRow.cells (NuRow.keep HR.out (agree hb (Nat.le_refl _))) k hlt
      subst ha
      obtain ⟨v0, hv0⟩ : ∃ v, wo.cell? ⟨w.heap.size, k, none⟩ = some v := ⟨_, (row_cell HH.out _).trans (Array.getElem?_eq_getElem (by omega))⟩
      have hf0 := row_frozen HH.out k
      go_wp2_with fail
      refine ⟨⟨k + 1, _, by omega, by go_num, hb.setCell (Nat.le_refl _) _, row_set HH.out _ _, by simp [hcs], ?_⟩, by simp [intOf]; omega⟩
      intro i x hi hx
      by_cases e : i = k
      · subst e
        rw [List.getElem?_eq_getElem hlt] at hx
        simp only [Option.some.injEq] at hx
        subst hx
        simp [Array.getElem?_setIfInBounds]; omega
      · rw [Array.getElem?_setIfInBounds_ne (by omega)]; exact HL.out i x (by omega) hx
    · go_wp2_with fail
      go_ret
      obtain rfl : k = l.length := by omega
      have hN : w.heap.size < wo.heap.size := (Array.getElem?_eq_some_iff.1 HH.out).1
      exact ⟨rfl, .inr ⟨w.heap.size, cs, rfl, Nat.le_refl _, hN, HH.out, by omega, fun i x hx => HL.out i x (List.getElem?_eq_some_iff.1 hx).1 hx⟩, hb⟩
end Go.Proofs.YtdchpeifpiglmaaGreatDoor.G
