/- Bindings that are right: both sides; what a value is bound to. -/
import Derived.Test.YtkjndghkimnjeaaGreatDocTo
import Derived.Test.YtkjndghkimnjeaaGreatDocEq
import Derived.Maps.OwnSet
namespace Go.Proofs.YtkjndghkimnjeaaGreat
open Go.ChangeShapes Go.WideShapes Go.ChangeAt Go.RowKit
set_option linter.unusedVariables false

section
variable {H : Type} {enc : TypeId × Value → H} {W : World}
theorem bn_cells {n : Nat} {cs : List Value} {x : DataW H × List MemPlace} (h : DataW.trod enc Tryz.prog W 0 (fun _ => true) true n 53 cs = some x) : ∃ v : Ar, cs = [.string v.nm, .int .i64 v.v.k, .int .i64 v.v.n, .string v.v.t] ∧ ArBd maxLen v := by
  have cst : Tryz.prog.cellsOf 9 = 1 := by kernel_rfl
  have cv : Tryz.prog.cellsOf 51 = 3 := by kernel_rfl
  have ca : Tryz.prog.cellsOf 53 = 4 := by kernel_rfl
  obtain ⟨y0, y1, m, _, hlen, h0, h1⟩ := trod_struct2 Tryz.underlying53 h
  rw [ca] at hlen
  obtain ⟨v0, v1, v2, v3, rfl⟩ := list4 hlen
  obtain ⟨s, e0, _, hs⟩ := DataW.trod_string Tryz.underlying9 h0
  obtain ⟨v, e1, hv⟩ := va_cells h1
  simp [cst, cv] at e0 e1
  obtain ⟨rfl, rfl, rfl⟩ := e1
  subst e0
  exact ⟨⟨s, v⟩, rfl, hs, hv⟩
theorem binds_open {fuel : Nat} {cs : List Value} {x : DataW H × List MemPlace} (h : DataW.trod enc Tryz.prog W 0 (fun _ => true) true fuel 25 cs = some x) :
    ∃ a c, ∃ l : List Ar, cs = [.slice a l.length c] ∧ l.length ≤ maxLen ∧ (∀ x ∈ l, ArBd maxLen x) ∧ ArRow 0 W.heap.size W a l := by
  obtain ⟨a, len, cap, rfl, hcap, hm, hr⟩ := sl_open Tryz.underlying25 (z := 4) (by kernel_rfl) (by omega) h
  rcases hr with rfl | ⟨n, b, o, rfl, rfl, hb, hx⟩
  · exact ⟨a, cap, [], rfl, Nat.zero_le _, by simp, .inl rfl⟩
  · obtain ⟨l, hl, hp⟩ := list_of (p := fun i x => ArAt (rdOf W b) (o + i * 4) x ∧ ArBd maxLen x) (fun i hi => by
      obtain ⟨cs', y, hcl, hc, hd⟩ := hx i hi
      obtain ⟨v, rfl, hv⟩ := bn_cells hd
      exact ⟨v, ⟨hc 0 (by omega), hc 1 (by omega), hc 2 (by omega), hc 3 (by omega)⟩, hv⟩)
    subst hl
    refine ⟨_, cap, l, rfl, hm, fun x hx => ?_, .inr ⟨b, o, rfl, Nat.zero_le _, hb, fun i x hx => (hp i x hx).1⟩⟩
    obtain ⟨i, hi, rfl⟩ := List.getElem_of_mem hx
    exact (hp i _ (List.getElem?_eq_getElem hi)).2
end
set_option maxHeartbeats 1000000 in
theorem sz_bind (x : Ar) (n : Int) (w : World) (hs : ArBd maxLen x) (h0 : 0 ≤ n) (h1 : n ≤ 1048576) :
    Calls Tryz.prog 20 #[.agg #[.string x.nm, .int .i64 x.v.k, .int .i64 x.v.n, .string x.v.t], .int .i64 n] w fun e w' => ∃ m, e = .returned (.int .i64 m) ∧ Sz n m (ArBd 1048576 x) ∧ Below w.heap.size w w' := by
  obtain ⟨nm, a, b, s⟩ := x
  obtain ⟨hs1, hs2⟩ := hs
  simp only at hs1 hs2 ⊢
  have hs1' := hs1
  unfold maxLen at hs1'
  by_cases h : n - nm.size < 0
  · go_enter Tryz.func20, Tryz.ntmps20
    go_wp2_with fail
    go_ret
    exact ⟨-1, rfl, Sz.neg h0, (Below.refl _ _).alloc (Nat.le_refl _) _⟩
  · go_enter Tryz.func20, Tryz.ntmps20
    go_wp2_with fail
    refine (sz_val ⟨a, b, s⟩ _ _ hs2 (by omega) (by omega)).mono ?_
    rintro e w1 ⟨m, rfl, hm, hb1⟩
    have HM : Hid (Sz n m (ArBd 1048576 ⟨nm, a, b, s⟩)) := hm.mono (by omega) (fun h => ⟨by simp only; omega, h⟩)
    clear hm
    have q1 : Below w.heap.size w w1 := ((Below.refl _ _).alloc (Nat.le_refl _) _).trans (hb1.mono (by simp))
    by_cases hneg : m < 0
    · go_wp2_with fail
      go_ret
      exact ⟨-1, rfl, Sz.neg h0, q1⟩
    · go_wp2_with fail
      go_ret
      exact ⟨m, rfl, HM.out, q1⟩
set_option maxHeartbeats 1000000 in
theorem sz_binds (a : Option Addr) (c : Nat) (l : List Ar) (n : Int) (w : World) (hr : ArRow 0 w.heap.size w a l) (hl : l.length ≤ maxLen) (ht : ∀ x ∈ l, ArBd maxLen x) (h0 : 0 ≤ n) (h1 : n ≤ 1048576) :
    Calls Tryz.prog 10 #[.slice a l.length c, .int .i64 n] w fun e w' => ∃ m, e = .returned (.int .i64 m) ∧ Sz n m (l.length ≤ 1048576 ∧ ∀ x ∈ l, ArBd 1048576 x) ∧ Below w.heap.size w w' := by
  unfold maxLen at hl
  by_cases hz : n - l.length < 0
  · go_enter Tryz.func10, Tryz.ntmps10
    go_wp2_with fail
    go_ret
    exact ⟨-1, rfl, Sz.neg h0, Below.refl _ _⟩
  · have HR : Hid (ArRow 0 w.heap.size w a l) := hr
    have HT : Hid (∀ x ∈ l, ArBd maxLen x) := ht
    clear hr ht
    go_enter Tryz.func10, Tryz.ntmps10
    go_wp2_with fail
    go_loopw [1, 5] (fun r i w' => ∃ (k : Nat) (m : Int), k ≤ l.length ∧ i = .int .i64 k ∧ r = .int .i64 m ∧ 0 ≤ m ∧ m ≤ n ∧ Below w.heap.size w w' ∧ Hid (∀ x ∈ l.take k, ArBd 1048576 x)) (fun _ i _ => l.length - (intOf i).toNat)
    case atStart => exact ⟨0, _, by omega, rfl, rfl, by omega, by omega, Below.refl _ _, by simp [Hid]⟩
    case round =>
      rename_i wr
      obtain ⟨k, m, hk, rfl, rfl, hm0, hm1, hb, HK⟩ := hrel
      by_cases hlt : k < l.length
      · obtain ⟨b, o, ha, _, hbl, c0, c1, c2, c3⟩ := (HR.out.keep (Below.agree hb (Nat.le_refl _))).cells_ar k hlt
        subst ha
        have HX : Hid (ArBd maxLen l[k]) := HT.out l[k] (List.getElem_mem hlt)
        go_wp2_with fail
        refine (sz_bind l[k] m _ HX.out hm0 (by omega)).mono ?_
        rintro e w1 ⟨m1, rfl, hm, hb1⟩
        have HM : Hid (Sz m m1 (ArBd 1048576 l[k])) := hm
        clear hm c0 c1 c2 c3
        by_cases hneg : m1 < 0
        · go_wp2_with fail
          go_ret
          exact ⟨-1, rfl, Sz.neg h0, hb.trans (hb1.mono hb.size)⟩
        · go_wp2_with fail
          go_roundw
          case rel => exact ⟨k + 1, m1, by omega, by go_num, rfl, by omega, by have := HM.out.1; omega, hb.trans (hb1.mono hb.size), all_take hlt HK.out (HM.out.2.2 (by omega))⟩
          case measure => simp [intOf]; omega
      · go_wp2_with fail
        go_ret
        rw [List.take_of_length_le (by omega)] at HK
        exact ⟨m, rfl, ⟨hm1, by omega, fun _ => ⟨by omega, HK.out⟩⟩, hb⟩
set_option maxHeartbeats 1000000 in
theorem to_bind (x : Ar) (w : World) :
    Calls Tryz.prog 27 #[.agg #[.string x.nm, .int .i64 x.v.k, .int .i64 x.v.n, .string x.v.t]] w fun e w' => e = .returned (.agg #[.string x.nm, .int .i64 x.v.k, .int .i64 x.v.n, .string x.v.t]) ∧ Below w.heap.size w w' := by
  go_enter Tryz.func27, Tryz.ntmps27
  go_wp2_with fail
  refine (to_val _ _ _ _).mono ?_
  rintro e w1 ⟨rfl, hb1⟩
  obtain ⟨hc1, hf1⟩ := bcell hb1
  have k1 := fun o => hc1 (w.heap.size + 1) o (by simp)
  have k2 := fun o => hc1 (w.heap.size + 1 + 1) o (by simp)
  have hz1 := hb1.size
  have q1 : Below w.heap.size w w1 := by
    refine Below.trans ?_ (hb1.mono (by simp; omega))
    repeat (first | exact Below.refl _ _ | refine Below.setCell ?_ (by simp <;> omega) _ | refine Below.alloc ?_ (by simp <;> omega) _)
  go_wp2_with fail
  refine bodyPost_ret (v := .agg #[.string x.nm, .int .i64 x.v.k, .int .i64 x.v.n, .string x.v.t]) (by simp [results, Tryz.results27, go_sem, k1]) rfl ⟨rfl, ?_⟩
  repeat (refine Below.setCell ?_ (by simp <;> omega) _)
  exact q1
set_option maxRecDepth 100000 in
theorem info_bn : ∃ i, Tryz.prog.info? 64 = some i ∧ i.zero = some (.agg #[.string ⟨#[]⟩, .int .i64 0, .int .i64 0, .string ⟨#[]⟩]) ∧ i.size = 4 ∧ i.bytes = 48 := by
  refine ⟨_, rfl, ?_, ?_, ?_⟩ <;> kernel_rfl
set_option maxHeartbeats 1000000 in
theorem to_binds (a : Option Addr) (c : Nat) (l : List Ar) (w : World) (hr : ArRow 0 w.heap.size w a l) (hl : l.length ≤ 1048576) :
    Calls Tryz.prog 14 #[.slice a l.length c] w fun e w' => ∃ a' c', e = .returned (.slice a' l.length c') ∧ ArRow w.heap.size w'.heap.size w' a' l ∧ Below w.heap.size w w' := by
  have HR : Hid (ArRow 0 w.heap.size w a l) := hr
  clear hr
  obtain ⟨i27, hi, hz, hsz, hby⟩ := info_bn
  have hmk := run_make (P := Tryz.prog) w 34 64 i27 _ Tryz.underlying34 hi hz .i64 .i64 (l.length : Int) (l.length : Int) (by omega) (by omega) (by rw [hby]; omega) (by omega)
  rw [hsz, Int.toNat_natCast] at hmk
  clear hi hz hsz hby
  have hs0 := size_madeCells (Value.agg #[.string ⟨#[]⟩, .int .i64 0, .int .i64 0, .string ⟨#[]⟩]).cells (l.length * 4)
  generalize madeCells (Value.agg #[.string ⟨#[]⟩, .int .i64 0, .int .i64 0, .string ⟨#[]⟩]).cells (l.length * 4) = cs0 at *
  go_enter Tryz.func14, Tryz.ntmps14
  go_wp2_with fail
  go_loopw [4] (fun i w' => ∃ (k : Nat) (cs : Array Value), k ≤ l.length ∧ i = .int .i64 k ∧ Below w.heap.size w w' ∧ Hid (w'.heap[w.heap.size]? = some (.cells cs 64 (0, 0))) ∧ cs.size = l.length * 4 ∧ Hid (LaidR ArAt 4 cs l k)) (fun i _ => l.length - (intOf i).toNat)
  case atStart => exact ⟨0, cs0, by omega, rfl, (Below.refl _ _).alloc (Nat.le_refl _) _, heap_alloc_new _ _, hs0, fun i x h => by omega⟩
  case round =>
    rename_i wr
    obtain ⟨k, cs, hk, rfl, hb, HH, hcs, HL⟩ := hrel
    clear hmk hs0
    by_cases hlt : k < l.length
    · obtain ⟨b, o, ha, _, hbl, c0, c1, c2, c3⟩ := (HR.out.keep (Below.agree hb (Nat.le_refl _))).cells_ar k hlt
      subst ha
      go_wp2_with fail
      refine (to_bind l[k] _).mono ?_
      rintro e w1 ⟨rfl, hb1⟩
      have hN : w.heap.size < wr.heap.size := (Array.getElem?_eq_some_iff.1 HH.out).1
      have HH1 : Hid (w1.heap[w.heap.size]? = some (.cells cs 64 (0, 0))) := (hb1.block _ hN).trans HH.out
      obtain ⟨v0, hv0⟩ : ∃ v, w1.cell? ⟨w.heap.size, k * 4, none⟩ = some v := ⟨_, (row_cell HH1.out _).trans (Array.getElem?_eq_getElem (by omega))⟩
      obtain ⟨v1, hv1⟩ : ∃ v, w1.cell? ⟨w.heap.size, k * 4 + 1, none⟩ = some v := ⟨_, (row_cell HH1.out _).trans (Array.getElem?_eq_getElem (by omega))⟩
      obtain ⟨v2, hv2⟩ : ∃ v, w1.cell? ⟨w.heap.size, k * 4 + 2, none⟩ = some v := ⟨_, (row_cell HH1.out _).trans (Array.getElem?_eq_getElem (by omega))⟩
      obtain ⟨v3, hv3⟩ : ∃ v, w1.cell? ⟨w.heap.size, k * 4 + 3, none⟩ = some v := ⟨_, (row_cell HH1.out _).trans (Array.getElem?_eq_getElem (by omega))⟩
      have hf0 := row_frozen HH1.out (k * 4)
      have hf1 := row_frozen HH1.out (k * 4 + 1)
      have hf2 := row_frozen HH1.out (k * 4 + 2)
      have hf3 := row_frozen HH1.out (k * 4 + 3)
      clear c0 c1 c2 c3
      have qb := hb.trans (hb1.mono hb.size)
      go_wp2_with fail
      exact ⟨⟨k + 1, put4 cs (k * 4) _ _ _ _, by omega, by go_num, (((qb.setCell (Nat.le_refl _) _).setCell (Nat.le_refl _) _).setCell (Nat.le_refl _) _).setCell (Nat.le_refl _) _, row_set (row_set (row_set (row_set HH1.out _ _) _ _) _ _) _ _, by rw [put4_size]; exact hcs, HL.out.put_ar hlt hcs⟩, by simp [intOf]; omega⟩
    · go_wp2_with fail
      go_ret
      obtain rfl : k = l.length := by omega
      exact ⟨_, _, rfl, LaidR.row HH.out HL.out (Nat.le_refl _), hb⟩
set_option maxHeartbeats 1000000 in
theorem eq_bind (x : Ar) (w : World) :
    Calls Tryz.prog 34 #[.agg #[.string x.nm, .int .i64 x.v.k, .int .i64 x.v.n, .string x.v.t], .agg #[.string x.nm, .int .i64 x.v.k, .int .i64 x.v.n, .string x.v.t]] w fun e w' => e = .returned (.bool true) ∧ Below w.heap.size w w' := by
  go_enter Tryz.func34, Tryz.ntmps34
  go_wp2_with fail
  refine (eq_val _ _ _ _).mono ?_
  rintro e w1 ⟨rfl, hb1⟩
  have q1 : Below w.heap.size w w1 := by
    refine Below.trans ?_ (hb1.mono (by simp <;> omega))
    repeat (first | exact Below.refl _ _ | refine Below.alloc ?_ (by simp) _)
  go_wp2_with fail
  go_ret
  exact ⟨rfl, q1⟩
set_option maxHeartbeats 1000000 in
theorem eq_binds (a a' : Option Addr) (c c' : Nat) (l : List Ar) (w : World) (hr : ArRow 0 w.heap.size w a l) (hr' : ArRow 0 w.heap.size w a' l) (hl : l.length ≤ 1048576) :
    Calls Tryz.prog 18 #[.slice a l.length c, .slice a' l.length c'] w fun e w' => e = .returned (.bool true) ∧ Below w.heap.size w w' := by
  have HR : Hid (ArRow 0 w.heap.size w a l) := hr
  have HR' : Hid (ArRow 0 w.heap.size w a' l) := hr'
  clear hr hr'
  go_enter Tryz.func18, Tryz.ntmps18
  go_wp2_with fail
  go_loopw [5] (fun i w' => ∃ (k : Nat), k ≤ l.length ∧ i = .int .i64 k ∧ Below w.heap.size w w') (fun i _ => l.length - (intOf i).toNat)
  case atStart => exact ⟨0, by omega, rfl, Below.refl _ _⟩
  case round =>
    rename_i wr
    obtain ⟨k, hk, rfl, hb⟩ := hrel
    by_cases hlt : k < l.length
    · obtain ⟨b, o, ha, _, hbl, c0, c1, c2, c3⟩ := (Row.cells_ar (HR.out.keep (Below.agree hb (Nat.le_refl _))) k hlt)
      obtain ⟨b', o', ha', _, hbl', d0, d1, d2, d3⟩ := (Row.cells_ar (HR'.out.keep (Below.agree hb (Nat.le_refl _))) k hlt)
      subst ha
      subst ha'
      have hlt' : (k : Int) < l.length := by omega
      go_wp2_with fail
      go_region_with (go_at_call 34; refine (eq_bind l[k] _).mono ?_; rintro e w1 ⟨rfl, hb1⟩)
      all_goals
        go_wp2_with fail
        exact ⟨⟨k + 1, by omega, by go_num, hb.drew.trans (hb1.mono hb.size)⟩, by simp [intOf]; omega⟩
    · go_wp2_with fail
      go_ret
      exact ⟨rfl, hb⟩
end Go.Proofs.YtkjndghkimnjeaaGreat
namespace Go.Proofs.YtkjndghkimnjeaaGreat.B
open Go.ChangeShapes Go.WideShapes Go.ChangeAt Go.RowKit Go.Maps
open Go.WideMaps (keyOf_string_mk)
set_option linter.unusedVariables false

def seen (ns : List ByteArray) (s : ByteArray) : Bool := ns.any fun t => t.toList == s.toList
/-- All are names, and none comes twice. -/
def OkN (ns : List ByteArray) : Prop := ∀ j (h : j < ns.length), nameB ns[j] = true ∧ seen (ns.take j) ns[j] = false
/-- r is the first place of s, or -1. -/
def Fi (ns : List ByteArray) (s : ByteArray) (r : Int) : Prop := (r = -1 ∧ seen ns s = false) ∨ ∃ j, ∃ h : j < ns.length, r = j ∧ (ns[j].toList == s.toList) = true ∧ seen (ns.take j) s = false
theorem seen_take {ns : List ByteArray} {s : ByteArray} {k : Nat} (hk : k < ns.length) : seen (ns.take (k + 1)) s = (seen (ns.take k) s || (ns[k].toList == s.toList)) := by
  unfold seen; rw [List.take_succ_eq_append_getElem hk, List.any_append]; simp
theorem seen_of {ns : List ByteArray} {s : ByteArray} {k j : Nat} (hk : k < ns.length) (hj : k < j) (h : (ns[k].toList == s.toList) = true) : seen (ns.take j) s = true := by
  unfold seen
  rw [List.any_eq_true]
  exact ⟨ns[k], by rw [List.mem_take_iff_getElem]; exact ⟨k, by omega, rfl⟩, h⟩
theorem seen_of' {ns : List ByteArray} {s : ByteArray} {k : Nat} (hk : k < ns.length) (h : (ns[k].toList == s.toList) = true) : seen ns s = true := by
  unfold seen
  rw [List.any_eq_true]
  exact ⟨ns[k], List.getElem_mem hk, h⟩
theorem Fi.neg {ns : List ByteArray} {s : ByteArray} {r : Int} (h : Fi ns s r) : (r < 0 ∧ seen ns s = false) ∨ (¬ r < 0 ∧ seen ns s = true) := by
  rcases h with ⟨rfl, h⟩ | ⟨j, hj, rfl, h1, h2⟩
  · exact .inl ⟨by omega, h⟩
  · exact .inr ⟨by omega, seen_of' hj h1⟩
theorem Fi.at_ {ns : List ByteArray} {i : Nat} (hi : i < ns.length) {r : Int} (h : Fi ns ns[i] r) : (r = i ∧ seen (ns.take i) ns[i] = false) ∨ (r ≠ i ∧ seen (ns.take i) ns[i] = true) := by
  rcases h with ⟨rfl, h⟩ | ⟨j, hj, rfl, h1, h2⟩
  · have := seen_of' hi (s := ns[i]) (by simp)
    rw [h] at this; cases this
  · by_cases hji : j = i
    · subst hji; exact .inl ⟨rfl, h2⟩
    · by_cases hlt : j < i
      · exact .inr ⟨by omega, seen_of hj hlt h1⟩
      · have := seen_of (s := ns[i]) hi (show i < j by omega) (by simp)
        rw [h2] at this; cases this
theorem OkN.next {ns : List ByteArray} {k : Nat} (hk : k < ns.length) (h : ∀ j (hj : j < ns.length), j < k → nameB ns[j] = true ∧ seen (ns.take j) ns[j] = false) (h1 : nameB ns[k] = true) (h2 : seen (ns.take k) ns[k] = false) :
    ∀ j (hj : j < ns.length), j < k + 1 → nameB ns[j] = true ∧ seen (ns.take j) ns[j] = false := by
  intro j hj hlt
  by_cases hjk : j = k
  · subst hjk; exact ⟨h1, h2⟩
  · exact h j hj (by omega)

/-- A map that holds each of some names at its place. -/
def Held (w : World) (B : Nat) (ns : List ByteArray) : Prop := ∃ D : DataW Unit, w.ownsMap Tryz.prog 9 (plainElem Tryz.prog 3) B ns.length D ∧
  (∀ s : ByteArray, Maps.has D (.string s.toList) = seen ns s) ∧ ∀ i (h : i < ns.length), D.atKey (.string ns[i].toList) (.lit (.int .i64 0)) = .lit (.int .i64 i)
theorem law9 : Keyed Tryz.prog 9 := string_keyed Tryz.underlying9
theorem zero3 (w : World) : (zeroValue 3).run Tryz.prog w = .ok (.int .i64 0) w := by kernel_rfl
theorem make_map (n : Int) (w : World) : (Instr.makeMap 101 (some (.int .i64 n))).run Tryz.prog w = .ok (.map (some w.heap.size)) (w.alloc (.map #[] 0)) := by kernel_rfl
theorem key_of {s : ByteArray} (hs : s.size ≤ maxLen) : keyOf Tryz.prog 9 (.string s) = some (.string s.toList) := by
  rw [ByteArray.toList_eq]; exact keyOf_string_mk Tryz.underlying9 hs
theorem Held.lt {w : World} {B : Nat} {ns : List ByteArray} (h : Held w B ns) : B < w.heap.size := by
  obtain ⟨D, h, _⟩ := h
  exact h.lt
theorem Held.keep {w w' : World} {B C : Nat} {ns : List ByteArray} (h : Held w B ns) (hb : Below C w w') (hB : B < C) : Held w' B ns := by
  obtain ⟨D, ⟨es, clock, h1, h2⟩, h3⟩ := h
  exact ⟨D, ⟨es, clock, (hb.block B hB).trans h1, h2⟩, h3⟩
theorem Held.none (w : World) : Held (w.alloc (.map #[] 0)) w.heap.size [] :=
  ⟨.map [], World.ownsMap_made _ _ _ _, fun s => rfl, fun i h => by simp at h⟩
theorem key_ne {s t : ByteArray} (h : (t.toList == s.toList) = false) : Lit.string s.toList ≠ Lit.string t.toList := by
  intro e
  simp only [Lit.string.injEq] at e
  rw [e] at h; simp at h
theorem Held.put {w' : World} {B : Nat} {ns : List ByteArray} {t : ByteArray} {D : DataW Unit} (hD : IsMap D) (hn : seen ns t = false)
    (h1 : ∀ s : ByteArray, Maps.has D (.string s.toList) = seen ns s) (h2 : ∀ i (h : i < ns.length), D.atKey (.string ns[i].toList) (.lit (.int .i64 0)) = .lit (.int .i64 i))
    (h : w'.ownsMap Tryz.prog 9 (plainElem Tryz.prog 3) B (ns.length + 1) (D.put (.string t.toList) (.lit (.int .i64 ns.length)))) : Held w' B (ns ++ [t]) := by
  refine ⟨_, by rw [List.length_append]; exact h, fun s => ?_, fun i hi => ?_⟩
  · by_cases hs : (t.toList == s.toList) = true
    · have e : s.toList = t.toList := by simpa using (beq_iff_eq.1 hs).symm
      rw [e, has_put_same (k := .string t.toList) hD trivial]
      unfold seen; rw [List.any_append]; simp [e]
    · have hs : (t.toList == s.toList) = false := by simpa using hs
      rw [has_put_other (key_ne hs), h1]
      unfold seen; rw [List.any_append]; simp [hs]
  · by_cases hlt : i < ns.length
    · rw [List.getElem_append_left hlt]
      have hne : (t.toList == ns[i].toList) = false := by
        cases hc : (t.toList == ns[i].toList)
        · rfl
        · have := seen_of' hlt (s := t) (by rw [beq_iff_eq] at hc; simp [hc])
          rw [hn] at this; cases this
      rw [atKey_put_other (key_ne hne), h2 i hlt]
    · have hi' : i = ns.length := by simp at hi; omega
      subst hi'
      rw [List.getElem_append_right (Nat.le_refl _)]
      simp only [Nat.sub_self, List.getElem_cons_zero]
      rw [atKey_put_same (k := .string t.toList) hD trivial]

set_option maxHeartbeats 1000000 in
theorem impl_has (B : Nat) (ns : List ByteArray) (s : ByteArray) (w : World) (h : Held w B ns) (hs : s.size ≤ maxLen) :
    Calls Tryz.prog 90 #[.map (some B), .string s] w fun e w' => e = .returned (.bool (seen ns s)) ∧ Below w.heap.size w w' := by
  obtain ⟨D, hown, hh, _⟩ := h
  have hkey := key_of hs
  have HN : Hid (Maps.has D (.string s.toList) = seen ns s) := hh s
  clear hh
  go_enter Tryz.func90, Tryz.ntmps90
  go_wp2_with (first
    | (at_lookup; refine wpList_lookup_own_ok_int _ rfl _ _ 101 rfl 9 3 .i64 law9 Tryz.underlying101 Tryz.underlying3 (zero3 _) B ns.length _ rfl hown _ _ rfl hkey ?_; intro c hat hwc)
    | go_in)
  go_ret
  exact ⟨ret_bool HN.out, by repeat (first | exact Below.refl _ _ | refine Below.alloc ?_ (by first | omega | (simp <;> omega)) _)⟩

instance (ns : List ByteArray) : Decidable (OkN ns) := by unfold OkN; infer_instance
set_option maxHeartbeats 1000000 in
theorem impl_nm_Bn (x : Ar) (w : World) :
    Calls Tryz.prog 53 #[.agg #[.string x.nm, .int .i64 x.v.k, .int .i64 x.v.n, .string x.v.t]] w fun e w' => e = .returned (.string x.nm) ∧ Below w.heap.size w w' := by
  go_enter Tryz.func53, Tryz.ntmps53
  go_wp2_with fail
  go_ret
  exact ⟨rfl, (Below.refl _ _).alloc (Nat.le_refl _) _⟩
set_option maxHeartbeats 2000000 in
set_option maxRecDepth 40000 in
theorem impl_places_Bn (a : Option Addr) (c : Nat) (l : List Ar) (w : World) (hr : ArRow 0 w.heap.size w a l) (hl : l.length ≤ 1048576) (ht : ∀ x ∈ l, x.nm.size ≤ 1048576) :
    Calls Tryz.prog 52 #[.slice a l.length c, .func (.func 53) #[] #[]] w fun e w' => Below w.heap.size w w' ∧
      ((∃ B, e = .returned (.tuple #[.map (some B), .bool true]) ∧ OkN (l.map Ar.nm) ∧ w.heap.size ≤ B ∧ Held w' B (l.map Ar.nm)) ∨ (e = .returned (.tuple #[.map none, .bool false]) ∧ ¬ OkN (l.map Ar.nm))) := by
  have hmm := make_map l.length w
  have HR : Hid (ArRow 0 w.heap.size w a l) := hr
  have HT : Hid (∀ x ∈ l, x.nm.size ≤ 1048576) := ht
  clear hr ht
  go_enter Tryz.func52, Tryz.ntmps52
  go_wp2_with fail
  clear hmm
  go_loopw [15] (fun i w' => ∃ (k : Nat), k ≤ l.length ∧ i = .int .i64 k ∧ Below w.heap.size w w' ∧ Hid (Held w' w.heap.size ((l.map Ar.nm).take k)) ∧ Hid (∀ j (hj : j < (l.map Ar.nm).length), j < k → nameB (l.map Ar.nm)[j] = true ∧ seen ((l.map Ar.nm).take j) (l.map Ar.nm)[j] = false)) (fun i _ => l.length - (intOf i).toNat)
  case atStart => exact ⟨0, by omega, rfl, (Below.refl _ _).alloc (Nat.le_refl _) _, Held.none w, fun j hj h => by omega⟩
  case round =>
    rename_i wr
    obtain ⟨k, hk, rfl, hb, HM, HA⟩ := hrel
    by_cases hlt : k < l.length
    · obtain ⟨b, o, ha, _, hbl, d0, d1, d2, d3⟩ := (HR.out.keep (Below.agree hb (Nat.le_refl _))).cells_ar k hlt
      subst ha
      have hlt2 : k < (l.map Ar.nm).length := by simpa using hlt
      have sx : l[k].nm.size ≤ maxLen := by have := HT.out l[k] (List.getElem_mem hlt); unfold maxLen; omega
      have hN := HM.out.lt
      have HE : Hid ((l.map Ar.nm)[k] = l[k].nm) := by simp [Hid]
      go_wp2_with fail
      refine (impl_nm_Bn l[k] _).mono ?_
      rintro e w1 ⟨rfl, hb1⟩
      have p1 : Below wr.heap.size wr w1 := by
        refine Below.trans ?_ (hb1.mono (by first | omega | (simp <;> omega)))
        repeat (first | exact Below.refl _ _ | refine Below.setCell ?_ (by first | omega | (simp <;> omega)) _ | refine Below.alloc ?_ (by first | omega | (simp <;> omega)) _)
      have P1 : Hid _ := p1
      clear hb1 p1
      go_wp2_with fail
      refine (impl_nameOK l[k].nm _ sx).mono ?_
      cases hm : nameB l[k].nm
      · rintro e w2 ⟨rfl, hb2⟩
        have HN : Hid (¬ OkN (l.map Ar.nm)) := fun h => by have := (h k hlt2).1; rw [HE.out, hm] at this; cases this
        go_wp2_with fail
        go_ret2
        exact ⟨hb.trans ((P1.out.trans (hb2.mono P1.out.size)).mono hb.size), .inr ⟨rfl, HN.out⟩⟩
      rintro e w2 ⟨rfl, hb2⟩
      have P2 : Hid (Below wr.heap.size wr w2) := P1.out.trans (hb2.mono P1.out.size)
      have HM2 : Hid (Held w2 w.heap.size ((l.map Ar.nm).take k)) := HM.out.keep P2.out hN
      clear hb2
      go_wp2_with fail
      refine (impl_has w.heap.size ((l.map Ar.nm).take k) l[k].nm _ HM2.out sx).mono ?_
      cases hs : seen ((l.map Ar.nm).take k) l[k].nm
      case true =>
        rintro e w3 ⟨rfl, hb3⟩
        have HN : Hid (¬ OkN (l.map Ar.nm)) := fun h => by have := (h k hlt2).2; rw [HE.out, hs] at this; cases this
        go_wp2_with fail
        go_ret2
        exact ⟨hb.trans ((P2.out.trans (hb3.mono P2.out.size)).mono hb.size), .inr ⟨rfl, HN.out⟩⟩
      rintro e w3 ⟨rfl, hb3⟩
      have P3 : Hid (Below wr.heap.size wr w3) := P2.out.trans (hb3.mono P2.out.size)
      have HM3 : Hid (Held w3 w.heap.size ((l.map Ar.nm).take k)) := HM2.out.keep hb3 HM2.out.lt
      clear hb3
      obtain ⟨D, hown, h1, h2⟩ := HM3.out
      have htl : ((l.map Ar.nm).take k).length = k := by simp; omega
      rw [htl] at hown
      have H1 : Hid _ := h1
      have H2 : Hid _ := h2
      have hkey := key_of sx
      clear h1 h2
      go_wp2_with (first
        | (at_mapUpdate; refine wpList_mapUpdate_own _ rfl _ _ _ 101 rfl 9 3 law9 Tryz.underlying101 _ w.heap.size k _ rfl hown (by unfold maxLen; omega) _ _ _ rfl rfl hkey _ [] (plainElem_int Tryz.underlying3 (WalkArith.wf_i64 (by omega))) ?_; intro w4 hown4 hgrow4)
        | go_in)
      have HM4 : Hid (Held w4 w.heap.size ((l.map Ar.nm).take (k + 1))) := by
        have := Held.put (w' := w4) (B := w.heap.size) (t := l[k].nm) (ns := (l.map Ar.nm).take k) (hown.isMap) hs H1.out H2.out (by rw [htl]; exact hown4)
        rw [List.take_succ_eq_append_getElem hlt2, HE.out]; exact this
      have q4 : Hid (Below w.heap.size w w4) := (hb.trans (P3.out.mono hb.size)).grown hgrow4 (hb.trans (P3.out.mono hb.size)).size (fun j hj => by cases hj; exact Nat.le_refl _)
      have HA2 : Hid _ := OkN.next hlt2 HA.out (by rw [HE.out]; exact hm) (by rw [HE.out]; exact hs)
      go_roundw
      case rel => exact ⟨k + 1, by omega, by go_num, q4.out, HM4, HA2⟩
      case measure => simp [intOf]; omega
    · have HN : Hid (OkN (l.map Ar.nm) ∧ Held wr w.heap.size (l.map Ar.nm)) := by
        have h1 := HM.out
        rw [List.take_of_length_le (by simpa using hlt)] at h1
        exact ⟨fun j hj => HA.out j hj (by simp at hj; omega), h1⟩
      go_wp2_with fail
      go_ret2
      exact ⟨hb, .inl ⟨_, rfl, HN.out.1, Nat.le_refl _, HN.out.2⟩⟩

end Go.Proofs.YtkjndghkimnjeaaGreat.B
namespace Go.Proofs.YtkjndghkimnjeaaGreat
open Go.ChangeShapes Go.WideShapes Go.ChangeAt Go.RowKit
open Go.Proofs.YtkjndghkimnjeaaGreat.B (OkN seen_take seen_of)
set_option linter.unusedVariables false

def bnB (x : Ar) : Bool := valB x.v && !(x.v.k == 4)
def bindB (l : List Ar) : Bool := decide (l.length ≤ 8) && l.all bnB && decide (OkN (l.map Ar.nm))
theorem bind_many {l : List Ar} (h : ¬ l.length ≤ 8) : bindB l = false := by
  unfold bindB; rw [decide_eq_false h]; rfl
theorem bind_not {l : List Ar} {k : Nat} (hk : k < l.length) (h : bnB l[k] = false) : bindB l = false := by
  unfold bindB
  have : l.all bnB = false := by rw [List.all_eq_false]; exact ⟨l[k], List.getElem_mem hk, by simp [h]⟩
  rw [this]; simp
theorem bind_name {l : List Ar} (h : ¬ OkN (l.map Ar.nm)) : bindB l = false := by
  unfold bindB; rw [decide_eq_false h]; simp
theorem bind_yes {l : List Ar} (h1 : l.length ≤ 8) (h2 : l.all bnB = true) (h3 : OkN (l.map Ar.nm)) : bindB l = true := by
  unfold bindB; rw [decide_eq_true h1, h2, decide_eq_true h3]; rfl
theorem all_takeB {α : Type} {p : α → Bool} {l : List α} {k : Nat} (hk : k < l.length) (h : (l.take k).all p = true) (h2 : p l[k] = true) : (l.take (k + 1)).all p = true := by
  rw [List.take_succ_eq_append_getElem hk, List.all_append, h]; simp [h2]

/-- The first k are right. -/
def BnTo (l : List Ar) (k : Nat) : Prop := (l.take k).all bnB = true ∧ ∀ j (hj : j < (l.map Ar.nm).length), j < k → nameB (l.map Ar.nm)[j] = true ∧ B.seen ((l.map Ar.nm).take j) (l.map Ar.nm)[j] = false
theorem BnTo.next {l : List Ar} {k : Nat} (h : BnTo l k) (hk : k < l.length) (h1 : bnB l[k] = true) (h2 : nameB l[k].nm = true) (h3 : B.seen ((l.map Ar.nm).take k) l[k].nm = false) : BnTo l (k + 1) := by
  have hk2 : k < (l.map Ar.nm).length := by simpa using hk
  have he : (l.map Ar.nm)[k] = l[k].nm := by simp
  exact ⟨all_takeB hk h.1 h1, B.OkN.next hk2 h.2 (by rw [he]; exact h2) (by rw [he]; exact h3)⟩
theorem BnTo.whole {l : List Ar} {k : Nat} (h : BnTo l k) (hk : ¬ k < l.length) : l.all bnB = true ∧ OkN (l.map Ar.nm) := by
  obtain ⟨h1, h2⟩ := h
  rw [List.take_of_length_le (by omega)] at h1
  exact ⟨h1, fun j hj => h2 j hj (by simp at hj; omega)⟩

set_option maxHeartbeats 2000000 in
theorem spec_binds (a : Option Addr) (c : Nat) (l : List Ar) (w : World) (hr : ArRow 0 w.heap.size w a l) (hl : l.length ≤ 1048576) (ht : ∀ x ∈ l, ArBd 1048576 x) :
    Calls Tryz.prog 22 #[.slice a l.length c] w fun e w' => e = .returned (.bool (bindB l)) ∧ Below w.heap.size w w' := by
  have HR : Hid (ArRow 0 w.heap.size w a l) := hr
  have HT : Hid (∀ x ∈ l, ArBd 1048576 x) := ht
  clear hr ht
  by_cases hbig : 4096 < l.length
  · have HN : Hid (false = bindB l) := (bind_many (by omega)).symm
    go_enter Tryz.func22, Tryz.ntmps22
    go_wp2_with fail
    go_ret
    exact ⟨ret_bool HN.out, Below.refl _ _⟩
  go_enter Tryz.func22, Tryz.ntmps22
  go_wp2_with fail
  go_loopw [3] (fun i w' => ∃ (k : Nat), k ≤ l.length ∧ i = .int .i64 k ∧ Below w.heap.size w w' ∧ Hid (BnTo l k)) (fun i _ => l.length - (intOf i).toNat)
  case atStart => exact ⟨0, by omega, rfl, Below.refl _ _, rfl, fun j hj h => by omega⟩
  case round =>
    rename_i wr
    obtain ⟨k, hk, rfl, hb, HK⟩ := hrel
    by_cases hlt : k < l.length
    case neg =>
      have HN : Hid (decide (l.length ≤ 8) = bindB l) := by
        obtain ⟨h1, h2⟩ := HK.out.whole hlt
        unfold Hid bindB; rw [h1, decide_eq_true h2]; simp
      by_cases h8 : l.length ≤ 8
      · rw [decide_eq_true h8] at HN
        have h8' : (l.length : Int) ≤ 8 := by omega
        go_wp2_with fail
        go_ret
        exact ⟨ret_bool HN.out, hb⟩
      · rw [decide_eq_false h8] at HN
        have h8' : ¬ (l.length : Int) ≤ 8 := by omega
        have h9 : decide ((l.length : Int) ≤ 8) = false := decide_eq_false h8'
        go_wp2_with fail
        go_ret
        exact ⟨ret_bool HN.out, hb⟩
    obtain ⟨b, o, ha, _, hbl, c0, c1, c2, c3⟩ := (HR.out.keep (Below.agree hb (Nat.le_refl _))).cells_ar k hlt
    subst ha
    obtain ⟨s1, s2⟩ := HT.out l[k] (List.getElem_mem hlt)
    have s1' : l[k].nm.size ≤ maxLen := by unfold maxLen; omega
    have s2' : l[k].v.t.size ≤ maxLen := by unfold maxLen; omega
    have hlt2 : k < (l.map Ar.nm).length := by simpa using hlt
    have HE : Hid ((l.map Ar.nm)[k] = l[k].nm) := by simp [Hid]
    go_wp2_with fail
    refine (spec_nameOK _ _ s1').mono ?_
    cases hn : nameB l[k].nm
    · rintro e w1 ⟨rfl, rfl⟩
      have HN : Hid (false = bindB l) := (bind_name (fun h => by have := (h k hlt2).1; rw [HE.out, hn] at this; cases this)).symm
      go_wp2_with fail
      go_ret
      exact ⟨ret_bool HN.out, hb⟩
    rintro e w1 ⟨rfl, rfl⟩
    go_wp2_with fail
    refine (spec_val l[k].v _ s2').mono ?_
    cases hv : valB l[k].v
    · rintro e w1 ⟨rfl, hb1⟩
      have HN : Hid (false = bindB l) := (bind_not hlt (by unfold bnB; rw [hv]; rfl)).symm
      go_wp2_with fail
      go_ret
      exact ⟨ret_bool HN.out, hb.trans (hb1.mono hb.size)⟩
    rintro e w2 ⟨rfl, hb2⟩
    obtain ⟨hc2, hf2⟩ := bcell hb2
    have k1 := (hc2 b (o + k * 4 + 1) (by have := hb.size; omega)).trans c1
    have Q2 : Hid (Below w.heap.size w w2) := hb.trans (hb2.mono hb.size)
    have z2 : w.heap.size ≤ w2.heap.size := Q2.out.size
    clear c0 c1 c2 c3 hc2 hf2 hb2
    cases h4 : (l[k].v.k == 4)
    case true =>
      have HN : Hid (false = bindB l) := (bind_not hlt (by unfold bnB; rw [h4]; simp)).symm
      go_wp2_with fail
      go_ret
      exact ⟨ret_bool HN.out, Q2.out⟩
    have HV : Hid (bnB l[k] = true) := by unfold Hid bnB; rw [hv, h4]; rfl
    go_wp2_with fail
    clear k1 h4
    go_loopw [4] (fun i w' => ∃ (j : Nat), j ≤ k ∧ i = .int .i64 j ∧ Below w.heap.size w w' ∧ Hid (B.seen ((l.map Ar.nm).take j) l[k].nm = false)) (fun i _ => k - (intOf i).toNat)
    case atStart => exact ⟨0, by omega, rfl, Q2.out, rfl⟩
    case round =>
      obtain ⟨j, hj, rfl, hbj, HJ⟩ := hrel
      by_cases hjk : j < k
      case neg =>
        have HK2 : Hid (BnTo l (k + 1)) := HK.out.next hlt HV.out hn (by have := HJ.out; rwa [show j = k by omega] at this)
        go_wp2_with fail
        exact ⟨⟨k + 1, by omega, by go_num, hbj, HK2⟩, by simp [intOf]; omega⟩
      have hjl : j < l.length := by omega
      obtain ⟨b1, o1, ha1, _, hbl1, d0, d1, d2, d3⟩ := (HR.out.keep (Below.agree hbj (Nat.le_refl _))).cells_ar k hlt
      obtain ⟨b2, o2, ha2, _, hbl2, e0, e1, e2, e3⟩ := (HR.out.keep (Below.agree hbj (Nat.le_refl _))).cells_ar j hjl
      simp only [Option.some.injEq, Addr.mk.injEq, and_true] at ha1 ha2
      obtain ⟨rfl, rfl⟩ := ha1
      obtain ⟨rfl, rfl⟩ := ha2
      have hjl2 : j < (l.map Ar.nm).length := by simpa using hjl
      have HEj : Hid ((l.map Ar.nm)[j] = l[j].nm) := by simp [Hid]
      clear d1 d2 d3 e1 e2 e3
      cases h5 : (l[j].nm.toList == l[k].nm.toList) with
      | false =>
        have HF : Hid (B.seen ((l.map Ar.nm).take (j + 1)) l[k].nm = false) := by rw [Hid, seen_take hjl2, HJ.out, HEj.out, h5]; rfl
        go_wp2_with fail
        go_quiet (fail)
        go_wp2_with fail
        go_roundw
        case rel => exact ⟨j + 1, by omega, by go_num, hbj.trans (by exact ⟨rfl, rfl, rfl, Nat.le_refl _, fun _ _ => rfl⟩), HF⟩
        case measure => simp [intOf]; omega
      | true =>
        have HN : Hid (false = bindB l) := (bind_name (fun h => by
          have := (h k hlt2).2
          rw [HE.out, seen_of hjl2 hjk (by rw [HEj.out]; exact h5)] at this
          cases this)).symm
        go_wp2_with fail
        go_quiet (fail)
        go_wp2_with fail
        go_ret
        exact ⟨ret_bool HN.out, hbj.trans (by exact ⟨rfl, rfl, rfl, Nat.le_refl _, fun _ _ => rfl⟩)⟩

set_option maxHeartbeats 2000000 in
theorem impl_binds (a : Option Addr) (c : Nat) (l : List Ar) (w : World) (hr : ArRow 0 w.heap.size w a l) (hl : l.length ≤ 1048576) (ht : ∀ x ∈ l, ArBd 1048576 x) :
    Calls Tryz.prog 29 #[.slice a l.length c] w fun e w' => e = .returned (.bool (bindB l)) ∧ Below w.heap.size w w' := by
  have HR : Hid (ArRow 0 w.heap.size w a l) := hr
  have HT : Hid (∀ x ∈ l, ArBd 1048576 x) := ht
  clear hr ht
  by_cases hbig : 8 < l.length
  · have HN : Hid (false = bindB l) := (bind_many (by omega)).symm
    go_enter Tryz.func29, Tryz.ntmps29
    go_wp2_with fail
    go_ret
    exact ⟨ret_bool HN.out, Below.refl _ _⟩
  go_enter Tryz.func29, Tryz.ntmps29
  go_wp2_with fail
  go_loopw [12] (fun i w' => ∃ (k : Nat), k ≤ l.length ∧ i = .int .i64 k ∧ Below w.heap.size w w' ∧ Hid ((l.take k).all bnB = true)) (fun i _ => l.length - (intOf i).toNat)
  case atStart => exact ⟨0, by omega, rfl, Below.refl _ _, rfl⟩
  case round =>
    rename_i wr
    obtain ⟨k, hk, rfl, hb, HK⟩ := hrel
    by_cases hlt : k < l.length
    case neg =>
      have HA : Hid (l.all bnB = true) := by have := HK.out; rwa [List.take_of_length_le (by omega)] at this
      go_wp2_with fail
      refine (B.impl_places_Bn a c l _ (HR.out.up hb) hl (fun x hx => (HT.out x hx).1)).mono ?_
      rintro e w1 ⟨hb1, ⟨B9, rfl, h1, h2, h3⟩ | ⟨rfl, h1⟩⟩
      · have HN : Hid (true = bindB l) := (bind_yes (by omega) HA.out h1).symm
        clear h1 h2 h3
        go_wp2_with fail
        go_ret
        exact ⟨ret_bool HN.out, hb.trans (hb1.mono hb.size)⟩
      · have HN : Hid (false = bindB l) := (bind_name h1).symm
        clear h1
        go_wp2_with fail
        go_ret
        exact ⟨ret_bool HN.out, hb.trans (hb1.mono hb.size)⟩
    obtain ⟨b, o, ha, _, hbl, c0, c1, c2, c3⟩ := (HR.out.keep (Below.agree hb (Nat.le_refl _))).cells_ar k hlt
    subst ha
    obtain ⟨s1, s2⟩ := HT.out l[k] (List.getElem_mem hlt)
    have s2' : l[k].v.t.size ≤ maxLen := by unfold maxLen; omega
    go_wp2_with fail
    refine (impl_val l[k].v _ s2').mono ?_
    cases hv : valB l[k].v
    · rintro e w1 ⟨rfl, hb1⟩
      have HN : Hid (false = bindB l) := (bind_not hlt (by unfold bnB; rw [hv]; rfl)).symm
      have q1 : Below wr.heap.size wr w1 := by
        refine Below.trans ?_ (hb1.mono (by first | omega | (simp <;> omega)))
        repeat (first | exact Below.refl _ _ | refine Below.setCell ?_ (by first | omega | (simp <;> omega)) _ | refine Below.alloc ?_ (by first | omega | (simp <;> omega)) _)
      go_wp2_with fail
      go_ret
      exact ⟨ret_bool HN.out, hb.trans (q1.mono hb.size)⟩
    rintro e w2 ⟨rfl, hb2⟩
    have k1 := fun o => hb2.cell (p := ⟨wr.heap.size, o, none⟩) (by first | omega | (simp <;> omega))
    have q1 : Below wr.heap.size wr w2 := by
      refine Below.trans ?_ (hb2.mono (by first | omega | (simp <;> omega)))
      repeat (first | exact Below.refl _ _ | refine Below.setCell ?_ (by first | omega | (simp <;> omega)) _ | refine Below.alloc ?_ (by first | omega | (simp <;> omega)) _)
    have Q2 : Hid (Below w.heap.size w w2) := hb.trans (q1.mono hb.size)
    clear c0 c1 c2 c3 hb2 q1
    cases h4 : (l[k].v.k == 4)
    case true =>
      have HN : Hid (false = bindB l) := (bind_not hlt (by unfold bnB; rw [h4]; simp)).symm
      go_wp2_with fail
      go_ret
      exact ⟨ret_bool HN.out, Q2.out⟩
    have HV : Hid ((l.take (k + 1)).all bnB = true) := all_takeB hlt HK.out (by unfold bnB; rw [hv, h4]; rfl)
    go_wp2_with fail
    exact ⟨⟨k + 1, by omega, by go_num, Q2.out, HV⟩, by simp [intOf]; omega⟩
end Go.Proofs.YtkjndghkimnjeaaGreat
