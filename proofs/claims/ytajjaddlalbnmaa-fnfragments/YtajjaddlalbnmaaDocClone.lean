/- The program's own copies of values, arguments and directives. -/
import Derived.Test.YtajjaddlalbnmaaDocToOwn
import Derived.Test.YtajjaddlalbnmaaShelf
import Derived.Deep.RegionWith
namespace Go.Proofs.Ytajjaddlalbnmaa
open Go.ChangeShapes Go.WideShapes Go.ChangeAt Go.RowKit
set_option linter.unusedVariables false

theorem clone_str (s : ByteArray) (w : World) (hs : s.size ≤ 1048576) :
    Calls Try.prog 33 #[.string s] w fun e w' => e = .returned (.string s) ∧ Below w.heap.size w w' := by
  go_enter Try.func33, Try.ntmps33
  go_wp2_with fail
  refine (Try.stringslite_Clone s _ (by omega)).mono ?_
  rintro e w1 ⟨rfl, hb⟩
  go_wp2_with fail
  go_ret
  exact ⟨rfl, hb⟩
set_option maxHeartbeats 1000000 in
theorem clone_val (k n : Int) (t : ByteArray) (w : World) (hs : t.size ≤ 1048576) :
    Calls Try.prog 59 #[.agg #[.int .i64 k, .int .i64 n, .string t]] w fun e w' => e = .returned (.agg #[.int .i64 k, .int .i64 n, .string t]) ∧ Below w.heap.size w w' := by
  go_enter Try.func59, Try.ntmps59
  go_wp2_with fail
  refine (clone_str _ _ hs).mono ?_
  rintro e w1 ⟨rfl, hb1⟩
  have z1 : w.heap.size + 2 ≤ w1.heap.size := by have := hb1.size; simp at this; omega
  have Q1 : Hid (Below w.heap.size w w1) := by
    refine Below.trans ?_ (hb1.mono (by first | omega | (simp <;> omega)))
    repeat (first | exact Below.refl _ _ | refine Below.setCell ?_ (by first | omega | (simp <;> omega)) _ | refine Below.alloc ?_ (by first | omega | (simp <;> omega)) _)
  have k10 := fun o => hb1.cell (p := ⟨w.heap.size, o, none⟩) (by first | omega | (simp <;> omega))
  have k11 := fun o => hb1.cell (p := ⟨w.heap.size + 1, o, none⟩) (by first | omega | (simp <;> omega))
  have j10 := fun o => hb1.frozen (p := ⟨w.heap.size, o, none⟩) (by first | omega | (simp <;> omega))
  have j11 := fun o => hb1.frozen (p := ⟨w.heap.size + 1, o, none⟩) (by first | omega | (simp <;> omega))
  clear hb1
  go_wp2_with fail
  refine bodyPost_ret (v := .agg #[.int .i64 k, .int .i64 n, .string t]) (by simp [results, Try.results59, go_sem, k11]) rfl ⟨rfl, ?_⟩
  repeat (refine Below.setCell ?_ (by first | omega | (simp <;> omega)) _)
  exact Q1.out

set_option maxHeartbeats 4000000 in
set_option maxRecDepth 40000 in
theorem clone_args (a : Option Addr) (c : Nat) (l : List Ar) (w : World) (hr : ArRow 0 w.heap.size w a l) (hl : l.length ≤ 1048576) (ht : ∀ x ∈ l, ArBd 1048576 x) :
    Calls Try.prog 54 #[.slice a l.length c] w fun e w' => ∃ a' c', e = .returned (.slice a' l.length c') ∧ ArOwn w.heap.size w'.heap.size w' a' l ∧ Below w.heap.size w w' := by
  have HR : Hid (ArRow 0 w.heap.size w a l) := hr
  have HT : Hid (∀ x ∈ l, ArBd 1048576 x) := ht
  clear hr ht
  by_cases h0 : l = []
  · subst h0
    go_enter Try.func54, Try.ntmps54
    go_wp2_with fail
    go_ret
    exact ⟨_, _, rfl, .inl rfl, Below.refl _ _⟩
  have hp : 0 < l.length := List.length_pos_iff.2 h0
  have hne : ((l.length : Int) == 0) = false := by simp; omega
  clear h0
  obtain ⟨i27, hi, hz, hsz, hby⟩ := info_ar
  have hmk := run_make (P := Try.prog) w 60 81 i27 _ Try.underlying60 hi hz .i64 .i64 (l.length : Int) (l.length : Int) (by omega) (by omega) (by rw [hby]; omega) (by omega)
  rw [hsz, Int.toNat_natCast] at hmk
  clear hi hz hsz hby
  have hs0 := size_madeCells (Value.agg #[.string ⟨#[]⟩, .int .i64 0, .int .i64 0, .string ⟨#[]⟩]).cells (l.length * 4)
  generalize madeCells (Value.agg #[.string ⟨#[]⟩, .int .i64 0, .int .i64 0, .string ⟨#[]⟩]).cells (l.length * 4) = cs0 at *
  go_enter Try.func54, Try.ntmps54
  go_wp2_with fail
  go_loopw [14] (fun i w' => ∃ (k : Nat) (cs : Array Value), k ≤ l.length ∧ i = .int .i64 k ∧ Below w.heap.size w w' ∧ Hid (w'.heap[w.heap.size]? = some (.cells cs 81 (0, 0))) ∧ cs.size = l.length * 4 ∧ Hid (LaidR ArAt 4 cs l k)) (fun i _ => l.length - (intOf i).toNat)
  case atStart => exact ⟨0, cs0, by omega, rfl, (Below.refl _ _).alloc (Nat.le_refl _) _, heap_alloc_new _ _, hs0, fun i x h => by omega⟩
  case round =>
    rename_i wr
    obtain ⟨k, cs, hk, rfl, hb, HH, hcs, HL⟩ := hrel
    clear hmk hs0
    by_cases hlt : k < l.length
    · obtain ⟨b, o, ha, _, hbl, d0, d1, d2, d3⟩ := (HR.out.keep (Below.agree hb (Nat.le_refl _))).cells_ar k hlt
      subst ha
      obtain ⟨hsz0, hsz1⟩ := HT.out _ (List.getElem_mem hlt)
      have hN : w.heap.size < wr.heap.size := (Array.getElem?_eq_some_iff.1 HH.out).1
      go_wp2_with fail
      obtain ⟨wa, hwa⟩ : ∃ x, x = wr.alloc (Obj.cells #[.string l[k].nm, .int .i64 l[k].v.k, .int .i64 l[k].v.n, .string l[k].v.t] 81) := ⟨_, rfl⟩
      rw [← hwa]
      have ca : ∀ j, wa.cell? ⟨wr.heap.size, j, none⟩ = (#[.string l[k].nm, .int .i64 l[k].v.k, .int .i64 l[k].v.n, .string l[k].v.t] : Array Value)[j]? := fun j => by rw [hwa]; exact row_cell (heap_alloc_new _ _) j
      have ca0 := ca 0
      have ca1 := ca 1
      have ca2 := ca 2
      have ca3 := ca 3
      simp only [List.getElem?_toArray, List.getElem?_cons_zero, List.getElem?_cons_succ] at ca0 ca1 ca2 ca3
      have zwa : wa.heap.size = wr.heap.size + 1 := by rw [hwa]; simp
      have HHa : Hid (wa.heap[w.heap.size]? = some (.cells cs 81 (0, 0))) := by rw [hwa]; exact (Below.heap_alloc _ _ _ hN).trans HH.out
      have HBa : Hid (Below w.heap.size w wa) := by rw [hwa]; exact hb.alloc hb.size _
      clear hwa hb d0 d1 d2 d3 HH ca
      go_region_with (first
        | (go_at_call 33
           refine (clone_str _ _ hsz0).mono ?_
           rintro e w1 ⟨rfl, hb1⟩
           have z1 : wa.heap.size ≤ w1.heap.size := hb1.size
           have t1 : w1.cell? ⟨wr.heap.size, 1, none⟩ = _ := (hb1.cell (p := ⟨wr.heap.size, 1, none⟩) (show wr.heap.size < wa.heap.size by omega)).trans ca1
           have t2 : w1.cell? ⟨wr.heap.size, 2, none⟩ = _ := (hb1.cell (p := ⟨wr.heap.size, 2, none⟩) (show wr.heap.size < wa.heap.size by omega)).trans ca2
           have t3 : w1.cell? ⟨wr.heap.size, 3, none⟩ = _ := (hb1.cell (p := ⟨wr.heap.size, 3, none⟩) (show wr.heap.size < wa.heap.size by omega)).trans ca3
           have HH1 : Hid (w1.heap[w.heap.size]? = some (.cells cs 81 (0, 0))) := (hb1.block _ (show w.heap.size < wa.heap.size by omega)).trans HHa.out
           have Q1 : Hid (Below w.heap.size w w1) := HBa.out.drew.trans (hb1.mono (show w.heap.size ≤ wa.heap.size by omega))
           clear hb1)
        | (go_at_call 59
           refine (clone_val _ _ _ _ hsz1).mono ?_
           rintro e w2 ⟨rfl, hb2⟩
           have HH2 : Hid (w2.heap[w.heap.size]? = some (.cells cs 81 (0, 0))) := (hb2.block _ (show w.heap.size < w1.heap.size by omega)).trans HH1.out
           have Q2 : Hid (Below w.heap.size w w2) := Q1.out.trans (hb2.mono (show w.heap.size ≤ w1.heap.size by omega))
           obtain ⟨v0, hv0⟩ : ∃ v, w2.cell? ⟨w.heap.size, k * 4, none⟩ = some v := ⟨_, (row_cell HH2.out _).trans (Array.getElem?_eq_getElem (by omega))⟩
           obtain ⟨v1, hv1⟩ : ∃ v, w2.cell? ⟨w.heap.size, k * 4 + 1, none⟩ = some v := ⟨_, (row_cell HH2.out _).trans (Array.getElem?_eq_getElem (by omega))⟩
           obtain ⟨v2, hv2⟩ : ∃ v, w2.cell? ⟨w.heap.size, k * 4 + 2, none⟩ = some v := ⟨_, (row_cell HH2.out _).trans (Array.getElem?_eq_getElem (by omega))⟩
           obtain ⟨v3, hv3⟩ : ∃ v, w2.cell? ⟨w.heap.size, k * 4 + 3, none⟩ = some v := ⟨_, (row_cell HH2.out _).trans (Array.getElem?_eq_getElem (by omega))⟩
           have hf0 := row_frozen HH2.out (k * 4)
           have hf1 := row_frozen HH2.out (k * 4 + 1)
           have hf2 := row_frozen HH2.out (k * 4 + 2)
           have hf3 := row_frozen HH2.out (k * 4 + 3)
           clear hb2))
      all_goals
        go_wp2_with fail
        go_roundw
        case rel => exact ⟨k + 1, put4 cs (k * 4) _ _ _ _, by omega, by go_num, (((Q2.out.setCell (Nat.le_refl _) _).setCell (Nat.le_refl _) _).setCell (Nat.le_refl _) _).setCell (Nat.le_refl _) _, row_set (row_set (row_set (row_set HH2.out _ _) _ _) _ _) _ _, by rw [put4_size]; exact hcs, HL.out.put_ar hlt hcs⟩
        case measure => simp [intOf]; omega
    · go_wp2_with fail
      go_ret
      obtain rfl : k = l.length := by omega
      exact ⟨_, _, rfl, .inr ⟨w.heap.size, cs, rfl, Nat.le_refl _, (Array.getElem?_eq_some_iff.1 HH.out).1, HH.out, by omega, fun i x hx => HL.out i x (List.getElem?_eq_some_iff.1 hx).1 hx⟩, hb⟩

set_option maxHeartbeats 4000000 in
set_option maxRecDepth 40000 in
theorem clone_dirs (a : Option Addr) (c : Nat) (l : List Di) (w : World) (hr : DiRow 0 w.heap.size w a l) (hl : l.length ≤ 1048576) (ht : ∀ x ∈ l, DiBd 1048576 x) :
    Calls Try.prog 55 #[.slice a l.length c] w fun e w' => ∃ a' c', e = .returned (.slice a' l.length c') ∧ DiOwn w.heap.size w'.heap.size w' a' l ∧ Below w.heap.size w w' := by
  have HR : Hid (DiRow 0 w.heap.size w a l) := hr
  have HT : Hid (∀ x ∈ l, DiBd 1048576 x) := ht
  clear hr ht
  by_cases h0 : l = []
  · subst h0
    go_enter Try.func55, Try.ntmps55
    go_wp2_with fail
    go_ret
    exact ⟨_, _, rfl, .inl rfl, Below.refl _ _⟩
  have hp : 0 < l.length := List.length_pos_iff.2 h0
  have hne : ((l.length : Int) == 0) = false := by simp; omega
  clear h0
  obtain ⟨i27, hi, hz, hsz, hby⟩ := info_di
  have hmk := run_make (P := Try.prog) w 61 86 i27 _ Try.underlying61 hi hz .i64 .i64 (l.length : Int) (l.length : Int) (by omega) (by omega) (by rw [hby]; omega) (by omega)
  rw [hsz, Int.toNat_natCast] at hmk
  clear hi hz hsz hby
  have hs0 := size_madeCells (Value.agg #[.bool false, .int .i64 0, .int .i64 0, .string ⟨#[]⟩]).cells (l.length * 4)
  generalize madeCells (Value.agg #[.bool false, .int .i64 0, .int .i64 0, .string ⟨#[]⟩]).cells (l.length * 4) = cs0 at *
  go_enter Try.func55, Try.ntmps55
  go_wp2_with fail
  go_loopw [14] (fun i w' => ∃ (k : Nat) (cs : Array Value), k ≤ l.length ∧ i = .int .i64 k ∧ Below w.heap.size w w' ∧ Hid (w'.heap[w.heap.size]? = some (.cells cs 86 (0, 0))) ∧ cs.size = l.length * 4 ∧ Hid (LaidR DiAt 4 cs l k)) (fun i _ => l.length - (intOf i).toNat)
  case atStart => exact ⟨0, cs0, by omega, rfl, (Below.refl _ _).alloc (Nat.le_refl _) _, heap_alloc_new _ _, hs0, fun i x h => by omega⟩
  case round =>
    rename_i wr
    obtain ⟨k, cs, hk, rfl, hb, HH, hcs, HL⟩ := hrel
    clear hmk hs0
    by_cases hlt : k < l.length
    · obtain ⟨b, o, ha, _, hbl, d0, d1, d2, d3⟩ := (HR.out.keep (Below.agree hb (Nat.le_refl _))).cells_di k hlt
      subst ha
      have hsz1 : l[k].v.t.size ≤ 1048576 := HT.out _ (List.getElem_mem hlt)
      have hN : w.heap.size < wr.heap.size := (Array.getElem?_eq_some_iff.1 HH.out).1
      go_wp2_with fail
      obtain ⟨wa, hwa⟩ : ∃ x, x = wr.alloc (Obj.cells #[.bool l[k].sk, .int .i64 l[k].v.k, .int .i64 l[k].v.n, .string l[k].v.t] 86) := ⟨_, rfl⟩
      rw [← hwa]
      have ca : ∀ j, wa.cell? ⟨wr.heap.size, j, none⟩ = (#[.bool l[k].sk, .int .i64 l[k].v.k, .int .i64 l[k].v.n, .string l[k].v.t] : Array Value)[j]? := fun j => by rw [hwa]; exact row_cell (heap_alloc_new _ _) j
      have ca0 := ca 0
      have ca1 := ca 1
      have ca2 := ca 2
      have ca3 := ca 3
      simp only [List.getElem?_toArray, List.getElem?_cons_zero, List.getElem?_cons_succ] at ca0 ca1 ca2 ca3
      have zwa : wa.heap.size = wr.heap.size + 1 := by rw [hwa]; simp
      have HHa : Hid (wa.heap[w.heap.size]? = some (.cells cs 86 (0, 0))) := by rw [hwa]; exact (Below.heap_alloc _ _ _ hN).trans HH.out
      have HBa : Hid (Below w.heap.size w wa) := by rw [hwa]; exact hb.alloc hb.size _
      clear hwa hb d0 d1 d2 d3 HH ca
      go_region_with (
        (go_at_call 59
         refine (clone_val _ _ _ _ hsz1).mono ?_
         rintro e w2 ⟨rfl, hb2⟩
         have t0 : w2.cell? ⟨wr.heap.size, 0, none⟩ = _ := (hb2.cell (p := ⟨wr.heap.size, 0, none⟩) (show wr.heap.size < wa.heap.size by omega)).trans ca0
         have HH2 : Hid (w2.heap[w.heap.size]? = some (.cells cs 86 (0, 0))) := (hb2.block _ (show w.heap.size < wa.heap.size by omega)).trans HHa.out
         have Q2 : Hid (Below w.heap.size w w2) := HBa.out.drew.trans (hb2.mono (show w.heap.size ≤ wa.heap.size by omega))
         obtain ⟨v0, hv0⟩ : ∃ v, w2.cell? ⟨w.heap.size, k * 4, none⟩ = some v := ⟨_, (row_cell HH2.out _).trans (Array.getElem?_eq_getElem (by omega))⟩
         obtain ⟨v1, hv1⟩ : ∃ v, w2.cell? ⟨w.heap.size, k * 4 + 1, none⟩ = some v := ⟨_, (row_cell HH2.out _).trans (Array.getElem?_eq_getElem (by omega))⟩
         obtain ⟨v2, hv2⟩ : ∃ v, w2.cell? ⟨w.heap.size, k * 4 + 2, none⟩ = some v := ⟨_, (row_cell HH2.out _).trans (Array.getElem?_eq_getElem (by omega))⟩
         obtain ⟨v3, hv3⟩ : ∃ v, w2.cell? ⟨w.heap.size, k * 4 + 3, none⟩ = some v := ⟨_, (row_cell HH2.out _).trans (Array.getElem?_eq_getElem (by omega))⟩
         have hf0 := row_frozen HH2.out (k * 4)
         have hf1 := row_frozen HH2.out (k * 4 + 1)
         have hf2 := row_frozen HH2.out (k * 4 + 2)
         have hf3 := row_frozen HH2.out (k * 4 + 3)
         clear hb2))
      all_goals
        go_wp2_with fail
        go_roundw
        case rel => exact ⟨k + 1, put4 cs (k * 4) _ _ _ _, by omega, by go_num, (((Q2.out.setCell (Nat.le_refl _) _).setCell (Nat.le_refl _) _).setCell (Nat.le_refl _) _).setCell (Nat.le_refl _) _, row_set (row_set (row_set (row_set HH2.out _ _) _ _) _ _) _ _, by rw [put4_size]; exact hcs, HL.out.put_di hlt hcs⟩
        case measure => simp [intOf]; omega
    · go_wp2_with fail
      go_ret
      obtain rfl : k = l.length := by omega
      exact ⟨_, _, rfl, .inr ⟨w.heap.size, cs, rfl, Nat.le_refl _, (Array.getElem?_eq_some_iff.1 HH.out).1, HH.out, by omega, fun i x hx => HL.out i x (List.getElem?_eq_some_iff.1 hx).1 hx⟩, hb⟩

end Go.Proofs.Ytajjaddlalbnmaa
