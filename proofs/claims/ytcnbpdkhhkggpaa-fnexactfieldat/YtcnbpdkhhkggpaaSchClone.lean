/- A field's own copy: its arguments in new memory. -/
import Derived.Test.YtcnbpdkhhkggpaaSchToOwn
import Derived.Test.YtcnbpdkhhkggpaaShelf
namespace Go.Proofs.Ytcnbpdkhhkggpaa.G
open Go.ChangeShapes Go.WideShapes Go.ChangeAt Go.RowKit
set_option linter.unusedVariables false

theorem clone_str (s : ByteArray) (w : World) (hs : s.size ≤ 1048576) :
    Calls Try.prog 37 #[.string s] w fun e w' => e = .returned (.string s) ∧ Below w.heap.size w w' := by
  go_enter Try.func37, Try.ntmps37
  go_wp2_with fail
  refine (Try.stringslite_Clone s _ (by omega)).mono ?_
  rintro e w1 ⟨rfl, hb⟩
  go_wp2_with fail
  go_ret
  exact ⟨rfl, hb⟩

set_option maxHeartbeats 4000000 in
set_option maxRecDepth 40000 in
theorem clone_Ags (a : Option Addr) (c : Nat) (l : List Ag) (w : World) (hr : AgRow 0 w.heap.size w a l) (hbd : AgsBd 1048576 l) :
    Calls Try.prog 38 #[.slice a l.length c] w fun e w' => ∃ a' c', e = .returned (.slice a' l.length c') ∧ AgMine w.heap.size w'.heap.size w' a' l ∧ Below w.heap.size w w' := by
  obtain ⟨hl, ht⟩ := hbd
  have HR : Hid (AgRow 0 w.heap.size w a l) := hr
  have HT : Hid (∀ x ∈ l, AgBd 1048576 x) := ht
  clear hr ht
  by_cases h0 : l = []
  · subst h0
    go_enter Try.func38, Try.ntmps38
    go_wp2_with fail
    go_ret
    exact ⟨_, _, rfl, ⟨[], .inl ⟨rfl, rfl⟩, by simp, by simp⟩, Below.refl _ _⟩
  have hp : 0 < l.length := List.length_pos_iff.2 h0
  have hne : ((l.length : Int) == 0) = false := by simp; omega
  clear h0
  obtain ⟨i27, hi, hz, hsz, hby⟩ := info_Ag
  have hmk := run_make (P := Try.prog) w 26 67 i27 _ Try.underlying26 hi hz .i64 .i64 (l.length : Int) (l.length : Int) (by omega) (by omega) (by rw [hby]; omega) (by omega)
  rw [hsz, Int.toNat_natCast] at hmk
  clear hi hz hsz hby
  have hs0 := size_madeCells (Value.agg #[.string ⟨#[]⟩, .bool false]).cells (l.length * 2)
  generalize madeCells (Value.agg #[.string ⟨#[]⟩, .bool false]).cells (l.length * 2) = cs0 at *
  go_enter Try.func38, Try.ntmps38
  go_wp2_with fail
  go_loopw [14] (fun i w' => ∃ (k : Nat) (cs : Array Value), k ≤ l.length ∧ i = .int .i64 k ∧ Below w.heap.size w w' ∧ Hid (w'.heap[w.heap.size]? = some (.cells cs 67 (0, 0))) ∧ cs.size = l.length * 2 ∧ Hid (LaidR (AgAt 0 0 w) 2 cs l k)) (fun i _ => l.length - (intOf i).toNat)
  case atStart => exact ⟨0, cs0, by omega, rfl, (Below.refl _ _).alloc (Nat.le_refl _) _, heap_alloc_new _ _, hs0, fun i x h => by omega⟩
  case round =>
    rename_i wr
    obtain ⟨k, cs, hk, rfl, hb, HH, hcs, HL⟩ := hrel
    clear hmk hs0
    by_cases hlt : k < l.length
    · obtain ⟨b, o, ha, _, hbl, d0, d1⟩ := AgRow.cells (AgRow.keep HR.out (agree hb (Nat.le_refl _))) k hlt
      subst ha
      have hsz0 : l[k].nm.size ≤ 1048576 := HT.out _ (List.getElem_mem hlt)
      have hN : w.heap.size < wr.heap.size := (Array.getElem?_eq_some_iff.1 HH.out).1
      go_wp2_with fail
      obtain ⟨wa, hwa⟩ : ∃ x, x = wr.alloc (Obj.cells #[Value.string l[k].nm, Value.bool l[k].need] 67) := ⟨_, rfl⟩
      rw [← hwa]
      have ca0 : wa.cell? ⟨wr.heap.size, 0, none⟩ = some (.string l[k].nm) := by rw [hwa]; exact row_cell (heap_alloc_new _ _) 0
      have ca1 : wa.cell? ⟨wr.heap.size, 1, none⟩ = some (.bool l[k].need) := by rw [hwa]; exact row_cell (heap_alloc_new _ _) 1
      have zwa : wa.heap.size = wr.heap.size + 1 := by rw [hwa]; simp
      have HHa : Hid (wa.heap[w.heap.size]? = some (.cells cs 67 (0, 0))) := by rw [hwa]; exact (Below.heap_alloc _ _ _ hN).trans HH.out
      have HBa : Hid (Below w.heap.size w wa) := by rw [hwa]; exact hb.alloc hb.size _
      clear hwa hb d0 d1 HH
      go_region_with (
        go_at_call 37
        refine (clone_str _ _ hsz0).mono ?_
        rintro e w1 ⟨rfl, hb1⟩
        have t1 : w1.cell? ⟨wr.heap.size, 1, none⟩ = some (.bool l[k].need) := (hb1.cell (p := ⟨wr.heap.size, 1, none⟩) (show wr.heap.size < wa.heap.size by omega)).trans ca1
        have HH1 : Hid (w1.heap[w.heap.size]? = some (.cells cs 67 (0, 0))) := (hb1.block _ (show w.heap.size < wa.heap.size by omega)).trans HHa.out
        obtain ⟨v0, hv0⟩ : ∃ v, w1.cell? ⟨w.heap.size, k * 2, none⟩ = some v := ⟨_, (row_cell HH1.out _).trans (Array.getElem?_eq_getElem (by omega))⟩
        obtain ⟨v1, hv1⟩ : ∃ v, w1.cell? ⟨w.heap.size, k * 2 + 1, none⟩ = some v := ⟨_, (row_cell HH1.out _).trans (Array.getElem?_eq_getElem (by omega))⟩
        have hf0 := row_frozen HH1.out (k * 2)
        have hf1 := row_frozen HH1.out (k * 2 + 1)
        have Q1 : Hid (Below w.heap.size w w1) := HBa.out.drew.trans (hb1.mono (show w.heap.size ≤ wa.heap.size by omega)))
      all_goals
        go_wp2_with fail
        go_roundw
        case rel => exact ⟨k + 1, _, by omega, by go_num, (Q1.out.setCell (Nat.le_refl _) _).setCell (Nat.le_refl _) _, row_set (row_set HH1.out _ _) _ _, by simp [hcs], LaidR.put_Ag HL.out hlt hcs⟩
        case measure => simp [intOf]; omega
    · go_wp2_with fail
      go_ret
      obtain rfl : k = l.length := by omega
      have hN := (Array.getElem?_eq_some_iff.1 HH.out).1
      refine ⟨_, _, rfl, ⟨[w.heap.size], .inr ⟨w.heap.size, cs, rfl, rfl, HH.out, by omega, fun i x hx => HL.out i x (List.getElem?_eq_some_iff.1 hx).1 hx⟩, by simp, ?_⟩, hb⟩
      intro g hg
      rw [List.mem_singleton.1 hg]
      exact ⟨Nat.le_refl _, hN⟩

set_option maxHeartbeats 4000000 in
set_option maxRecDepth 40000 in
theorem clone_Fd (x : Fd) (a3 : Option Addr) (c3 : Nat) (w : World) (r3 : AgRow 0 w.heap.size w a3 x.args) (hb : FdBd 1048576 x) :
    Calls Try.prog 21 #[.agg #[.string x.nm, .slice a3 x.args.length c3, .string x.ty, .bool x.ls, .bool x.bg]] w fun e w' =>
      ∃ b3 d3, e = .returned (.agg #[.string x.nm, .slice b3 x.args.length d3, .string x.ty, .bool x.ls, .bool x.bg]) ∧ AgMine w.heap.size w'.heap.size w' b3 x.args ∧ Below w.heap.size w w' := by
  obtain ⟨x1, x3, x5⟩ := hb
  have K3 : Hid (∀ W0, Below w.heap.size w W0 → AgRow 0 W0.heap.size W0 a3 x.args) := fun W0 hB => AgRow.up r3 hB
  have HS : Hid (AgsBd 1048576 x.args) := x3
  clear r3 x3
  go_enter Try.func21, Try.ntmps21
  go_wp2_with fail
  refine (clone_str _ _ x1).mono ?_
  rintro e w1 ⟨rfl, hb1⟩
  have z1 : w.heap.size + 2 ≤ w1.heap.size := by have := hb1.size; simp at this; omega
  have Q1 : Hid (Below w.heap.size w w1) := by
    refine Below.trans ?_ (hb1.mono (by first | omega | (simp <;> omega)))
    repeat (first | exact Below.refl _ _ | refine Below.setCell ?_ (by first | omega | (simp <;> omega)) _ | refine Below.alloc ?_ (by first | omega | (simp <;> omega)) _)
  have k10 := fun o => hb1.cell (p := ⟨w.heap.size, o, none⟩) (by first | omega | (simp <;> omega))
  have k11 := fun o => hb1.cell (p := ⟨w.heap.size + 1, o, none⟩) (by first | omega | (simp <;> omega))
  have j10 := fun o => hb1.frozen (p := ⟨w.heap.size, o, none⟩) (by first | omega | (simp <;> omega))
  have j11 := fun o => hb1.frozen (p := ⟨w.heap.size + 1, o, none⟩) (by first | omega | (simp <;> omega))
  clear hb1
  go_wp2_with fail
  refine (clone_Ags a3 c3 x.args _ (K3.out _ ?b0) HS.out).mono ?_
  case b0 => exact Q1.out.setCell (Nat.le_refl _) _
  rintro e w2 ⟨b3, d3, rfl, A2, hb2⟩
  have z2 : w1.heap.size ≤ w2.heap.size := by have := hb2.size; simpa using this
  have A2 : Hid (AgMine (w.heap.size + 2) w2.heap.size w2 b3 x.args) := AgMine.wide A2 (by first | omega | (simp <;> omega)) (Nat.le_refl _)
  have Q2 : Hid (Below w.heap.size w w2) := (Q1.out.setCell (Nat.le_refl _) _).trans (hb2.mono (by first | omega | (simp <;> omega)))
  have k20 := fun o => hb2.cell (p := ⟨w.heap.size, o, none⟩) (by first | omega | (simp <;> omega))
  have k21 := fun o => hb2.cell (p := ⟨w.heap.size + 1, o, none⟩) (by first | omega | (simp <;> omega))
  have j20 := fun o => hb2.frozen (p := ⟨w.heap.size, o, none⟩) (by first | omega | (simp <;> omega))
  have j21 := fun o => hb2.frozen (p := ⟨w.heap.size + 1, o, none⟩) (by first | omega | (simp <;> omega))
  clear hb2
  go_wp2_with fail
  refine (clone_str _ _ x5).mono ?_
  rintro e w3 ⟨rfl, hb3⟩
  have z3 : w2.heap.size ≤ w3.heap.size := by have := hb3.size; simpa using this
  have A3 : Hid (AgMine (w.heap.size + 2) w3.heap.size w3 b3 x.args) := by
    refine AgMine.wide (AgMine.keep A2.out fun g h1 h2 => (hb3.block g (by simpa using h2)).trans ?_) (Nat.le_refl _) z3
    rw [heap_set _ _ _ _ _ (by omega)]
  have Q3 : Hid (Below w.heap.size w w3) := (Q2.out.setCell (Nat.le_refl _) _).trans (hb3.mono (by first | omega | (simp <;> omega)))
  have k30 := fun o => hb3.cell (p := ⟨w.heap.size, o, none⟩) (by first | omega | (simp <;> omega))
  have k31 := fun o => hb3.cell (p := ⟨w.heap.size + 1, o, none⟩) (by first | omega | (simp <;> omega))
  have j30 := fun o => hb3.frozen (p := ⟨w.heap.size, o, none⟩) (by first | omega | (simp <;> omega))
  have j31 := fun o => hb3.frozen (p := ⟨w.heap.size + 1, o, none⟩) (by first | omega | (simp <;> omega))
  clear hb3
  go_wp2_with fail
  refine bodyPost_ret (v := .agg #[.string x.nm, .slice b3 x.args.length d3, .string x.ty, .bool x.ls, .bool x.bg]) (by simp [results, Try.results21, go_sem, k31, k21, k11]) rfl ⟨b3, d3, rfl, ?_⟩
  have G : ∀ W' : World, W'.heap.size = w3.heap.size → Agree (w.heap.size + 2) w3.heap.size w3 W' → Below w.heap.size w W' → AgMine w.heap.size W'.heap.size W' b3 x.args ∧ Below w.heap.size w W' :=
    fun W' hw ha hB => ⟨AgMine.wide (AgMine.keep A3.out ha) (by omega) (by omega), hB⟩
  refine G _ (by simp) ?_ ?_
  · intro g h1 h2
    repeat rw [heap_set _ _ _ _ _ (by omega)]
  · repeat (refine Below.setCell ?_ (by first | omega | (simp <;> omega)) _)
    exact Q3.out
end Go.Proofs.Ytcnbpdkhhkggpaa.G
