/- The program's own copies of selections and of a definition. -/
import Derived.Test.YtajjaddlalbnmaaDocClone
namespace Go.Proofs.Ytajjaddlalbnmaa
open Go.ChangeShapes Go.WideShapes Go.ChangeAt Go.RowKit
set_option linter.unusedVariables false

def CloneSels (l : Sels) : Prop := ∀ (a : Option Addr) (c : Nat) (w : World), SelRow 0 w.heap.size w a l → l.len ≤ 1048576 → SelsBd 1048576 l →
    Calls Try.prog 34 #[.slice a l.len c] w fun e w' => ∃ a' c', e = .returned (.slice a' l.len c') ∧ SelOwn w.heap.size w'.heap.size w' a' l ∧ Below w.heap.size w w'

set_option maxHeartbeats 4000000 in
set_option maxRecDepth 40000 in
theorem clone_sels (l : Sels) : CloneSels l := by
  induction hN : l.size using Nat.strongRecOn generalizing l with
  | _ N ih =>
  subst hN
  intro a c w hr hl hbd
  have IH : Hid (∀ sub : Sels, sub.size < l.size → CloneSels sub) := fun sub hsub => ih sub.size hsub sub rfl
  have HR : Hid (SelFrom 0 w.heap.size w a 0 l) := hr.from_
  have HB : Hid (SelsBd 1048576 l) := hbd
  clear hr ih hbd
  by_cases h0 : l = .nil
  · subst h0
    simp only [Sels.len]
    go_enter Try.func34, Try.ntmps34
    go_wp2_with fail
    go_ret
    exact ⟨_, _, rfl, .inl rfl, Below.refl _ _⟩
  have hp : 0 < l.len := by cases l with
    | nil => exact absurd rfl h0
    | cons _ _ _ => simp [Sels.len]
  have hne : ((l.len : Int) == 0) = false := by simp; omega
  clear h0
  obtain ⟨i27, hi, hz, hsz, hby⟩ := info_sel
  have hmk := run_make (P := Try.prog) w 28 63 i27 _ Try.underlying28 hi hz .i64 .i64 (l.len : Int) (l.len : Int) (by omega) (by omega) (by rw [hby]; omega) (by omega)
  rw [hsz, Int.toNat_natCast] at hmk
  clear hi hz hsz hby
  have hs0 := size_madeCells (Value.agg #[.int .i64 0, .string ⟨#[]⟩, .string ⟨#[]⟩, .slice none 0 0, .slice none 0 0, .slice none 0 0]).cells (l.len * 6)
  generalize madeCells (Value.agg #[.int .i64 0, .string ⟨#[]⟩, .string ⟨#[]⟩, .slice none 0 0, .slice none 0 0, .slice none 0 0]).cells (l.len * 6) = cs0 at *
  go_enter Try.func34, Try.ntmps34
  go_wp2_with fail
  go_loopw [14] (fun i w' => ∃ (k : Nat) (cs : Array Value) (pre : List (Hd × Sels)) (rest : Sels), Hid (l.len = k + rest.len) ∧ i = .int .i64 k ∧ Below w.heap.size w w' ∧ Hid (l = app pre rest ∧ pre.length = k) ∧ Hid (rest.size ≤ l.size) ∧ Hid (SelsBd 1048576 rest) ∧ Hid (SelFrom 0 w.heap.size w a k rest) ∧ Hid (w'.heap[w.heap.size]? = some (.cells cs 63 (0, 0))) ∧ cs.size = l.len * 6 ∧ Hid (SelSeq w' (app pre .nil) cs 0 (w.heap.size + 1) w'.heap.size)) (fun i _ => l.len - (intOf i).toNat)
  case atStart => exact ⟨0, cs0, [], l, by simp [Hid], rfl, (Below.refl _ _).alloc (Nat.le_refl _) _, ⟨rfl, rfl⟩, Nat.le_refl _, HB, HR, heap_alloc_new _ _, hs0, show w.heap.size + 1 ≤ (w.alloc _).heap.size by simp⟩
  case round =>
    rename_i wr
    obtain ⟨k, cs, pre, rest, HK, rfl, hb, HP, HZ, HD, HF, HH, hcs, HL⟩ := hrel
    clear hmk hs0
    cases rest with
    | nil =>
      have hk' : ¬ k < l.len := by rw [HK.out]; simp only [Sels.len]; omega
      go_wp2_with fail
      go_ret
      refine ⟨_, _, rfl, ?_, hb⟩
      refine .inr ⟨w.heap.size, cs, rfl, Nat.le_refl _, (Array.getElem?_eq_some_iff.1 HH.out).1, HH.out, by omega, ?_⟩
      have hp := HL.out
      rw [← HP.out.1] at hp
      exact hp
    | cons h sub rest =>
      have hlt : k < l.len := by rw [HK.out]; simp only [Sels.len]; omega
      have HK2 : Hid (l.len = k + 1 + rest.len) := by rw [Hid, HK.out]; simp only [Sels.len]; omega
      obtain ⟨b, o, a1, c1, a2, c2, a3, c3, ha, _, hbl, d0, d1, d2, d3, d4, d5, r1, r2, r3, _⟩ := (HF.out.keep (Below.agree hb (Nat.le_refl _))).step
      have HF2 : Hid (SelFrom 0 w.heap.size w a (k + 1) rest) := SelFrom.next HF.out
      subst ha
      have K1 : Hid (∀ W0, Below wr.heap.size wr W0 → ArRow 0 W0.heap.size W0 a1 h.args) := fun W0 hB => Row.up (Row.wide r1 (Nat.le_refl _) hb.size) hB
      have K2 : Hid (∀ W0, Below wr.heap.size wr W0 → DiRow 0 W0.heap.size W0 a2 h.dirs) := fun W0 hB => Row.up (Row.wide r2 (Nat.le_refl _) hb.size) hB
      have K3 : Hid (∀ W0, Below wr.heap.size wr W0 → SelRow 0 W0.heap.size W0 a3 sub) := fun W0 hB => SelRow.up (SelRow.wide r3 (Nat.le_refl _) hb.size) hB
      obtain ⟨⟨x1, x2, x3, x4, x5, x6⟩, e2, e3, e4⟩ := HD.out
      have X4 : Hid _ := x4
      have X6 : Hid _ := x6
      have E3 : Hid (SelsBd 1048576 sub) := e3
      have E4 : Hid (SelsBd 1048576 rest) := e4
      have HZ2 : Hid (rest.size ≤ l.size) := by have := HZ.out; simp only [Sels.size] at this; unfold Hid; omega
      have IS : Hid (CloneSels sub) := IH.out sub (by have := HZ.out; simp only [Sels.size] at this; omega)
      have hN : w.heap.size < wr.heap.size := (Array.getElem?_eq_some_iff.1 HH.out).1
      clear r1 r2 r3 e3 e4 x4 x6
      go_wp2_with fail
      refine (clone_str _ _ x1).mono ?_
      rintro e w1 ⟨rfl, hb1⟩
      have z1 : wr.heap.size + 1 ≤ w1.heap.size := by have := hb1.size; simpa using this
      have P1 : Hid (Below wr.heap.size wr w1) := ((Below.refl _ _).alloc (Nat.le_refl _) _).trans (hb1.mono (by simp))
      have k1 := fun o => hb1.cell (p := ⟨wr.heap.size, o, none⟩) (by simp)
      have j1 := fun o => hb1.frozen (p := ⟨wr.heap.size, o, none⟩) (by simp)
      clear hb1 d0 d1 d2 d3 d4 d5
      go_wp2_with fail
      refine (clone_str _ _ x2).mono ?_
      rintro e w2 ⟨rfl, hb2⟩
      have z2 : w1.heap.size ≤ w2.heap.size := by have := hb2.size; simpa using this
      have P2 : Hid (Below wr.heap.size wr w2) := (P1.out.setCell (Nat.le_refl _) _).trans (hb2.mono (by simp; omega))
      have k2 := fun o => hb2.cell (p := ⟨wr.heap.size, o, none⟩) (by simp; omega)
      have j2 := fun o => hb2.frozen (p := ⟨wr.heap.size, o, none⟩) (by simp; omega)
      clear hb2
      go_wp2_with fail
      refine (clone_args a1 c1 h.args _ (K1.out _ ?b0) x3 X4.out).mono ?_
      case b0 => exact P2.out.setCell (Nat.le_refl _) _
      rintro e w3 ⟨b1, f1, rfl, A1, hb3⟩
      have z3 : w2.heap.size ≤ w3.heap.size := by have := hb3.size; simpa using this
      have A1 : Hid (ArOwn w2.heap.size w3.heap.size w3 b1 h.args) := OwnR.wide A1 (by simp) (Nat.le_refl _)
      have P3 : Hid (Below wr.heap.size wr w3) := (P2.out.setCell (Nat.le_refl _) _).trans (hb3.mono (by simp; omega))
      have k3 := fun o => hb3.cell (p := ⟨wr.heap.size, o, none⟩) (by simp; omega)
      have j3 := fun o => hb3.frozen (p := ⟨wr.heap.size, o, none⟩) (by simp; omega)
      clear hb3
      go_wp2_with fail
      refine (clone_dirs a2 c2 h.dirs _ (K2.out _ ?b0) x5 X6.out).mono ?_
      case b0 => exact P3.out.setCell (Nat.le_refl _) _
      rintro e w4 ⟨b2, f2, rfl, A2, hb4⟩
      have z4 : w3.heap.size ≤ w4.heap.size := by have := hb4.size; simpa using this
      have A2 : Hid (DiOwn w3.heap.size w4.heap.size w4 b2 h.dirs) := OwnR.wide A2 (by simp) (Nat.le_refl _)
      have A1 : Hid (ArOwn w2.heap.size w3.heap.size w4 b1 h.args) := OwnR.keep A1.out ((Agree.setCell (by simp <;> omega)).trans (Below.agree hb4 (by simp)))
      have P4 : Hid (Below wr.heap.size wr w4) := (P3.out.setCell (Nat.le_refl _) _).trans (hb4.mono (by simp; omega))
      have k4 := fun o => hb4.cell (p := ⟨wr.heap.size, o, none⟩) (by simp; omega)
      have j4 := fun o => hb4.frozen (p := ⟨wr.heap.size, o, none⟩) (by simp; omega)
      clear hb4
      go_wp2_with fail
      refine (IS.out a3 c3 _ (K3.out _ ?b0) e2 E3.out).mono ?_
      case b0 => exact P4.out.setCell (Nat.le_refl _) _
      rintro e w5 ⟨b3, f3, rfl, A3, hb5⟩
      have z5 : w4.heap.size ≤ w5.heap.size := by have := hb5.size; simpa using this
      have A9 : Hid (Parts (wr.heap.size + 1) w5.heap.size w5 b1 b2 b3 h sub) := ⟨w3.heap.size, w4.heap.size, by omega, z4, z5,
        OwnR.wide (OwnR.keep A1.out ((Agree.setCell (by simp <;> omega)).trans (Below.agree hb5 (by simp; omega)))) (by omega) (Nat.le_refl _),
        OwnR.keep A2.out ((Agree.setCell (by simp <;> omega)).trans (Below.agree hb5 (by simp))), SelOwn.wide A3 (by simp) (Nat.le_refl _)⟩
      have P5 : Hid (Below wr.heap.size wr w5) := (P4.out.setCell (Nat.le_refl _) _).trans (hb5.mono (by simp; omega))
      have k5 := fun o => hb5.cell (p := ⟨wr.heap.size, o, none⟩) (by simp; omega)
      have j5 := fun o => hb5.frozen (p := ⟨wr.heap.size, o, none⟩) (by simp; omega)
      have HH1 : Hid (w5.heap[w.heap.size]? = some (.cells cs 63 (0, 0))) := (P5.out.block _ hN).trans HH.out
      obtain ⟨v0, hv0⟩ : ∃ v, w5.cell? ⟨w.heap.size, k * 6, none⟩ = some v := ⟨_, (row_cell HH1.out _).trans (Array.getElem?_eq_getElem (by omega))⟩
      obtain ⟨v1, hv1⟩ : ∃ v, w5.cell? ⟨w.heap.size, k * 6 + 1, none⟩ = some v := ⟨_, (row_cell HH1.out _).trans (Array.getElem?_eq_getElem (by omega))⟩
      obtain ⟨v2, hv2⟩ : ∃ v, w5.cell? ⟨w.heap.size, k * 6 + 2, none⟩ = some v := ⟨_, (row_cell HH1.out _).trans (Array.getElem?_eq_getElem (by omega))⟩
      obtain ⟨v3, hv3⟩ : ∃ v, w5.cell? ⟨w.heap.size, k * 6 + 3, none⟩ = some v := ⟨_, (row_cell HH1.out _).trans (Array.getElem?_eq_getElem (by omega))⟩
      obtain ⟨v4, hv4⟩ : ∃ v, w5.cell? ⟨w.heap.size, k * 6 + 4, none⟩ = some v := ⟨_, (row_cell HH1.out _).trans (Array.getElem?_eq_getElem (by omega))⟩
      obtain ⟨v5, hv5⟩ : ∃ v, w5.cell? ⟨w.heap.size, k * 6 + 5, none⟩ = some v := ⟨_, (row_cell HH1.out _).trans (Array.getElem?_eq_getElem (by omega))⟩
      have hf0 := row_frozen HH1.out (k * 6)
      have hf1 := row_frozen HH1.out (k * 6 + 1)
      have hf2 := row_frozen HH1.out (k * 6 + 2)
      have hf3 := row_frozen HH1.out (k * 6 + 3)
      have hf4 := row_frozen HH1.out (k * 6 + 4)
      have hf5 := row_frozen HH1.out (k * 6 + 5)
      have QB : Hid (Below w.heap.size w w5) := hb.trans (P5.out.mono hb.size)
      clear hb5 A3
      go_wp2_with fail
      have G : ∀ W' : World, W'.heap.size = w5.heap.size → (∀ g, w.heap.size < g → g < w5.heap.size → g ≠ wr.heap.size → W'.heap[g]? = w5.heap[g]?) → Hid (SelSeq W' (app (pre ++ [(h, sub)]) .nil) (put6 cs (k * 6) (.int .i64 h.k) (.string h.al) (.string h.nm) (.slice b1 h.args.length f1) (.slice b2 h.dirs.length f2) (.slice b3 sub.len f3)) 0 (w.heap.size + 1) W'.heap.size) := by
        intro W' hw ha
        unfold Hid
        rw [hw]
        exact SelSeq.lay HP.out.2 (by omega) HL.out (fun g h1 h2 => (ha g (by omega) (by omega) (by omega)).trans (P5.out.block g h2)) (Parts.wide (Parts.keep A9.out fun g h1 h2 => ha g (by omega) h2 (by omega)) (by omega) (Nat.le_refl _))
      have HH6 : ∀ v, (w5.setCell ⟨wr.heap.size, 5, none⟩ v).heap[w.heap.size]? = some (.cells cs 63 (0, 0)) := fun v => by rw [heap_set _ _ _ _ _ (by omega)]; exact HH1.out
      refine ⟨⟨k + 1, _, pre ++ [(h, sub)], rest, HK2, by go_num, ?_, ⟨by rw [app_snoc]; exact HP.out.1, by simp [HP.out.2]⟩, HZ2, E4, HF2, row_set (row_set (row_set (row_set (row_set (row_set (HH6 _) _ _) _ _) _ _) _ _) _ _) _ _, ?_, ?_⟩, by simp [intOf]; omega⟩
      · repeat (refine Below.setCell ?_ (by first | exact Nat.le_refl _ | exact Nat.le_of_lt hN) _)
        exact QB.out
      · simp only [Array.size_setIfInBounds]; exact hcs
      · refine G _ (by simp) ?_
        intro g h1 h2 h3
        repeat rw [heap_set _ _ _ _ _ (by omega)]

set_option maxHeartbeats 4000000 in
set_option maxRecDepth 40000 in
theorem clone_def (x : De) (a3 : Option Addr) (c3 : Nat) (w : World) (r3 : SelRow 0 w.heap.size w a3 x.sels) (hb : DeBd 1048576 x) :
    Calls Try.prog 19 #[.agg #[.int .i64 x.k, .string x.nm, .string x.on, .slice a3 x.sels.len c3]] w fun e w' =>
      ∃ b3 d3, e = .returned (.agg #[.int .i64 x.k, .string x.nm, .string x.on, .slice b3 x.sels.len d3]) ∧ SelOwn w.heap.size w'.heap.size w' b3 x.sels ∧ Below w.heap.size w w' := by
  obtain ⟨x1, x2, x3, x4⟩ := hb
  have K3 : Hid (∀ W0, Below w.heap.size w W0 → SelRow 0 W0.heap.size W0 a3 x.sels) := fun W0 hB => SelRow.up r3 hB
  have HS : Hid (SelsBd 1048576 x.sels) := x4
  clear r3 x4
  go_enter Try.func19, Try.ntmps19
  go_wp2_with fail
  refine (clone_str _ _ x1).mono ?_
  rintro e w1 ⟨rfl, hb1⟩
  have z1 : w.heap.size + 2 ≤ w1.heap.size := by have := hb1.size; simp at this; omega
  have Q1 : Hid (Below w.heap.size w w1) := by
    refine Below.trans ?_ (hb1.mono (by first | omega | (simp <;> omega)))
    repeat (first | exact Below.refl _ _ | refine Below.setCell ?_ (by first | omega | (simp <;> omega)) _ | refine Below.alloc ?_ (by first | omega | (simp <;> omega)) _)
  have k10 := fun o => hb1.cell (p := ⟨w.heap.size, o, none⟩) (by first | omega | (simp <;> omega))
  have k11 := fun o => hb1.cell (p := ⟨w.heap.size + 1, o, none⟩) (by first | omega | (simp <;> omega))
  have j10 := fun o => hb1.frozen (p := ⟨w.heap.size, o, none⟩) (by first | omega | (simp <;> omega))
  have j11 := fun o => hb1.frozen (p := ⟨w.heap.size + 1, o, none⟩) (by first | omega | (simp <;> omega))
  clear hb1
  go_wp2_with fail
  refine (clone_str _ _ x2).mono ?_
  rintro e w2 ⟨rfl, hb2⟩
  have z2 : w1.heap.size ≤ w2.heap.size := by have := hb2.size; simpa using this
  have Q2 : Hid (Below w.heap.size w w2) := (Q1.out.setCell (Nat.le_refl _) _).trans (hb2.mono (by first | omega | (simp <;> omega)))
  have k20 := fun o => hb2.cell (p := ⟨w.heap.size, o, none⟩) (by first | omega | (simp <;> omega))
  have k21 := fun o => hb2.cell (p := ⟨w.heap.size + 1, o, none⟩) (by first | omega | (simp <;> omega))
  have j20 := fun o => hb2.frozen (p := ⟨w.heap.size, o, none⟩) (by first | omega | (simp <;> omega))
  have j21 := fun o => hb2.frozen (p := ⟨w.heap.size + 1, o, none⟩) (by first | omega | (simp <;> omega))
  clear hb2
  go_wp2_with fail
  refine (clone_sels x.sels a3 c3 _ (K3.out _ ?b0) x3 HS.out).mono ?_
  case b0 => exact Q2.out.setCell (Nat.le_refl _) _
  rintro e w3 ⟨b3, d3, rfl, A3, hb3⟩
  have z3 : w2.heap.size ≤ w3.heap.size := by have := hb3.size; simpa using this
  have A3 : Hid (SelOwn (w.heap.size + 2) w3.heap.size w3 b3 x.sels) := SelOwn.wide A3 (by first | omega | (simp <;> omega)) (Nat.le_refl _)
  have Q3 : Hid (Below w.heap.size w w3) := (Q2.out.setCell (Nat.le_refl _) _).trans (hb3.mono (by first | omega | (simp <;> omega)))
  have k30 := fun o => hb3.cell (p := ⟨w.heap.size, o, none⟩) (by first | omega | (simp <;> omega))
  have k31 := fun o => hb3.cell (p := ⟨w.heap.size + 1, o, none⟩) (by first | omega | (simp <;> omega))
  have j30 := fun o => hb3.frozen (p := ⟨w.heap.size, o, none⟩) (by first | omega | (simp <;> omega))
  have j31 := fun o => hb3.frozen (p := ⟨w.heap.size + 1, o, none⟩) (by first | omega | (simp <;> omega))
  clear hb3
  go_wp2_with fail
  refine bodyPost_ret (v := .agg #[.int .i64 x.k, .string x.nm, .string x.on, .slice b3 x.sels.len d3]) (by simp [results, Try.results19, go_sem, k31, k21, k11]) rfl ⟨b3, d3, rfl, ?_⟩
  have G : ∀ W' : World, W'.heap.size = w3.heap.size → Agree (w.heap.size + 2) w3.heap.size w3 W' → Below w.heap.size w W' → SelOwn w.heap.size W'.heap.size W' b3 x.sels ∧ Below w.heap.size w W' :=
    fun W' hw ha hB => ⟨SelOwn.wide (SelOwn.keep A3.out ha) (by omega) (by omega), hB⟩
  refine G _ (by simp) ?_ ?_
  · intro g h1 h2
    repeat rw [heap_set _ _ _ _ _ (by omega)]
  · repeat (refine Below.setCell ?_ (by first | omega | (simp <;> omega)) _)
    exact Q3.out
end Go.Proofs.Ytajjaddlalbnmaa
