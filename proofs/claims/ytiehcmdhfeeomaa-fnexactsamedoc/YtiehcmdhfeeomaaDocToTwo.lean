/- What the law copies of a document: selections, definitions, the document. -/
import Derived.Test.YtiehcmdhfeeomaaDocTo
namespace Go.Proofs.Ytiehcmdhfeeomaa
open Go.ChangeShapes Go.WideShapes Go.ChangeAt Go.RowKit
set_option linter.unusedVariables false

theorem heap_set (w : World) (b o : Nat) (v : Value) (g : Nat) (h : g ≠ b) : (w.setCell ⟨b, o, none⟩ v).heap[g]? = w.heap[g]? := Below.heap_setCell _ _ _ _ h
def ToSels (l : Sels) : Prop := ∀ (a : Option Addr) (c : Nat) (w : World), SelRow 0 w.heap.size w a l → l.len ≤ 1048576 → SelsBd 1048576 l →
    Calls Try.prog 58 #[.slice a l.len c] w fun e w' => ∃ a' c', e = .returned (.slice a' l.len c') ∧ SelRow w.heap.size w'.heap.size w' a' l ∧ Below w.heap.size w w'

set_option maxHeartbeats 2000000 in
theorem to_sel (h : Hd) (sub : Sels) (ih : ToSels sub) (a1 a2 a3 : Option Addr) (c1 c2 c3 : Nat) (w : World) (r1 : ArRow 0 w.heap.size w a1 h.args) (r2 : DiRow 0 w.heap.size w a2 h.dirs) (r3 : SelRow 0 w.heap.size w a3 sub)
    (hb : HdBd 1048576 h) (hl : sub.len ≤ 1048576) (hs : SelsBd 1048576 sub) :
    Calls Try.prog 77 #[.agg #[.int .i64 h.k, .string h.al, .string h.nm, .slice a1 h.args.length c1, .slice a2 h.dirs.length c2, .slice a3 sub.len c3]] w fun e w' =>
      ∃ b1 d1 b2 d2 b3 d3, e = .returned (.agg #[.int .i64 h.k, .string h.al, .string h.nm, .slice b1 h.args.length d1, .slice b2 h.dirs.length d2, .slice b3 sub.len d3]) ∧
        ArRow w.heap.size w'.heap.size w' b1 h.args ∧ DiRow w.heap.size w'.heap.size w' b2 h.dirs ∧ SelRow w.heap.size w'.heap.size w' b3 sub ∧ Below w.heap.size w w' := by
  obtain ⟨x1, x2, x3, x4, x5, x6⟩ := hb
  have K1 : Hid (∀ W0, Below w.heap.size w W0 → ArRow 0 W0.heap.size W0 a1 h.args) := fun W0 hB => Row.up r1 hB
  have K2 : Hid (∀ W0, Below w.heap.size w W0 → DiRow 0 W0.heap.size W0 a2 h.dirs) := fun W0 hB => Row.up r2 hB
  have K3 : Hid (∀ W0, Below w.heap.size w W0 → SelRow 0 W0.heap.size W0 a3 sub) := fun W0 hB => SelRow.up r3 hB
  have HI : Hid (ToSels sub) := ih
  have HS : Hid (SelsBd 1048576 sub) := hs
  clear r1 r2 r3 ih hs x4 x6
  go_enter Try.func77, Try.ntmps77
  go_wp2_with fail
  refine (to_args a1 c1 h.args _ (K1.out _ ?b0) x3).mono ?_
  case b0 => repeat (first | exact Below.refl _ _ | refine Below.setCell ?_ (by simp <;> omega) _ | refine Below.alloc ?_ (by simp <;> omega) _)
  rintro e w1 ⟨b1, d1, rfl, A1, hb1⟩
  have hz1 : w.heap.size + 3 ≤ w1.heap.size := by have := hb1.size; simp at this; omega
  have A1 : Hid (ArRow (w.heap.size + 3) w1.heap.size w1 b1 h.args) := Row.wide A1 (by simp <;> omega) (Nat.le_refl _)
  have q1 : Below w.heap.size w w1 := by
    refine Below.trans ?_ (hb1.mono (by simp <;> omega))
    repeat (first | exact Below.refl _ _ | refine Below.setCell ?_ (by simp <;> omega) _ | refine Below.alloc ?_ (by simp <;> omega) _)
  have k10 := fun o => hb1.cell (p := ⟨w.heap.size, o, none⟩) (by simp <;> omega)
  have k11 := fun o => hb1.cell (p := ⟨w.heap.size + 1, o, none⟩) (by simp <;> omega)
  have k12 := fun o => hb1.cell (p := ⟨w.heap.size + 1 + 1, o, none⟩) (by simp <;> omega)
  have j11 := fun o => hb1.frozen (p := ⟨w.heap.size + 1, o, none⟩) (by simp <;> omega)
  have j12 := fun o => hb1.frozen (p := ⟨w.heap.size + 1 + 1, o, none⟩) (by simp <;> omega)
  have Q1 : Hid _ := q1
  clear hb1 q1
  go_wp2_with fail
  refine (to_dirs a2 c2 h.dirs _ (K2.out _ ?b0) x5).mono ?_
  case b0 => exact Below.setCell Q1.out (by simp <;> omega) _
  rintro e w2 ⟨b2, d2, rfl, A2, hb2⟩
  have hz2 : w1.heap.size ≤ w2.heap.size := by have := hb2.size; simpa using this
  have A2 : Hid (DiRow (w.heap.size + 3) w2.heap.size w2 b2 h.dirs) := Row.wide A2 (by simp <;> omega) (Nat.le_refl _)
  have A1 : Hid (ArRow (w.heap.size + 3) w2.heap.size w2 b1 h.args) := Row.wide (Row.keep A1.out ((Agree.setCell (by simp <;> omega)).trans (Below.agree hb2 (by simp)))) (Nat.le_refl _) hz2
  have q2 : Below w.heap.size w w2 := (Below.setCell Q1.out (by simp <;> omega) _).trans (hb2.mono (by simp <;> omega))
  have k20 := fun o => hb2.cell (p := ⟨w.heap.size, o, none⟩) (by simp <;> omega)
  have k21 := fun o => hb2.cell (p := ⟨w.heap.size + 1, o, none⟩) (by simp <;> omega)
  have k22 := fun o => hb2.cell (p := ⟨w.heap.size + 1 + 1, o, none⟩) (by simp <;> omega)
  have j21 := fun o => hb2.frozen (p := ⟨w.heap.size + 1, o, none⟩) (by simp <;> omega)
  have j22 := fun o => hb2.frozen (p := ⟨w.heap.size + 1 + 1, o, none⟩) (by simp <;> omega)
  have Q2 : Hid _ := q2
  clear hb2 q2
  go_wp2_with fail
  refine (HI.out a3 c3 _ (K3.out _ ?b0) hl HS.out).mono ?_
  case b0 => exact Below.setCell Q2.out (by simp <;> omega) _
  rintro e w3 ⟨b3, d3, rfl, A3, hb3⟩
  have hz3 : w2.heap.size ≤ w3.heap.size := by have := hb3.size; simpa using this
  have A3 : Hid (SelRow (w.heap.size + 3) w3.heap.size w3 b3 sub) := SelRow.wide A3 (by simp <;> omega) (Nat.le_refl _)
  have A2 : Hid (DiRow (w.heap.size + 3) w3.heap.size w3 b2 h.dirs) := Row.wide (Row.keep A2.out ((Agree.setCell (by simp <;> omega)).trans (Below.agree hb3 (by simp)))) (Nat.le_refl _) hz3
  have A1 : Hid (ArRow (w.heap.size + 3) w3.heap.size w3 b1 h.args) := Row.wide (Row.keep A1.out ((Agree.setCell (by simp <;> omega)).trans (Below.agree hb3 (by simp)))) (Nat.le_refl _) hz3
  have q3 : Below w.heap.size w w3 := (Below.setCell Q2.out (by simp <;> omega) _).trans (hb3.mono (by simp <;> omega))
  have k31 := fun o => hb3.cell (p := ⟨w.heap.size + 1, o, none⟩) (by simp <;> omega)
  have k32 := fun o => hb3.cell (p := ⟨w.heap.size + 1 + 1, o, none⟩) (by simp <;> omega)
  have j31 := fun o => hb3.frozen (p := ⟨w.heap.size + 1, o, none⟩) (by simp <;> omega)
  have j32 := fun o => hb3.frozen (p := ⟨w.heap.size + 1 + 1, o, none⟩) (by simp <;> omega)
  have Q3 : Hid _ := q3
  clear hb3 q3
  go_wp2_with fail
  refine bodyPost_ret (v := .agg #[.int .i64 h.k, .string h.al, .string h.nm, .slice b1 h.args.length d1, .slice b2 h.dirs.length d2, .slice b3 sub.len d3]) (by simp [results, Try.results77, go_sem, k11, k21, k31]) rfl ⟨b1, d1, b2, d2, b3, d3, rfl, ?_⟩
  have G : ∀ W' : World, W'.heap.size = w3.heap.size → Agree (w.heap.size + 3) w3.heap.size w3 W' → Below w.heap.size w W' → ArRow w.heap.size W'.heap.size W' b1 h.args ∧ DiRow w.heap.size W'.heap.size W' b2 h.dirs ∧ SelRow w.heap.size W'.heap.size W' b3 sub ∧ Below w.heap.size w W' :=
    fun W' hw ha hB => ⟨Row.wide (Row.keep A1.out ha) (by omega) (by omega), Row.wide (Row.keep A2.out ha) (by omega) (by omega), SelRow.wide (SelRow.keep A3.out ha) (by omega) (by omega), hB⟩
  refine G _ (by simp) ?_ ?_
  · intro g h1 h2
    repeat rw [heap_set _ _ _ _ _ (by omega)]
  · repeat (refine Below.setCell ?_ (by simp <;> omega) _)
    exact Q3.out

set_option maxRecDepth 100000 in
theorem info_sel : ∃ i, Try.prog.info? 108 = some i ∧ i.zero = some (.agg #[.int .i64 0, .string ⟨#[]⟩, .string ⟨#[]⟩, .slice none 0 0, .slice none 0 0, .slice none 0 0]) ∧ i.size = 6 ∧ i.bytes = 112 := by
  refine ⟨_, rfl, ?_, ?_, ?_⟩ <;> kernel_rfl
def put6 (cs : Array Value) (k : Nat) (v0 v1 v2 v3 v4 v5 : Value) : Array Value := ((((((cs.setIfInBounds k v0).setIfInBounds (k + 1) v1).setIfInBounds (k + 2) v2).setIfInBounds (k + 3) v3).setIfInBounds (k + 4) v4).setIfInBounds (k + 5) v5)
theorem put6_size (cs : Array Value) (k : Nat) (v0 v1 v2 v3 v4 v5 : Value) : (put6 cs k v0 v1 v2 v3 v4 v5).size = cs.size := by simp [put6]
theorem put6_at {cs : Array Value} {k : Nat} {v0 v1 v2 v3 v4 v5 : Value} (h : k + 5 < cs.size) : (put6 cs k v0 v1 v2 v3 v4 v5)[k]? = some v0 ∧ (put6 cs k v0 v1 v2 v3 v4 v5)[k + 1]? = some v1 ∧ (put6 cs k v0 v1 v2 v3 v4 v5)[k + 2]? = some v2 ∧ (put6 cs k v0 v1 v2 v3 v4 v5)[k + 3]? = some v3 ∧ (put6 cs k v0 v1 v2 v3 v4 v5)[k + 4]? = some v4 ∧ (put6 cs k v0 v1 v2 v3 v4 v5)[k + 5]? = some v5 := by
  unfold put6
  refine ⟨?_, ?_, ?_, ?_, ?_, ?_⟩ <;> simp [Array.getElem?_setIfInBounds] <;> omega
theorem put6_else {cs : Array Value} {k : Nat} {v0 v1 v2 v3 v4 v5 : Value} {j : Nat} (h : j < k) : (put6 cs k v0 v1 v2 v3 v4 v5)[j]? = cs[j]? := by
  unfold put6
  rw [Array.getElem?_setIfInBounds_ne (by omega), Array.getElem?_setIfInBounds_ne (by omega), Array.getElem?_setIfInBounds_ne (by omega), Array.getElem?_setIfInBounds_ne (by omega), Array.getElem?_setIfInBounds_ne (by omega), Array.getElem?_setIfInBounds_ne (by omega)]

set_option maxHeartbeats 2000000 in
theorem to_sels (l : Sels) : ToSels l := by
  induction hN : l.size using Nat.strongRecOn generalizing l with
  | _ N ih =>
  subst hN
  intro a c w hr hl hbd
  have IH : Hid (∀ sub : Sels, sub.size < l.size → ToSels sub) := fun sub hsub => ih sub.size hsub sub rfl
  have HR : Hid (SelFrom 0 w.heap.size w a 0 l) := hr.from_
  have HB : Hid (SelsBd 1048576 l) := hbd
  clear hr ih hbd
  obtain ⟨i27, hi, hz, hsz, hby⟩ := info_sel
  have hmk := run_make (P := Try.prog) w 69 108 i27 _ Try.underlying69 hi hz .i64 .i64 (l.len : Int) (l.len : Int) (by omega) (by omega) (by rw [hby]; omega) (by omega)
  rw [hsz, Int.toNat_natCast] at hmk
  clear hi hz hsz hby
  have hs0 := size_madeCells (Value.agg #[.int .i64 0, .string ⟨#[]⟩, .string ⟨#[]⟩, .slice none 0 0, .slice none 0 0, .slice none 0 0]).cells (l.len * 6)
  generalize madeCells (Value.agg #[.int .i64 0, .string ⟨#[]⟩, .string ⟨#[]⟩, .slice none 0 0, .slice none 0 0, .slice none 0 0]).cells (l.len * 6) = cs0 at *
  go_enter Try.func58, Try.ntmps58
  go_wp2_with fail
  go_loopw [4] (fun i w' => ∃ (k : Nat) (cs : Array Value) (pre : List (Hd × Sels)) (rest : Sels), Hid (l.len = k + rest.len) ∧ i = .int .i64 k ∧ Below w.heap.size w w' ∧ Hid (l = app pre rest ∧ pre.length = k) ∧ Hid (rest.size ≤ l.size) ∧ Hid (SelsBd 1048576 rest) ∧ Hid (SelFrom 0 w.heap.size w a k rest) ∧ Hid (w'.heap[w.heap.size]? = some (.cells cs 108 (0, 0))) ∧ cs.size = l.len * 6 ∧ Hid (SelPre (w.heap.size + 1) w'.heap.size w' l (fun j => cs[j]?) 0 k)) (fun i _ => l.len - (intOf i).toNat)
  case atStart => exact ⟨0, cs0, [], l, by simp [Hid], rfl, (Below.refl _ _).alloc (Nat.le_refl _) _, ⟨rfl, rfl⟩, Nat.le_refl _, HB, HR, heap_alloc_new _ _, hs0, by
      unfold Hid
      cases l with
      | nil => exact trivial
      | cons _ _ _ => exact .inl rfl⟩
  case round =>
    rename_i wr
    obtain ⟨k, cs, pre, rest, HK, rfl, hb, HP, HZ, HD, HF, HH, hcs, HL⟩ := hrel
    clear hmk hs0
    cases rest with
    | nil =>
      have hk' : ¬ k < l.len := by rw [HK.out]; simp only [Sels.len]; omega
      go_wp2_with fail
      go_ret
      refine ⟨_, _, rfl, ?_, hb⟩
      have hkl : l.len = k := by rw [HK.out]; rfl
      refine .inr ⟨w.heap.size, 0, rfl, Nat.le_refl _, (Array.getElem?_eq_some_iff.1 HH.out).1, ?_⟩
      rw [row_rd HH.out, hkl]
      exact HL.out.wide (by omega) (Nat.le_refl _)
    | cons h sub rest =>
      have hlt : k < l.len := by rw [HK.out]; simp only [Sels.len]; omega
      have HK2 : Hid (l.len = k + 1 + rest.len) := by rw [Hid, HK.out]; simp only [Sels.len]; omega
      obtain ⟨b, o, a1, c1, a2, c2, a3, c3, ha, _, hbl, d0, d1, d2, d3, d4, d5, r1, r2, r3, _⟩ := (HF.out.keep (Below.agree hb (Nat.le_refl _))).step
      have HF2 : Hid (SelFrom 0 w.heap.size w a (k + 1) rest) := SelFrom.next HF.out
      subst ha
      have R1 : Hid (ArRow 0 wr.heap.size wr a1 h.args) := Row.wide r1 (Nat.le_refl _) hb.size
      have R2 : Hid (DiRow 0 wr.heap.size wr a2 h.dirs) := Row.wide r2 (Nat.le_refl _) hb.size
      have R3 : Hid (SelRow 0 wr.heap.size wr a3 sub) := SelRow.wide r3 (Nat.le_refl _) hb.size
      have HD' := HD.out
      obtain ⟨e1, e2, e3, e4⟩ := HD'
      have E1 : Hid (HdBd 1048576 h) := e1
      have E3 : Hid (SelsBd 1048576 sub) := e3
      have E4 : Hid (SelsBd 1048576 rest) := e4
      have HZ2 : Hid (rest.size ≤ l.size) := by have := HZ.out; simp only [Sels.size] at this; unfold Hid; omega
      have IS : Hid (ToSels sub) := IH.out sub (by have := HZ.out; simp only [Sels.size] at this; omega)
      clear r1 r2 r3 e1 e3 e4
      go_wp2_with fail
      refine (to_sel h sub IS.out a1 a2 a3 c1 c2 c3 _ R1.out R2.out R3.out E1.out e2 E3.out).mono ?_
      rintro e w1 ⟨b1, f1, b2, f2, b3, f3, rfl, A1, A2, A3, hb1⟩
      have A1 : Hid (ArRow wr.heap.size w1.heap.size w1 b1 h.args) := A1
      have A2 : Hid (DiRow wr.heap.size w1.heap.size w1 b2 h.dirs) := A2
      have A3 : Hid (SelRow wr.heap.size w1.heap.size w1 b3 sub) := A3
      have hN : w.heap.size < wr.heap.size := (Array.getElem?_eq_some_iff.1 HH.out).1
      have HH1 : Hid (w1.heap[w.heap.size]? = some (.cells cs 108 (0, 0))) := (hb1.block _ hN).trans HH.out
      have HL1 : Hid (SelPre (w.heap.size + 1) w1.heap.size w1 l (fun j => cs[j]?) 0 k) := SelPre.wide (Nat.le_refl _) hb1.size (SelPre.keep (Below.agree hb1 (Nat.le_refl _)) HL.out)
      obtain ⟨v0, hv0⟩ : ∃ v, w1.cell? ⟨w.heap.size, k * 6, none⟩ = some v := ⟨_, (row_cell HH1.out _).trans (Array.getElem?_eq_getElem (by omega))⟩
      obtain ⟨v1, hv1⟩ : ∃ v, w1.cell? ⟨w.heap.size, k * 6 + 1, none⟩ = some v := ⟨_, (row_cell HH1.out _).trans (Array.getElem?_eq_getElem (by omega))⟩
      obtain ⟨v2, hv2⟩ : ∃ v, w1.cell? ⟨w.heap.size, k * 6 + 2, none⟩ = some v := ⟨_, (row_cell HH1.out _).trans (Array.getElem?_eq_getElem (by omega))⟩
      obtain ⟨v3, hv3⟩ : ∃ v, w1.cell? ⟨w.heap.size, k * 6 + 3, none⟩ = some v := ⟨_, (row_cell HH1.out _).trans (Array.getElem?_eq_getElem (by omega))⟩
      obtain ⟨v4, hv4⟩ : ∃ v, w1.cell? ⟨w.heap.size, k * 6 + 4, none⟩ = some v := ⟨_, (row_cell HH1.out _).trans (Array.getElem?_eq_getElem (by omega))⟩
      obtain ⟨v5, hv5⟩ : ∃ v, w1.cell? ⟨w.heap.size, k * 6 + 5, none⟩ = some v := ⟨_, (row_cell HH1.out _).trans (Array.getElem?_eq_getElem (by omega))⟩
      have hf0 := row_frozen HH1.out (k * 6)
      have hf1 := row_frozen HH1.out (k * 6 + 1)
      have hf2 := row_frozen HH1.out (k * 6 + 2)
      have hf3 := row_frozen HH1.out (k * 6 + 3)
      have hf4 := row_frozen HH1.out (k * 6 + 4)
      have hf5 := row_frozen HH1.out (k * 6 + 5)
      have qb : Hid _ := hb.trans (hb1.mono hb.size)
      have hz1 := hb1.size
      clear d0 d1 d2 d3 d4 d5
      go_wp2_with fail
      have G : ∀ W' : World, W'.heap.size = w1.heap.size → Agree (w.heap.size + 1) w1.heap.size w1 W' → Hid (SelPre (w.heap.size + 1) W'.heap.size W' l (fun j => (put6 cs (k * 6) (.int .i64 h.k) (.string h.al) (.string h.nm) (.slice b1 h.args.length f1) (.slice b2 h.dirs.length f2) (.slice b3 sub.len f3))[j]?) 0 (k + 1)) := by
        intro W' hw ha
        obtain ⟨hp1, hp2⟩ := HP.out
        have P1 := SelPre.cells (rd' := fun j => (put6 cs (k * 6) (.int .i64 h.k) (.string h.al) (.string h.nm) (.slice b1 h.args.length f1) (.slice b2 h.dirs.length f2) (.slice b3 sub.len f3))[j]?) (SelPre.keep ha HL1.out) (fun j _ hj => put6_else (by omega))
        obtain ⟨g0, g1, g2, g3, g4, g5⟩ := put6_at (cs := cs) (k := k * 6) (v0 := .int .i64 h.k) (v1 := .string h.al) (v2 := .string h.nm) (v3 := .slice b1 h.args.length f1) (v4 := .slice b2 h.dirs.length f2) (v5 := .slice b3 sub.len f3) (by omega)
        have wA1 : ArRow (w.heap.size + 1) w1.heap.size W' b1 h.args := Row.wide (Row.keep A1.out (fun g h1 h2 => ha g (by omega) h2)) (by omega) (Nat.le_refl _)
        have wA2 : DiRow (w.heap.size + 1) w1.heap.size W' b2 h.dirs := Row.wide (Row.keep A2.out (fun g h1 h2 => ha g (by omega) h2)) (by omega) (Nat.le_refl _)
        have wA3 : SelRow (w.heap.size + 1) w1.heap.size W' b3 sub := SelRow.wide (SelRow.keep A3.out (fun g h1 h2 => ha g (by omega) h2)) (by omega) (Nat.le_refl _)
        unfold Hid
        rw [hw]
        rw [hp1] at P1 ⊢
        rw [← hp2] at P1 g0 g1 g2 g3 g4 g5 ⊢
        refine SelPre.more pre P1 ?_ ?_
        · rw [show 0 + 6 * pre.length = pre.length * 6 by omega]
          exact ⟨g0, g1, g2, ⟨b1, f1, g3, wA1⟩, ⟨b2, f2, g4, wA2⟩⟩
        · rw [show 0 + 6 * pre.length + 5 = pre.length * 6 + 5 by omega]
          exact ⟨b3, f3, g5, wA3⟩
      refine ⟨⟨k + 1, _, pre ++ [(h, sub)], rest, HK2, by go_num, (((((qb.out.setCell (Nat.le_refl _) _).setCell (Nat.le_refl _) _).setCell (Nat.le_refl _) _).setCell (Nat.le_refl _) _).setCell (Nat.le_refl _) _).setCell (Nat.le_refl _) _, ⟨by rw [app_snoc]; exact HP.out.1, by simp [HP.out.2]⟩, HZ2, E4, HF2, row_set (row_set (row_set (row_set (row_set (row_set HH1.out _ _) _ _) _ _) _ _) _ _) _ _, by simp [hcs], ?_⟩, by simp [intOf]; omega⟩
      refine G _ (by simp) ?_
      intro g h1 h2
      repeat rw [heap_set _ _ _ _ _ (by omega)]

set_option maxHeartbeats 2000000 in
theorem to_def (x : De) (a3 : Option Addr) (c3 : Nat) (w : World) (r3 : SelRow 0 w.heap.size w a3 x.sels) (hb : DeBd 1048576 x) :
    Calls Try.prog 41 #[.agg #[.int .i64 x.k, .string x.nm, .string x.on, .slice a3 x.sels.len c3]] w fun e w' =>
      ∃ b3 d3, e = .returned (.agg #[.int .i64 x.k, .string x.nm, .string x.on, .slice b3 x.sels.len d3]) ∧ SelRow w.heap.size w'.heap.size w' b3 x.sels ∧ Below w.heap.size w w' := by
  obtain ⟨x1, x2, x3, x4⟩ := hb
  have K3 : Hid (∀ W0, Below w.heap.size w W0 → SelRow 0 W0.heap.size W0 a3 x.sels) := fun W0 hB => SelRow.up r3 hB
  have HS : Hid (SelsBd 1048576 x.sels) := x4
  clear r3 x4
  go_enter Try.func41, Try.ntmps41
  go_wp2_with fail
  refine (to_sels x.sels a3 c3 _ (K3.out _ ?b0) x3 HS.out).mono ?_
  case b0 => repeat (first | exact Below.refl _ _ | refine Below.setCell ?_ (by simp <;> omega) _ | refine Below.alloc ?_ (by simp <;> omega) _)
  rintro e w3 ⟨b3, d3, rfl, A3, hb3⟩
  have hz3 : w.heap.size + 3 ≤ w3.heap.size := by have := hb3.size; simp at this; omega
  have A3 : Hid (SelRow (w.heap.size + 3) w3.heap.size w3 b3 x.sels) := SelRow.wide A3 (by simp <;> omega) (Nat.le_refl _)
  have q3 : Below w.heap.size w w3 := by
    refine Below.trans ?_ (hb3.mono (by simp <;> omega))
    repeat (first | exact Below.refl _ _ | refine Below.setCell ?_ (by simp <;> omega) _ | refine Below.alloc ?_ (by simp <;> omega) _)
  have k31 := fun o => hb3.cell (p := ⟨w.heap.size + 1, o, none⟩) (by simp <;> omega)
  have k32 := fun o => hb3.cell (p := ⟨w.heap.size + 1 + 1, o, none⟩) (by simp <;> omega)
  have j31 := fun o => hb3.frozen (p := ⟨w.heap.size + 1, o, none⟩) (by simp <;> omega)
  have j32 := fun o => hb3.frozen (p := ⟨w.heap.size + 1 + 1, o, none⟩) (by simp <;> omega)
  have Q3 : Hid _ := q3
  clear hb3 q3
  go_wp2_with fail
  refine bodyPost_ret (v := .agg #[.int .i64 x.k, .string x.nm, .string x.on, .slice b3 x.sels.len d3]) (by simp [results, Try.results41, go_sem, k31]) rfl ⟨b3, d3, rfl, ?_⟩
  have G : ∀ W' : World, W'.heap.size = w3.heap.size → Agree (w.heap.size + 3) w3.heap.size w3 W' → Below w.heap.size w W' → SelRow w.heap.size W'.heap.size W' b3 x.sels ∧ Below w.heap.size w W' :=
    fun W' hw ha hB => ⟨SelRow.wide (SelRow.keep A3.out ha) (by omega) (by omega), hB⟩
  refine G _ (by simp) ?_ ?_
  · intro g h1 h2
    repeat rw [heap_set _ _ _ _ _ (by omega)]
  · repeat (refine Below.setCell ?_ (by simp <;> omega) _)
    exact Q3.out

set_option maxRecDepth 100000 in
theorem info_def : ∃ i, Try.prog.info? 71 = some i ∧ i.zero = some (.agg #[.int .i64 0, .string ⟨#[]⟩, .string ⟨#[]⟩, .slice none 0 0]) ∧ i.size = 4 ∧ i.bytes = 64 := by
  refine ⟨_, rfl, ?_, ?_, ?_⟩ <;> kernel_rfl
theorem LaidR.keep_de {lo hi hi' : Nat} {w w' : World} {cs : Array Value} {l : List De} {k : Nat} (h : LaidR (DeAt lo hi w) 4 cs l k) (ha : Agree lo hi w w') (hh : hi ≤ hi') : LaidR (DeAt lo hi' w') 4 cs l k :=
  fun i x hi hx => ((h i x hi hx).keep ha).wide (Nat.le_refl _) hh
theorem LaidR.put_de {lo hi : Nat} {w : World} {cs : Array Value} {l : List De} {k : Nat} {b3 : Option Addr} {f3 : Nat} (h : LaidR (DeAt lo hi w) 4 cs l k) (hk : k < l.length) (hs : cs.size = l.length * 4) (hr : SelRow lo hi w b3 l[k].sels) :
    LaidR (DeAt lo hi w) 4 (put4 cs (k * 4) (.int .i64 l[k].k) (.string l[k].nm) (.string l[k].on) (.slice b3 l[k].sels.len f3)) l (k + 1) := by
  intro i x hi hx
  by_cases hik : i = k
  · subst hik
    rw [List.getElem?_eq_getElem hk] at hx
    simp only [Option.some.injEq] at hx
    subst hx
    obtain ⟨g0, g1, g2, g3⟩ := put4_at (cs := cs) (k := i * 4) (v0 := .int .i64 l[i].k) (v1 := .string l[i].nm) (v2 := .string l[i].on) (v3 := .slice b3 l[i].sels.len f3) (by omega)
    exact ⟨g0, g1, g2, ⟨b3, f3, g3, hr⟩⟩
  · obtain ⟨c0, c1, c2, ⟨a3, d3, c3, c4⟩⟩ := h i x (by omega) hx
    exact ⟨(put4_else (by omega)).trans c0, (put4_else (by omega)).trans c1, (put4_else (by omega)).trans c2, ⟨a3, d3, (put4_else (by omega)).trans c3, c4⟩⟩

set_option maxHeartbeats 2000000 in
theorem to_defs (a : Option Addr) (c : Nat) (l : List De) (w : World) (hr : DeRow 0 w.heap.size w a l) (hbd : DefsBd 1048576 l) :
    Calls Try.prog 23 #[.slice a l.length c] w fun e w' => ∃ a' c', e = .returned (.slice a' l.length c') ∧ DeRow w.heap.size w'.heap.size w' a' l ∧ Below w.heap.size w w' := by
  obtain ⟨hl, ht⟩ := hbd
  have HR : Hid (DeRow 0 w.heap.size w a l) := hr
  have HT : Hid (∀ x ∈ l, DeBd 1048576 x) := ht
  clear hr ht
  obtain ⟨i27, hi, hz, hsz, hby⟩ := info_def
  have hmk := run_make (P := Try.prog) w 27 71 i27 _ Try.underlying27 hi hz .i64 .i64 (l.length : Int) (l.length : Int) (by omega) (by omega) (by rw [hby]; omega) (by omega)
  rw [hsz, Int.toNat_natCast] at hmk
  clear hi hz hsz hby
  have hs0 := size_madeCells (Value.agg #[.int .i64 0, .string ⟨#[]⟩, .string ⟨#[]⟩, .slice none 0 0]).cells (l.length * 4)
  generalize madeCells (Value.agg #[.int .i64 0, .string ⟨#[]⟩, .string ⟨#[]⟩, .slice none 0 0]).cells (l.length * 4) = cs0 at *
  go_enter Try.func23, Try.ntmps23
  go_wp2_with fail
  go_loopw [4] (fun i w' => ∃ (k : Nat) (cs : Array Value), k ≤ l.length ∧ i = .int .i64 k ∧ Below w.heap.size w w' ∧ Hid (w'.heap[w.heap.size]? = some (.cells cs 71 (0, 0))) ∧ cs.size = l.length * 4 ∧ Hid (LaidR (DeAt (w.heap.size + 1) w'.heap.size w') 4 cs l k)) (fun i _ => l.length - (intOf i).toNat)
  case atStart => exact ⟨0, cs0, by omega, rfl, (Below.refl _ _).alloc (Nat.le_refl _) _, heap_alloc_new _ _, hs0, fun i x h => by omega⟩
  case round =>
    rename_i wr
    obtain ⟨k, cs, hk, rfl, hb, HH, hcs, HL⟩ := hrel
    clear hmk hs0
    by_cases hlt : k < l.length
    · obtain ⟨b, o, a3, c3, ha, _, hbl, d0, d1, d2, d3, r3⟩ := (HR.out.keep (Below.agree hb (Nat.le_refl _))).cells k hlt
      subst ha
      have R3 : Hid (SelRow 0 wr.heap.size wr a3 l[k].sels) := SelRow.wide r3 (Nat.le_refl _) hb.size
      have HX : Hid (DeBd 1048576 l[k]) := HT.out l[k] (List.getElem_mem hlt)
      clear r3
      go_wp2_with fail
      refine (to_def l[k] a3 c3 _ R3.out HX.out).mono ?_
      rintro e w1 ⟨b3, f3, rfl, A3, hb1⟩
      have A3 : Hid (SelRow wr.heap.size w1.heap.size w1 b3 l[k].sels) := A3
      have hN : w.heap.size < wr.heap.size := (Array.getElem?_eq_some_iff.1 HH.out).1
      have HH1 : Hid (w1.heap[w.heap.size]? = some (.cells cs 71 (0, 0))) := (hb1.block _ hN).trans HH.out
      have HL1 : Hid (LaidR (DeAt (w.heap.size + 1) w1.heap.size w1) 4 cs l k) := LaidR.keep_de HL.out (Below.agree hb1 (Nat.le_refl _)) hb1.size
      obtain ⟨v0, hv0⟩ : ∃ v, w1.cell? ⟨w.heap.size, k * 4, none⟩ = some v := ⟨_, (row_cell HH1.out _).trans (Array.getElem?_eq_getElem (by omega))⟩
      obtain ⟨v1, hv1⟩ : ∃ v, w1.cell? ⟨w.heap.size, k * 4 + 1, none⟩ = some v := ⟨_, (row_cell HH1.out _).trans (Array.getElem?_eq_getElem (by omega))⟩
      obtain ⟨v2, hv2⟩ : ∃ v, w1.cell? ⟨w.heap.size, k * 4 + 2, none⟩ = some v := ⟨_, (row_cell HH1.out _).trans (Array.getElem?_eq_getElem (by omega))⟩
      obtain ⟨v3, hv3⟩ : ∃ v, w1.cell? ⟨w.heap.size, k * 4 + 3, none⟩ = some v := ⟨_, (row_cell HH1.out _).trans (Array.getElem?_eq_getElem (by omega))⟩
      have hf0 := row_frozen HH1.out (k * 4)
      have hf1 := row_frozen HH1.out (k * 4 + 1)
      have hf2 := row_frozen HH1.out (k * 4 + 2)
      have hf3 := row_frozen HH1.out (k * 4 + 3)
      have qb : Hid _ := hb.trans (hb1.mono hb.size)
      have hz1 := hb1.size
      clear d0 d1 d2 d3
      go_wp2_with fail
      have G : ∀ W' : World, W'.heap.size = w1.heap.size → Agree (w.heap.size + 1) w1.heap.size w1 W' → Hid (LaidR (DeAt (w.heap.size + 1) W'.heap.size W') 4 (put4 cs (k * 4) (.int .i64 l[k].k) (.string l[k].nm) (.string l[k].on) (.slice b3 l[k].sels.len f3)) l (k + 1)) := by
        intro W' hw ha
        unfold Hid
        rw [hw]
        exact (LaidR.keep_de HL1.out ha (Nat.le_refl _)).put_de hlt hcs (SelRow.wide (SelRow.keep A3.out (fun g h1 h2 => ha g (by omega) h2)) (by omega) (Nat.le_refl _))
      refine ⟨⟨k + 1, _, by omega, by go_num, (((qb.out.setCell (Nat.le_refl _) _).setCell (Nat.le_refl _) _).setCell (Nat.le_refl _) _).setCell (Nat.le_refl _) _, row_set (row_set (row_set (row_set HH1.out _ _) _ _) _ _) _ _, by simp [hcs], ?_⟩, by simp [intOf]; omega⟩
      refine G _ (by simp) ?_
      intro g h1 h2
      repeat rw [heap_set _ _ _ _ _ (by omega)]
    · go_wp2_with fail
      go_ret
      obtain rfl : k = l.length := by omega
      refine ⟨_, _, rfl, ?_, hb⟩
      refine .inr ⟨w.heap.size, 0, rfl, Nat.le_refl _, (Array.getElem?_eq_some_iff.1 HH.out).1, fun i x hx => ?_⟩
      rw [row_rd HH.out, Nat.zero_add]
      exact (HL.out i x (List.getElem?_eq_some_iff.1 hx).1 hx).wide (by omega) (Nat.le_refl _)
set_option maxHeartbeats 2000000 in
theorem to_doc (a : Option Addr) (c : Nat) (l : List De) (w : World) (hr : DeRow 0 w.heap.size w a l) (hbd : DefsBd 1048576 l) :
    Calls Try.prog 8 #[.agg #[.slice a l.length c]] w fun e w' => ∃ a' c', e = .returned (.agg #[.slice a' l.length c']) ∧ DeRow w.heap.size w'.heap.size w' a' l ∧ Below w.heap.size w w' := by
  have K3 : Hid (∀ W0, Below w.heap.size w W0 → DeRow 0 W0.heap.size W0 a l) := fun W0 hB => DeRow.up hr hB
  have HD : Hid _ := hbd
  clear hr hbd
  go_enter Try.func8, Try.ntmps8
  go_wp2_with fail
  refine (to_defs a c l _ (K3.out _ ?b0) HD.out).mono ?_
  case b0 => repeat (first | exact Below.refl _ _ | refine Below.setCell ?_ (by simp <;> omega) _ | refine Below.alloc ?_ (by simp <;> omega) _)
  rintro e w3 ⟨b3, d3, rfl, A3, hb3⟩
  have hz3 : w.heap.size + 3 ≤ w3.heap.size := by have := hb3.size; simp at this; omega
  have A3 : Hid (DeRow (w.heap.size + 3) w3.heap.size w3 b3 l) := DeRow.wide A3 (by simp <;> omega) (Nat.le_refl _)
  have q3 : Below w.heap.size w w3 := by
    refine Below.trans ?_ (hb3.mono (by simp <;> omega))
    repeat (first | exact Below.refl _ _ | refine Below.setCell ?_ (by simp <;> omega) _ | refine Below.alloc ?_ (by simp <;> omega) _)
  have k31 := fun o => hb3.cell (p := ⟨w.heap.size + 1, o, none⟩) (by simp <;> omega)
  have k32 := fun o => hb3.cell (p := ⟨w.heap.size + 1 + 1, o, none⟩) (by simp <;> omega)
  have j31 := fun o => hb3.frozen (p := ⟨w.heap.size + 1, o, none⟩) (by simp <;> omega)
  have j32 := fun o => hb3.frozen (p := ⟨w.heap.size + 1 + 1, o, none⟩) (by simp <;> omega)
  have Q3 : Hid _ := q3
  clear hb3 q3
  go_wp2_with fail
  refine bodyPost_ret (v := .agg #[.slice b3 l.length d3]) (by simp [results, Try.results8, go_sem, k31]) rfl ⟨b3, d3, rfl, ?_⟩
  have G : ∀ W' : World, W'.heap.size = w3.heap.size → Agree (w.heap.size + 3) w3.heap.size w3 W' → Below w.heap.size w W' → DeRow w.heap.size W'.heap.size W' b3 l ∧ Below w.heap.size w W' :=
    fun W' hw ha hB => ⟨DeRow.wide (DeRow.keep A3.out ha) (by omega) (by omega), hB⟩
  refine G _ (by simp) ?_ ?_
  · intro g h1 h2
    repeat rw [heap_set _ _ _ _ _ (by omega)]
  · repeat (refine Below.setCell ?_ (by simp <;> omega) _)
    exact Q3.out
end Go.Proofs.Ytiehcmdhfeeomaa
