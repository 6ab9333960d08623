/- The law's own copies of them. -/
import Derived.Test.YthbjihbpjajggaaGreatGNames
namespace Go.Proofs.YthbjihbpjajggaaGreat.G
open Go.ChangeShapes Go.WideShapes Go.ChangeAt Go.RowKit
set_option linter.unusedVariables false

set_option maxHeartbeats 1000000 in
theorem to_Ag (x : Ag) (w : World) :
    Calls Tryz.prog 142 #[.agg #[.string x.nm, .bool x.need]] w fun e w' => e = .returned (.agg #[.string x.nm, .bool x.need]) ∧ Below w.heap.size w w' := by
  go_enter Tryz.func142, Tryz.ntmps142
  go_wp2
  refine bodyPost_ret (v := .agg #[.string x.nm, .bool x.need]) (by simp [results, Tryz.results142, go_sem]) rfl ⟨rfl, ?_⟩
  repeat (first | exact Below.refl _ _ | refine Below.setCell ?_ (by first | omega | (simp <;> omega)) _ | refine Below.alloc ?_ (by first | omega | (simp <;> omega)) _)
set_option maxRecDepth 100000 in
theorem info_Ag : ∃ i, Tryz.prog.info? 73 = some i ∧ i.zero = some (.agg #[.string ⟨#[]⟩, .bool false]) ∧ i.size = 2 ∧ i.bytes = 24 := by
  refine ⟨_, rfl, ?_, ?_, ?_⟩ <;> kernel_rfl
theorem LaidR.keep_Ag {lo hi hi' : Nat} {w w' : World} {cs : Array Value} {l : List Ag} {k : Nat} (h : LaidR (AgAt lo hi w) 2 cs l k) (ha : Agree lo hi w w') (hh : hi ≤ hi') : LaidR (AgAt lo hi' w') 2 cs l k :=
  fun i x hi hx => AgAt.wide (AgAt.keep (h i x hi hx) ha) (Nat.le_refl _) hh
theorem LaidR.put_Ag {lo hi : Nat} {w : World} {cs : Array Value} {l : List Ag} {k : Nat} (h : LaidR (AgAt lo hi w) 2 cs l k) (hk : k < l.length) (hs : cs.size = l.length * 2) :
    LaidR (AgAt lo hi w) 2 (put2 cs (k * 2) (.string l[k].nm) (.bool l[k].need)) l (k + 1) := by
  intro i x hi hx
  by_cases hik : i = k
  · subst hik
    rw [List.getElem?_eq_getElem hk] at hx
    simp only [Option.some.injEq] at hx
    subst hx
    obtain ⟨g0, g1⟩ := put2_at (cs := cs) (k := i * 2) (v0 := .string l[i].nm) (v1 := .bool l[i].need) (by omega)
    exact ⟨g0, g1⟩
  · obtain ⟨c0, c1⟩ := h i x (by omega) hx
    exact ⟨(put2_else (by omega)).trans c0, (put2_else (by omega)).trans c1⟩
set_option maxHeartbeats 2000000 in
theorem to_Ags (a : Option Addr) (c : Nat) (l : List Ag) (w : World) (hr : AgRow 0 w.heap.size w a l) (hbd : AgsBd 1048576 l) :
    Calls Tryz.prog 128 #[.slice a l.length c] w fun e w' => ∃ a' c', e = .returned (.slice a' l.length c') ∧ AgRow w.heap.size w'.heap.size w' a' l ∧ Below w.heap.size w w' := by
  obtain ⟨hl, ht⟩ := hbd
  have HR : Hid (AgRow 0 w.heap.size w a l) := hr
  have HT : Hid (∀ x ∈ l, AgBd 1048576 x) := ht
  clear hr ht
  obtain ⟨i27, hi, hz, hsz, hby⟩ := info_Ag
  have hmk := run_make (P := Tryz.prog) w 68 73 i27 _ Tryz.underlying68 hi hz .i64 .i64 (l.length : Int) (l.length : Int) (by omega) (by omega) (by rw [hby]; omega) (by omega)
  rw [hsz, Int.toNat_natCast] at hmk
  clear hi hz hsz hby
  have hs0 := size_madeCells (Value.agg #[.string ⟨#[]⟩, .bool false]).cells (l.length * 2)
  generalize madeCells (Value.agg #[.string ⟨#[]⟩, .bool false]).cells (l.length * 2) = cs0 at *
  go_enter Tryz.func128, Tryz.ntmps128
  go_wp2_with fail
  go_loopw [4] (fun i w' => ∃ (k : Nat) (cs : Array Value), k ≤ l.length ∧ i = .int .i64 k ∧ Below w.heap.size w w' ∧ Hid (w'.heap[w.heap.size]? = some (.cells cs 73 (0, 0))) ∧ cs.size = l.length * 2 ∧ Hid (LaidR (AgAt (w.heap.size + 1) w'.heap.size w') 2 cs l k)) (fun i _ => l.length - (intOf i).toNat)
  case atStart => exact ⟨0, cs0, by omega, rfl, (Below.refl _ _).alloc (Nat.le_refl _) _, heap_alloc_new _ _, hs0, fun i x h => by omega⟩
  case round =>
    rename_i wr
    obtain ⟨k, cs, hk, rfl, hb, HH, hcs, HL⟩ := hrel
    clear hmk hs0
    by_cases hlt : k < l.length
    · obtain ⟨b, o, ha, _, hbl, d0, d1⟩ := AgRow.cells (AgRow.keep HR.out (agree hb (Nat.le_refl _))) k hlt
      subst ha
      go_wp2_with fail
      refine (to_Ag l[k] _).mono ?_
      rintro e w1 ⟨rfl, hb1⟩
      have hN : w.heap.size < wr.heap.size := (Array.getElem?_eq_some_iff.1 HH.out).1
      have HH1 : Hid (w1.heap[w.heap.size]? = some (.cells cs 73 (0, 0))) := (hb1.block _ hN).trans HH.out
      have HL1 : Hid (LaidR (AgAt (w.heap.size + 1) w1.heap.size w1) 2 cs l k) := LaidR.keep_Ag HL.out (agree hb1 (Nat.le_refl _)) hb1.size
      obtain ⟨v0, hv0⟩ : ∃ v, w1.cell? ⟨w.heap.size, k * 2, none⟩ = some v := ⟨_, (row_cell HH1.out _).trans (Array.getElem?_eq_getElem (by omega))⟩
      obtain ⟨v1, hv1⟩ : ∃ v, w1.cell? ⟨w.heap.size, k * 2 + 1, none⟩ = some v := ⟨_, (row_cell HH1.out _).trans (Array.getElem?_eq_getElem (by omega))⟩
      have hf0 := row_frozen HH1.out (k * 2)
      have hf1 := row_frozen HH1.out (k * 2 + 1)
      have qb : Hid _ := hb.trans (hb1.mono hb.size)
      have hz1 := hb1.size
      clear d0 d1
      go_wp2_with fail
      have G : ∀ W' : World, W'.heap.size = w1.heap.size → Agree (w.heap.size + 1) w1.heap.size w1 W' → Hid (LaidR (AgAt (w.heap.size + 1) W'.heap.size W') 2 (put2 cs (k * 2) (.string l[k].nm) (.bool l[k].need)) l (k + 1)) := by
        intro W' hw ha
        unfold Hid
        rw [hw]
        exact LaidR.put_Ag (LaidR.keep_Ag HL1.out ha (Nat.le_refl _)) hlt hcs
      refine ⟨⟨k + 1, _, by omega, by go_num, (qb.out.setCell (Nat.le_refl _) _).setCell (Nat.le_refl _) _, row_set (row_set HH1.out _ _) _ _, by simp [hcs], ?_⟩, by simp [intOf]; omega⟩
      refine G _ (by simp) ?_
      intro g h1 h2
      repeat rw [heap_set _ _ _ _ _ (by omega)]
    · go_wp2_with fail
      go_ret
      obtain rfl : k = l.length := by omega
      refine ⟨_, _, rfl, ?_, hb⟩
      refine .inr ⟨w.heap.size, 0, rfl, Nat.le_refl _, (Array.getElem?_eq_some_iff.1 HH.out).1, fun i x hx => ?_⟩
      rw [row_rd HH.out, Nat.zero_add]
      exact AgAt.wide (HL.out i x (List.getElem?_eq_some_iff.1 hx).1 hx) (by omega) (Nat.le_refl _)
set_option maxHeartbeats 2000000 in
theorem to_Fd (x : Fd) (a3 : Option Addr) (c3 : Nat) (w : World) (r3 : AgRow 0 w.heap.size w a3 x.args) (hb : FdBd 1048576 x) :
    Calls Tryz.prog 108 #[.agg #[.string x.nm, .slice a3 x.args.length c3, .string x.ty, .bool x.ls, .bool x.bg]] w fun e w' =>
      ∃ b3 d3, e = .returned (.agg #[.string x.nm, .slice b3 x.args.length d3, .string x.ty, .bool x.ls, .bool x.bg]) ∧ AgRow w.heap.size w'.heap.size w' b3 x.args ∧ Below w.heap.size w w' := by
  obtain ⟨_, x3, _⟩ := hb
  have K3 : Hid (∀ W0, Below w.heap.size w W0 → AgRow 0 W0.heap.size W0 a3 x.args) := fun W0 hB => AgRow.up r3 hB
  have HS : Hid (AgsBd 1048576 x.args) := x3
  clear r3 x3
  go_enter Tryz.func108, Tryz.ntmps108
  go_wp2_with fail
  refine (to_Ags a3 c3 x.args _ (K3.out _ ?b0) HS.out).mono ?_
  case b0 => repeat (first | exact Below.refl _ _ | refine Below.setCell ?_ (by first | omega | (simp <;> omega)) _ | refine Below.alloc ?_ (by first | omega | (simp <;> omega)) _)
  rintro e w3 ⟨b3, d3, rfl, A3, hb3⟩
  have hz3 : w.heap.size + 3 ≤ w3.heap.size := by have := hb3.size; simp at this; omega
  have A3 : Hid (AgRow (w.heap.size + 3) w3.heap.size w3 b3 x.args) := AgRow.wide A3 (by first | omega | (simp <;> omega)) (Nat.le_refl _)
  have q3 : Below w.heap.size w w3 := by
    refine Below.trans ?_ (hb3.mono (by first | omega | (simp <;> omega)))
    repeat (first | exact Below.refl _ _ | refine Below.setCell ?_ (by first | omega | (simp <;> omega)) _ | refine Below.alloc ?_ (by first | omega | (simp <;> omega)) _)
  have k30 := fun o => hb3.cell (p := ⟨w.heap.size, o, none⟩) (by first | omega | (simp <;> omega))
  have k31 := fun o => hb3.cell (p := ⟨w.heap.size + 1, o, none⟩) (by first | omega | (simp <;> omega))
  have k32 := fun o => hb3.cell (p := ⟨w.heap.size + 1 + 1, o, none⟩) (by first | omega | (simp <;> omega))
  have j31 := fun o => hb3.frozen (p := ⟨w.heap.size + 1, o, none⟩) (by first | omega | (simp <;> omega))
  have j32 := fun o => hb3.frozen (p := ⟨w.heap.size + 1 + 1, o, none⟩) (by first | omega | (simp <;> omega))
  have Q3 : Hid _ := q3
  clear hb3 q3
  go_wp2_with fail
  refine bodyPost_ret (v := .agg #[.string x.nm, .slice b3 x.args.length d3, .string x.ty, .bool x.ls, .bool x.bg]) (by simp [results, Tryz.results108, go_sem, k31]) rfl ⟨b3, d3, rfl, ?_⟩
  have G : ∀ W' : World, W'.heap.size = w3.heap.size → Agree (w.heap.size + 3) w3.heap.size w3 W' → Below w.heap.size w W' → AgRow w.heap.size W'.heap.size W' b3 x.args ∧ Below w.heap.size w W' :=
    fun W' hw ha hB => ⟨AgRow.wide (AgRow.keep A3.out ha) (by omega) (by omega), hB⟩
  refine G _ (by simp) ?_ ?_
  · intro g h1 h2
    repeat rw [heap_set _ _ _ _ _ (by omega)]
  · repeat (refine Below.setCell ?_ (by first | omega | (simp <;> omega)) _)
    exact Q3.out
set_option maxRecDepth 100000 in
theorem info_Fd : ∃ i, Tryz.prog.info? 70 = some i ∧ i.zero = some (.agg #[.string ⟨#[]⟩, .slice none 0 0, .string ⟨#[]⟩, .bool false, .bool false]) ∧ i.size = 5 ∧ i.bytes = 64 := by
  refine ⟨_, rfl, ?_, ?_, ?_⟩ <;> kernel_rfl
theorem LaidR.keep_Fd {lo hi hi' : Nat} {w w' : World} {cs : Array Value} {l : List Fd} {k : Nat} (h : LaidR (FdAt lo hi w) 5 cs l k) (ha : Agree lo hi w w') (hh : hi ≤ hi') : LaidR (FdAt lo hi' w') 5 cs l k :=
  fun i x hi hx => FdAt.wide (FdAt.keep (h i x hi hx) ha) (Nat.le_refl _) hh
theorem LaidR.put_Fd {lo hi : Nat} {w : World} {cs : Array Value} {l : List Fd} {k : Nat} {b3 : Option Addr} {f3 : Nat} (h : LaidR (FdAt lo hi w) 5 cs l k) (hk : k < l.length) (hs : cs.size = l.length * 5) (hr : AgRow lo hi w b3 l[k].args) :
    LaidR (FdAt lo hi w) 5 (put5 cs (k * 5) (.string l[k].nm) (.slice b3 l[k].args.length f3) (.string l[k].ty) (.bool l[k].ls) (.bool l[k].bg)) l (k + 1) := by
  intro i x hi hx
  by_cases hik : i = k
  · subst hik
    rw [List.getElem?_eq_getElem hk] at hx
    simp only [Option.some.injEq] at hx
    subst hx
    obtain ⟨g0, g1, g2, g3, g4⟩ := put5_at (cs := cs) (k := i * 5) (v0 := .string l[i].nm) (v1 := .slice b3 l[i].args.length f3) (v2 := .string l[i].ty) (v3 := .bool l[i].ls) (v4 := .bool l[i].bg) (by omega)
    exact ⟨g0, ⟨b3, f3, g1, hr⟩, g2, g3, g4⟩
  · obtain ⟨c0, ⟨a3, d3, c1, c9⟩, c2, c3, c4⟩ := h i x (by omega) hx
    exact ⟨(put5_else (by omega)).trans c0, ⟨a3, d3, (put5_else (by omega)).trans c1, c9⟩, (put5_else (by omega)).trans c2, (put5_else (by omega)).trans c3, (put5_else (by omega)).trans c4⟩
set_option maxHeartbeats 2000000 in
theorem to_Fds (a : Option Addr) (c : Nat) (l : List Fd) (w : World) (hr : FdRow 0 w.heap.size w a l) (hbd : FdsBd 1048576 l) :
    Calls Tryz.prog 71 #[.slice a l.length c] w fun e w' => ∃ a' c', e = .returned (.slice a' l.length c') ∧ FdRow w.heap.size w'.heap.size w' a' l ∧ Below w.heap.size w w' := by
  obtain ⟨hl, ht⟩ := hbd
  have HR : Hid (FdRow 0 w.heap.size w a l) := hr
  have HT : Hid (∀ x ∈ l, FdBd 1048576 x) := ht
  clear hr ht
  obtain ⟨i27, hi, hz, hsz, hby⟩ := info_Fd
  have hmk := run_make (P := Tryz.prog) w 64 70 i27 _ Tryz.underlying64 hi hz .i64 .i64 (l.length : Int) (l.length : Int) (by omega) (by omega) (by rw [hby]; omega) (by omega)
  rw [hsz, Int.toNat_natCast] at hmk
  clear hi hz hsz hby
  have hs0 := size_madeCells (Value.agg #[.string ⟨#[]⟩, .slice none 0 0, .string ⟨#[]⟩, .bool false, .bool false]).cells (l.length * 5)
  generalize madeCells (Value.agg #[.string ⟨#[]⟩, .slice none 0 0, .string ⟨#[]⟩, .bool false, .bool false]).cells (l.length * 5) = cs0 at *
  go_enter Tryz.func71, Tryz.ntmps71
  go_wp2_with fail
  go_loopw [4] (fun i w' => ∃ (k : Nat) (cs : Array Value), k ≤ l.length ∧ i = .int .i64 k ∧ Below w.heap.size w w' ∧ Hid (w'.heap[w.heap.size]? = some (.cells cs 70 (0, 0))) ∧ cs.size = l.length * 5 ∧ Hid (LaidR (FdAt (w.heap.size + 1) w'.heap.size w') 5 cs l k)) (fun i _ => l.length - (intOf i).toNat)
  case atStart => exact ⟨0, cs0, by omega, rfl, (Below.refl _ _).alloc (Nat.le_refl _) _, heap_alloc_new _ _, hs0, fun i x h => by omega⟩
  case round =>
    rename_i wr
    obtain ⟨k, cs, hk, rfl, hb, HH, hcs, HL⟩ := hrel
    clear hmk hs0
    by_cases hlt : k < l.length
    · obtain ⟨b, o, a3, c3, ha, _, hbl, d0, d1, d2, d3, d4, r3⟩ := FdRow.cells (FdRow.keep HR.out (agree hb (Nat.le_refl _))) k hlt
      subst ha
      have R3 : Hid (AgRow 0 wr.heap.size wr a3 l[k].args) := AgRow.wide r3 (Nat.le_refl _) hb.size
      have HX : Hid (FdBd 1048576 l[k]) := HT.out l[k] (List.getElem_mem hlt)
      clear r3
      go_wp2_with fail
      refine (to_Fd l[k] a3 c3 _ R3.out HX.out).mono ?_
      rintro e w1 ⟨b3, f3, rfl, A3, hb1⟩
      have A3 : Hid (AgRow wr.heap.size w1.heap.size w1 b3 l[k].args) := A3
      have hN : w.heap.size < wr.heap.size := (Array.getElem?_eq_some_iff.1 HH.out).1
      have HH1 : Hid (w1.heap[w.heap.size]? = some (.cells cs 70 (0, 0))) := (hb1.block _ hN).trans HH.out
      have HL1 : Hid (LaidR (FdAt (w.heap.size + 1) w1.heap.size w1) 5 cs l k) := LaidR.keep_Fd HL.out (agree hb1 (Nat.le_refl _)) hb1.size
      obtain ⟨v0, hv0⟩ : ∃ v, w1.cell? ⟨w.heap.size, k * 5, none⟩ = some v := ⟨_, (row_cell HH1.out _).trans (Array.getElem?_eq_getElem (by omega))⟩
      obtain ⟨v1, hv1⟩ : ∃ v, w1.cell? ⟨w.heap.size, k * 5 + 1, none⟩ = some v := ⟨_, (row_cell HH1.out _).trans (Array.getElem?_eq_getElem (by omega))⟩
      obtain ⟨v2, hv2⟩ : ∃ v, w1.cell? ⟨w.heap.size, k * 5 + 2, none⟩ = some v := ⟨_, (row_cell HH1.out _).trans (Array.getElem?_eq_getElem (by omega))⟩
      obtain ⟨v3, hv3⟩ : ∃ v, w1.cell? ⟨w.heap.size, k * 5 + 3, none⟩ = some v := ⟨_, (row_cell HH1.out _).trans (Array.getElem?_eq_getElem (by omega))⟩
      obtain ⟨v4, hv4⟩ : ∃ v, w1.cell? ⟨w.heap.size, k * 5 + 4, none⟩ = some v := ⟨_, (row_cell HH1.out _).trans (Array.getElem?_eq_getElem (by omega))⟩
      have hf0 := row_frozen HH1.out (k * 5)
      have hf1 := row_frozen HH1.out (k * 5 + 1)
      have hf2 := row_frozen HH1.out (k * 5 + 2)
      have hf3 := row_frozen HH1.out (k * 5 + 3)
      have hf4 := row_frozen HH1.out (k * 5 + 4)
      have qb : Hid _ := hb.trans (hb1.mono hb.size)
      have hz1 := hb1.size
      clear d0 d1 d2 d3 d4
      go_wp2_with fail
      have G : ∀ W' : World, W'.heap.size = w1.heap.size → Agree (w.heap.size + 1) w1.heap.size w1 W' → Hid (LaidR (FdAt (w.heap.size + 1) W'.heap.size W') 5 (put5 cs (k * 5) (.string l[k].nm) (.slice b3 l[k].args.length f3) (.string l[k].ty) (.bool l[k].ls) (.bool l[k].bg)) l (k + 1)) := by
        intro W' hw ha
        unfold Hid
        rw [hw]
        exact LaidR.put_Fd (LaidR.keep_Fd HL1.out ha (Nat.le_refl _)) hlt hcs (AgRow.wide (AgRow.keep A3.out (fun g h1 h2 => ha g (by omega) h2)) (by omega) (Nat.le_refl _))
      refine ⟨⟨k + 1, _, by omega, by go_num, ((((qb.out.setCell (Nat.le_refl _) _).setCell (Nat.le_refl _) _).setCell (Nat.le_refl _) _).setCell (Nat.le_refl _) _).setCell (Nat.le_refl _) _, row_set (row_set (row_set (row_set (row_set HH1.out _ _) _ _) _ _) _ _) _ _, by simp [hcs], ?_⟩, by simp [intOf]; omega⟩
      refine G _ (by simp) ?_
      intro g h1 h2
      repeat rw [heap_set _ _ _ _ _ (by omega)]
    · go_wp2_with fail
      go_ret
      obtain rfl : k = l.length := by omega
      refine ⟨_, _, rfl, ?_, hb⟩
      refine .inr ⟨w.heap.size, 0, rfl, Nat.le_refl _, (Array.getElem?_eq_some_iff.1 HH.out).1, fun i x hx => ?_⟩
      rw [row_rd HH.out, Nat.zero_add]
      exact FdAt.wide (HL.out i x (List.getElem?_eq_some_iff.1 hx).1 hx) (by omega) (Nat.le_refl _)
set_option maxHeartbeats 2000000 in
theorem to_Td (x : Td) (a3 : Option Addr) (c3 : Nat) (w : World) (r3 : FdRow 0 w.heap.size w a3 x.fs) (hb : TdBd 1048576 x) :
    Calls Tryz.prog 43 #[.agg #[.string x.nm, .slice a3 x.fs.length c3]] w fun e w' =>
      ∃ b3 d3, e = .returned (.agg #[.string x.nm, .slice b3 x.fs.length d3]) ∧ FdRow w.heap.size w'.heap.size w' b3 x.fs ∧ Below w.heap.size w w' := by
  obtain ⟨_, x3⟩ := hb
  have K3 : Hid (∀ W0, Below w.heap.size w W0 → FdRow 0 W0.heap.size W0 a3 x.fs) := fun W0 hB => FdRow.up r3 hB
  have HS : Hid (FdsBd 1048576 x.fs) := x3
  clear r3 x3
  go_enter Tryz.func43, Tryz.ntmps43
  go_wp2_with fail
  refine (to_Fds a3 c3 x.fs _ (K3.out _ ?b0) HS.out).mono ?_
  case b0 => repeat (first | exact Below.refl _ _ | refine Below.setCell ?_ (by first | omega | (simp <;> omega)) _ | refine Below.alloc ?_ (by first | omega | (simp <;> omega)) _)
  rintro e w3 ⟨b3, d3, rfl, A3, hb3⟩
  have hz3 : w.heap.size + 3 ≤ w3.heap.size := by have := hb3.size; simp at this; omega
  have A3 : Hid (FdRow (w.heap.size + 3) w3.heap.size w3 b3 x.fs) := FdRow.wide A3 (by first | omega | (simp <;> omega)) (Nat.le_refl _)
  have q3 : Below w.heap.size w w3 := by
    refine Below.trans ?_ (hb3.mono (by first | omega | (simp <;> omega)))
    repeat (first | exact Below.refl _ _ | refine Below.setCell ?_ (by first | omega | (simp <;> omega)) _ | refine Below.alloc ?_ (by first | omega | (simp <;> omega)) _)
  have k30 := fun o => hb3.cell (p := ⟨w.heap.size, o, none⟩) (by first | omega | (simp <;> omega))
  have k31 := fun o => hb3.cell (p := ⟨w.heap.size + 1, o, none⟩) (by first | omega | (simp <;> omega))
  have k32 := fun o => hb3.cell (p := ⟨w.heap.size + 1 + 1, o, none⟩) (by first | omega | (simp <;> omega))
  have j31 := fun o => hb3.frozen (p := ⟨w.heap.size + 1, o, none⟩) (by first | omega | (simp <;> omega))
  have j32 := fun o => hb3.frozen (p := ⟨w.heap.size + 1 + 1, o, none⟩) (by first | omega | (simp <;> omega))
  have Q3 : Hid _ := q3
  clear hb3 q3
  go_wp2_with fail
  refine bodyPost_ret (v := .agg #[.string x.nm, .slice b3 x.fs.length d3]) (by simp [results, Tryz.results43, go_sem, k31]) rfl ⟨b3, d3, rfl, ?_⟩
  have G : ∀ W' : World, W'.heap.size = w3.heap.size → Agree (w.heap.size + 3) w3.heap.size w3 W' → Below w.heap.size w W' → FdRow w.heap.size W'.heap.size W' b3 x.fs ∧ Below w.heap.size w W' :=
    fun W' hw ha hB => ⟨FdRow.wide (FdRow.keep A3.out ha) (by omega) (by omega), hB⟩
  refine G _ (by simp) ?_ ?_
  · intro g h1 h2
    repeat rw [heap_set _ _ _ _ _ (by omega)]
  · repeat (refine Below.setCell ?_ (by first | omega | (simp <;> omega)) _)
    exact Q3.out
set_option maxRecDepth 100000 in
theorem info_Td : ∃ i, Tryz.prog.info? 66 = some i ∧ i.zero = some (.agg #[.string ⟨#[]⟩, .slice none 0 0]) ∧ i.size = 2 ∧ i.bytes = 40 := by
  refine ⟨_, rfl, ?_, ?_, ?_⟩ <;> kernel_rfl
theorem LaidR.keep_Td {lo hi hi' : Nat} {w w' : World} {cs : Array Value} {l : List Td} {k : Nat} (h : LaidR (TdAt lo hi w) 2 cs l k) (ha : Agree lo hi w w') (hh : hi ≤ hi') : LaidR (TdAt lo hi' w') 2 cs l k :=
  fun i x hi hx => TdAt.wide (TdAt.keep (h i x hi hx) ha) (Nat.le_refl _) hh
theorem LaidR.put_Td {lo hi : Nat} {w : World} {cs : Array Value} {l : List Td} {k : Nat} {b3 : Option Addr} {f3 : Nat} (h : LaidR (TdAt lo hi w) 2 cs l k) (hk : k < l.length) (hs : cs.size = l.length * 2) (hr : FdRow lo hi w b3 l[k].fs) :
    LaidR (TdAt lo hi w) 2 (put2 cs (k * 2) (.string l[k].nm) (.slice b3 l[k].fs.length f3)) l (k + 1) := by
  intro i x hi hx
  by_cases hik : i = k
  · subst hik
    rw [List.getElem?_eq_getElem hk] at hx
    simp only [Option.some.injEq] at hx
    subst hx
    obtain ⟨g0, g1⟩ := put2_at (cs := cs) (k := i * 2) (v0 := .string l[i].nm) (v1 := .slice b3 l[i].fs.length f3) (by omega)
    exact ⟨g0, ⟨b3, f3, g1, hr⟩⟩
  · obtain ⟨c0, ⟨a3, d3, c1, c9⟩⟩ := h i x (by omega) hx
    exact ⟨(put2_else (by omega)).trans c0, ⟨a3, d3, (put2_else (by omega)).trans c1, c9⟩⟩
set_option maxHeartbeats 2000000 in
theorem to_Tds (a : Option Addr) (c : Nat) (l : List Td) (w : World) (hr : TdRow 0 w.heap.size w a l) (hbd : TdsBd 1048576 l) :
    Calls Tryz.prog 17 #[.slice a l.length c] w fun e w' => ∃ a' c', e = .returned (.slice a' l.length c') ∧ TdRow w.heap.size w'.heap.size w' a' l ∧ Below w.heap.size w w' := by
  obtain ⟨hl, ht⟩ := hbd
  have HR : Hid (TdRow 0 w.heap.size w a l) := hr
  have HT : Hid (∀ x ∈ l, TdBd 1048576 x) := ht
  clear hr ht
  obtain ⟨i27, hi, hz, hsz, hby⟩ := info_Td
  have hmk := run_make (P := Tryz.prog) w 32 66 i27 _ Tryz.underlying32 hi hz .i64 .i64 (l.length : Int) (l.length : Int) (by omega) (by omega) (by rw [hby]; omega) (by omega)
  rw [hsz, Int.toNat_natCast] at hmk
  clear hi hz hsz hby
  have hs0 := size_madeCells (Value.agg #[.string ⟨#[]⟩, .slice none 0 0]).cells (l.length * 2)
  generalize madeCells (Value.agg #[.string ⟨#[]⟩, .slice none 0 0]).cells (l.length * 2) = cs0 at *
  go_enter Tryz.func17, Tryz.ntmps17
  go_wp2_with fail
  go_loopw [4] (fun i w' => ∃ (k : Nat) (cs : Array Value), k ≤ l.length ∧ i = .int .i64 k ∧ Below w.heap.size w w' ∧ Hid (w'.heap[w.heap.size]? = some (.cells cs 66 (0, 0))) ∧ cs.size = l.length * 2 ∧ Hid (LaidR (TdAt (w.heap.size + 1) w'.heap.size w') 2 cs l k)) (fun i _ => l.length - (intOf i).toNat)
  case atStart => exact ⟨0, cs0, by omega, rfl, (Below.refl _ _).alloc (Nat.le_refl _) _, heap_alloc_new _ _, hs0, fun i x h => by omega⟩
  case round =>
    rename_i wr
    obtain ⟨k, cs, hk, rfl, hb, HH, hcs, HL⟩ := hrel
    clear hmk hs0
    by_cases hlt : k < l.length
    · obtain ⟨b, o, a3, c3, ha, _, hbl, d0, d1, r3⟩ := TdRow.cells (TdRow.keep HR.out (agree hb (Nat.le_refl _))) k hlt
      subst ha
      have R3 : Hid (FdRow 0 wr.heap.size wr a3 l[k].fs) := FdRow.wide r3 (Nat.le_refl _) hb.size
      have HX : Hid (TdBd 1048576 l[k]) := HT.out l[k] (List.getElem_mem hlt)
      clear r3
      go_wp2_with fail
      refine (to_Td l[k] a3 c3 _ R3.out HX.out).mono ?_
      rintro e w1 ⟨b3, f3, rfl, A3, hb1⟩
      have A3 : Hid (FdRow wr.heap.size w1.heap.size w1 b3 l[k].fs) := A3
      have hN : w.heap.size < wr.heap.size := (Array.getElem?_eq_some_iff.1 HH.out).1
      have HH1 : Hid (w1.heap[w.heap.size]? = some (.cells cs 66 (0, 0))) := (hb1.block _ hN).trans HH.out
      have HL1 : Hid (LaidR (TdAt (w.heap.size + 1) w1.heap.size w1) 2 cs l k) := LaidR.keep_Td HL.out (agree hb1 (Nat.le_refl _)) hb1.size
      obtain ⟨v0, hv0⟩ : ∃ v, w1.cell? ⟨w.heap.size, k * 2, none⟩ = some v := ⟨_, (row_cell HH1.out _).trans (Array.getElem?_eq_getElem (by omega))⟩
      obtain ⟨v1, hv1⟩ : ∃ v, w1.cell? ⟨w.heap.size, k * 2 + 1, none⟩ = some v := ⟨_, (row_cell HH1.out _).trans (Array.getElem?_eq_getElem (by omega))⟩
      have hf0 := row_frozen HH1.out (k * 2)
      have hf1 := row_frozen HH1.out (k * 2 + 1)
      have qb : Hid _ := hb.trans (hb1.mono hb.size)
      have hz1 := hb1.size
      clear d0 d1
      go_wp2_with fail
      have G : ∀ W' : World, W'.heap.size = w1.heap.size → Agree (w.heap.size + 1) w1.heap.size w1 W' → Hid (LaidR (TdAt (w.heap.size + 1) W'.heap.size W') 2 (put2 cs (k * 2) (.string l[k].nm) (.slice b3 l[k].fs.length f3)) l (k + 1)) := by
        intro W' hw ha
        unfold Hid
        rw [hw]
        exact LaidR.put_Td (LaidR.keep_Td HL1.out ha (Nat.le_refl _)) hlt hcs (FdRow.wide (FdRow.keep A3.out (fun g h1 h2 => ha g (by omega) h2)) (by omega) (Nat.le_refl _))
      refine ⟨⟨k + 1, _, by omega, by go_num, (qb.out.setCell (Nat.le_refl _) _).setCell (Nat.le_refl _) _, row_set (row_set HH1.out _ _) _ _, by simp [hcs], ?_⟩, by simp [intOf]; omega⟩
      refine G _ (by simp) ?_
      intro g h1 h2
      repeat rw [heap_set _ _ _ _ _ (by omega)]
    · go_wp2_with fail
      go_ret
      obtain rfl : k = l.length := by omega
      refine ⟨_, _, rfl, ?_, hb⟩
      refine .inr ⟨w.heap.size, 0, rfl, Nat.le_refl _, (Array.getElem?_eq_some_iff.1 HH.out).1, fun i x hx => ?_⟩
      rw [row_rd HH.out, Nat.zero_add]
      exact TdAt.wide (HL.out i x (List.getElem?_eq_some_iff.1 hx).1 hx) (by omega) (Nat.le_refl _)
set_option maxHeartbeats 2000000 in
theorem to_top (a : Option Addr) (c : Nat) (l : List Td) (w : World) (hr : TdRow 0 w.heap.size w a l) (hbd : TdsBd 1048576 l) :
    Calls Tryz.prog 7 #[.agg #[.slice a l.length c]] w fun e w' => ∃ a' c', e = .returned (.agg #[.slice a' l.length c']) ∧ TdRow w.heap.size w'.heap.size w' a' l ∧ Below w.heap.size w w' := by
  have K3 : Hid (∀ W0, Below w.heap.size w W0 → TdRow 0 W0.heap.size W0 a l) := fun W0 hB => TdRow.up hr hB
  have HD : Hid _ := hbd
  clear hr hbd
  go_enter Tryz.func7, Tryz.ntmps7
  go_wp2_with fail
  refine (to_Tds a c l _ (K3.out _ ?b0) HD.out).mono ?_
  case b0 => repeat (first | exact Below.refl _ _ | refine Below.setCell ?_ (by first | omega | (simp <;> omega)) _ | refine Below.alloc ?_ (by first | omega | (simp <;> omega)) _)
  rintro e w3 ⟨b3, d3, rfl, A3, hb3⟩
  have hz3 : w.heap.size + 3 ≤ w3.heap.size := by have := hb3.size; simp at this; omega
  have A3 : Hid (TdRow (w.heap.size + 3) w3.heap.size w3 b3 l) := TdRow.wide A3 (by first | omega | (simp <;> omega)) (Nat.le_refl _)
  have q3 : Below w.heap.size w w3 := by
    refine Below.trans ?_ (hb3.mono (by first | omega | (simp <;> omega)))
    repeat (first | exact Below.refl _ _ | refine Below.setCell ?_ (by first | omega | (simp <;> omega)) _ | refine Below.alloc ?_ (by first | omega | (simp <;> omega)) _)
  have k30 := fun o => hb3.cell (p := ⟨w.heap.size, o, none⟩) (by first | omega | (simp <;> omega))
  have k31 := fun o => hb3.cell (p := ⟨w.heap.size + 1, o, none⟩) (by first | omega | (simp <;> omega))
  have k32 := fun o => hb3.cell (p := ⟨w.heap.size + 1 + 1, o, none⟩) (by first | omega | (simp <;> omega))
  have j31 := fun o => hb3.frozen (p := ⟨w.heap.size + 1, o, none⟩) (by first | omega | (simp <;> omega))
  have j32 := fun o => hb3.frozen (p := ⟨w.heap.size + 1 + 1, o, none⟩) (by first | omega | (simp <;> omega))
  have Q3 : Hid _ := q3
  clear hb3 q3
  go_wp2_with fail
  refine bodyPost_ret (v := .agg #[.slice b3 l.length d3]) (by simp [results, Tryz.results7, go_sem, k31]) rfl ⟨b3, d3, rfl, ?_⟩
  have G : ∀ W' : World, W'.heap.size = w3.heap.size → Agree (w.heap.size + 3) w3.heap.size w3 W' → Below w.heap.size w W' → TdRow w.heap.size W'.heap.size W' b3 l ∧ Below w.heap.size w W' :=
    fun W' hw ha hB => ⟨TdRow.wide (TdRow.keep A3.out ha) (by omega) (by omega), hB⟩
  refine G _ (by simp) ?_ ?_
  · intro g h1 h2
    repeat rw [heap_set _ _ _ _ _ (by omega)]
  · repeat (refine Below.setCell ?_ (by first | omega | (simp <;> omega)) _)
    exact Q3.out
end Go.Proofs.YthbjihbpjajggaaGreat.G
