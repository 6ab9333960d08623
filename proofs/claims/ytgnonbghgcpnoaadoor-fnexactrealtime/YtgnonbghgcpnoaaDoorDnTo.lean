/- What the law copies of those that are done: all of it in memory of its own. -/
import Derived.Test.YtgnonbghgcpnoaaDoorDnRows
namespace Go.Proofs.YtgnonbghgcpnoaaDoor
open Go.ChangeShapes Go.WideShapes Go.ChangeAt Go.RowKit
set_option linter.unusedVariables false

set_option maxHeartbeats 4000000 in
set_option maxRecDepth 40000 in
theorem to_done (x : Dn) (a b : Option Addr) (c d : Nat) (w : World) (hr : DeRow 0 w.heap.size w a x.defs) (hv : ArRow 0 w.heap.size w b x.vars) (hbd : DnBd x) :
    Calls Tryd.prog 22 #[.agg #[.int .i64 x.id, .int .i64 x.code, .int .i64 x.ts, .int .i64 x.since, .bool x.wr, .slice a x.defs.length c, .slice b x.vars.length d, .string x.t]] w fun e w' => ∃ a' c' b' d', e = .returned (.agg #[.int .i64 x.id, .int .i64 x.code, .int .i64 x.ts, .int .i64 x.since, .bool x.wr, .slice a' x.defs.length c', .slice b' x.vars.length d', .string x.t]) ∧ RqOwn w.heap.size w'.heap.size w' a' b' x.defs x.vars ∧ Below w.heap.size w w' := by
  have K0 : Hid (∀ W0, Below w.heap.size w W0 → DeRow 0 W0.heap.size W0 a x.defs ∧ ArRow 0 W0.heap.size W0 b x.vars) := fun W0 hB => ⟨DeRow.up hr hB, Row.up hv hB⟩
  have HD : Hid (RqBd 1048576 x.defs x.vars) := hbd.1.1
  clear hr hv hbd
  go_enter Tryd.func22, Tryd.ntmps22
  go_wp2_with fail
  refine (to_req_o a b c d x.defs x.vars _ (K0.out _ ?b0).1 (K0.out _ ?b0).2 HD.out).mono ?_
  case b0 => repeat (first | exact Below.refl _ _ | refine Below.setCell ?_ (by simp <;> omega) _ | refine Below.alloc ?_ (by simp <;> omega) _)
  rintro e w3 ⟨a1, d1, b1, e1, rfl, A3, hb3⟩
  have hz3 : w.heap.size + 3 ≤ w3.heap.size := by have := hb3.size; simp at this; omega
  have A3 : Hid (RqOwn (w.heap.size + 3) w3.heap.size w3 a1 b1 x.defs x.vars) := RqOwn.wide A3 (by simp <;> omega)
  have q3 : Below w.heap.size w w3 := by
    refine Below.trans ?_ (hb3.mono (by simp <;> omega))
    repeat (first | exact Below.refl _ _ | refine Below.setCell ?_ (by simp <;> omega) _ | refine Below.alloc ?_ (by simp <;> omega) _)
  have k30 := fun o => hb3.cell (p := ⟨w.heap.size, o, none⟩) (by simp <;> omega)
  have k31 := fun o => hb3.cell (p := ⟨w.heap.size + 1, o, none⟩) (by simp <;> omega)
  have k32 := fun o => hb3.cell (p := ⟨w.heap.size + 1 + 1, o, none⟩) (by simp <;> omega)
  have j31 := fun o => hb3.frozen (p := ⟨w.heap.size + 1, o, none⟩) (by simp <;> omega)
  have j32 := fun o => hb3.frozen (p := ⟨w.heap.size + 1 + 1, o, none⟩) (by simp <;> omega)
  have Q3 : Hid _ := q3
  clear hb3 q3
  go_wp2_with fail
  refine bodyPost_ret (v := .agg #[.int .i64 x.id, .int .i64 x.code, .int .i64 x.ts, .int .i64 x.since, .bool x.wr, .slice a1 x.defs.length d1, .slice b1 x.vars.length e1, .string x.t]) (by simp [results, Tryd.results22, go_sem, k31]) rfl ⟨a1, d1, b1, e1, rfl, ?_⟩
  have G : ∀ W' : World, W'.heap.size = w3.heap.size → Agree (w.heap.size + 3) w3.heap.size w3 W' → Below w.heap.size w W' → RqOwn w.heap.size W'.heap.size W' a1 b1 x.defs x.vars ∧ Below w.heap.size w W' :=
    fun W' hw ha hB => ⟨by rw [hw]; exact RqOwn.wide (RqOwn.keep A3.out ha) (by omega), hB⟩
  refine G _ (by simp) ?_ ?_
  · intro g h1 h2
    repeat rw [heap_set _ _ _ _ _ (by omega)]
  · repeat (refine Below.setCell ?_ (by simp <;> omega) _)
    exact Q3.out
theorem DnSeq.lay {w0 W' : World} {k lo m hi : Nat} {cs : Array Value} {l : List Dn} {x : Dn} {a b : Option Addr} {c d : Nat} (hlen : l.length = k) (hcs : k * 8 + 8 ≤ cs.size) (HL : DnSeq w0 l cs 0 lo m) (ha : Agree lo m w0 W') (HP : RqOwn m hi W' a b x.defs x.vars) :
    DnSeq W' (l ++ [x]) (put8 cs (k * 8) (.int .i64 x.id) (.int .i64 x.code) (.int .i64 x.ts) (.int .i64 x.since) (.bool x.wr) (.slice a x.defs.length c) (.slice b x.vars.length d) (.string x.t)) 0 lo hi := by
  subst hlen
  obtain ⟨g0, g1, g2, g3, g4, g5, g6, g7⟩ := put8_at (cs := cs) (k := l.length * 8) (v0 := .int .i64 x.id) (v1 := .int .i64 x.code) (v2 := .int .i64 x.ts) (v3 := .int .i64 x.since) (v4 := .bool x.wr) (v5 := .slice a x.defs.length c) (v6 := .slice b x.vars.length d) (v7 := .string x.t) (by omega)
  refine DnSeq.snoc (DnSeq.cells (cs := cs) (DnSeq.keep HL ha) fun j _ hj => put8_ne (by omega)) ?_
  rw [show 0 + 8 * l.length = l.length * 8 by omega]
  exact ⟨a, c, b, d, g0, g1, g2, g3, g4, g5, g6, g7, HP⟩
set_option maxRecDepth 100000 in
theorem info_done : ∃ i, Tryd.prog.info? 54 = some i ∧ i.zero = some (.agg #[.int .i64 0, .int .i64 0, .int .i64 0, .int .i64 0, .bool false, .slice none 0 0, .slice none 0 0, .string ⟨#[]⟩]) ∧ i.size = 8 ∧ i.bytes = 104 := by
  refine ⟨_, rfl, ?_, ?_, ?_⟩ <;> kernel_rfl
set_option maxHeartbeats 4000000 in
set_option maxRecDepth 40000 in
theorem to_dones (a : Option Addr) (c : Nat) (l : List Dn) (w : World) (hr : DnRow 0 w.heap.size w a l) (hbd : DnsBd l) :
    Calls Tryd.prog 8 #[.slice a l.length c] w fun e w' => ∃ a' c', e = .returned (.slice a' l.length c') ∧ DnOwn w.heap.size w'.heap.size w' a' l ∧ Below w.heap.size w w' := by
  obtain ⟨hl, ht⟩ := hbd
  have HR : Hid (DnRow 0 w.heap.size w a l) := hr
  have HT : Hid (∀ x ∈ l, DnBd x) := ht
  clear hr ht
  obtain ⟨i27, hi, hz, hsz, hby⟩ := info_done
  have hmk := run_make (P := Tryd.prog) w 27 54 i27 _ Tryd.underlying27 hi hz .i64 .i64 (l.length : Int) (l.length : Int) (by omega) (by omega) (by rw [hby]; omega) (by omega)
  rw [hsz, Int.toNat_natCast] at hmk
  clear hi hz hsz hby
  have hs0 := size_madeCells (Value.agg #[.int .i64 0, .int .i64 0, .int .i64 0, .int .i64 0, .bool false, .slice none 0 0, .slice none 0 0, .string ⟨#[]⟩]).cells (l.length * 8)
  generalize madeCells (Value.agg #[.int .i64 0, .int .i64 0, .int .i64 0, .int .i64 0, .bool false, .slice none 0 0, .slice none 0 0, .string ⟨#[]⟩]).cells (l.length * 8) = cs0 at *
  go_enter Tryd.func8, Tryd.ntmps8
  go_wp2_with fail
  go_loopw [4] (fun i w' => ∃ (k : Nat) (cs : Array Value), k ≤ l.length ∧ i = .int .i64 k ∧ Below w.heap.size w w' ∧ Hid (w'.heap[w.heap.size]? = some (.cells cs 54 (0, 0))) ∧ cs.size = l.length * 8 ∧ Hid (DnSeq w' (l.take k) cs 0 (w.heap.size + 1) w'.heap.size)) (fun i _ => l.length - (intOf i).toNat)
  case atStart => exact ⟨0, cs0, by omega, rfl, (Below.refl _ _).alloc (Nat.le_refl _) _, heap_alloc_new _ _, hs0, show w.heap.size + 1 ≤ (w.alloc _).heap.size by simp⟩
  case round =>
    rename_i wr
    obtain ⟨k, cs, hk, rfl, hb, HH, hcs, HL⟩ := hrel
    clear hmk hs0
    by_cases hlt : k < l.length
    · obtain ⟨g, o, a3, c3, b3, d3, ha, _, hbl, d0, d1, d2, d3x, d4, d5, d6, d7, r1, r2⟩ := DnRow.cells (HR.out.keep (Below.agree hb (Nat.le_refl _))) k hlt
      subst ha
      have R3 : Hid (DeRow 0 wr.heap.size wr a3 l[k].defs ∧ ArRow 0 wr.heap.size wr b3 l[k].vars) := ⟨DeRow.wide r1 (Nat.le_refl _) hb.size, Row.wide r2 (Nat.le_refl _) hb.size⟩
      have HX : Hid (DnBd l[k]) := HT.out l[k] (List.getElem_mem hlt)
      clear r1 r2
      go_wp2_with fail
      refine (to_done l[k] a3 b3 c3 d3 _ R3.out.1 R3.out.2 HX.out).mono ?_
      rintro e w1 ⟨a4, c4, b4, d4x, rfl, A3, hb1⟩
      have A3 : Hid (RqOwn wr.heap.size w1.heap.size w1 a4 b4 l[k].defs l[k].vars) := A3
      have hN : w.heap.size < wr.heap.size := (Array.getElem?_eq_some_iff.1 HH.out).1
      have HH1 : Hid (w1.heap[w.heap.size]? = some (.cells cs 54 (0, 0))) := (hb1.block _ hN).trans HH.out
      have HB1 : Hid (Agree (w.heap.size + 1) wr.heap.size wr w1) := Below.agree hb1 (Nat.le_refl _)
      obtain ⟨v0, hv0⟩ : ∃ v, w1.cell? ⟨w.heap.size, k * 8, none⟩ = some v := ⟨_, (row_cell HH1.out _).trans (Array.getElem?_eq_getElem (by omega))⟩
      have hf0 := row_frozen HH1.out (k * 8)
      obtain ⟨v1, hv1⟩ : ∃ v, w1.cell? ⟨w.heap.size, k * 8 + 1, none⟩ = some v := ⟨_, (row_cell HH1.out _).trans (Array.getElem?_eq_getElem (by omega))⟩
      have hf1 := row_frozen HH1.out (k * 8 + 1)
      obtain ⟨v2, hv2⟩ : ∃ v, w1.cell? ⟨w.heap.size, k * 8 + 2, none⟩ = some v := ⟨_, (row_cell HH1.out _).trans (Array.getElem?_eq_getElem (by omega))⟩
      have hf2 := row_frozen HH1.out (k * 8 + 2)
      obtain ⟨v3, hv3⟩ : ∃ v, w1.cell? ⟨w.heap.size, k * 8 + 3, none⟩ = some v := ⟨_, (row_cell HH1.out _).trans (Array.getElem?_eq_getElem (by omega))⟩
      have hf3 := row_frozen HH1.out (k * 8 + 3)
      obtain ⟨v4, hv4⟩ : ∃ v, w1.cell? ⟨w.heap.size, k * 8 + 4, none⟩ = some v := ⟨_, (row_cell HH1.out _).trans (Array.getElem?_eq_getElem (by omega))⟩
      have hf4 := row_frozen HH1.out (k * 8 + 4)
      obtain ⟨v5, hv5⟩ : ∃ v, w1.cell? ⟨w.heap.size, k * 8 + 5, none⟩ = some v := ⟨_, (row_cell HH1.out _).trans (Array.getElem?_eq_getElem (by omega))⟩
      have hf5 := row_frozen HH1.out (k * 8 + 5)
      obtain ⟨v6, hv6⟩ : ∃ v, w1.cell? ⟨w.heap.size, k * 8 + 6, none⟩ = some v := ⟨_, (row_cell HH1.out _).trans (Array.getElem?_eq_getElem (by omega))⟩
      have hf6 := row_frozen HH1.out (k * 8 + 6)
      obtain ⟨v7, hv7⟩ : ∃ v, w1.cell? ⟨w.heap.size, k * 8 + 7, none⟩ = some v := ⟨_, (row_cell HH1.out _).trans (Array.getElem?_eq_getElem (by omega))⟩
      have hf7 := row_frozen HH1.out (k * 8 + 7)
      have qb : Hid _ := hb.trans (hb1.mono hb.size)
      have hz1 := hb1.size
      clear d0 d1 d2 d3x d4 d5 d6 d7
      go_wp2_with fail
      have G : ∀ W' : World, W'.heap.size = w1.heap.size → Agree (w.heap.size + 1) w1.heap.size w1 W' → Hid (DnSeq W' (l.take (k + 1)) (put8 cs (k * 8) (.int .i64 l[k].id) (.int .i64 l[k].code) (.int .i64 l[k].ts) (.int .i64 l[k].since) (.bool l[k].wr) (.slice a4 l[k].defs.length c4) (.slice b4 l[k].vars.length d4x) (.string l[k].t)) 0 (w.heap.size + 1) W'.heap.size) := by
        intro W' hw ha
        unfold Hid
        rw [hw, List.take_succ_eq_append_getElem hlt]
        exact DnSeq.lay (by simp; omega) (by omega) HL.out (HB1.out.trans fun g h1 h2 => ha g h1 (by omega)) (RqOwn.keep A3.out fun g h1 h2 => ha g (by omega) h2)
      refine ⟨⟨k + 1, _, by omega, by go_num, (((((((qb.out.setCell (Nat.le_refl _) _).setCell (Nat.le_refl _) _).setCell (Nat.le_refl _) _).setCell (Nat.le_refl _) _).setCell (Nat.le_refl _) _).setCell (Nat.le_refl _) _).setCell (Nat.le_refl _) _).setCell (Nat.le_refl _) _, row_set (row_set (row_set (row_set (row_set (row_set (row_set (row_set HH1.out _ _) _ _) _ _) _ _) _ _) _ _) _ _) _ _, by simp [hcs], ?_⟩, by simp [intOf]; omega⟩
      refine G _ (by simp) ?_
      intro g h1 h2
      repeat rw [heap_set _ _ _ _ _ (by omega)]
    · go_wp2_with fail
      go_ret
      obtain rfl : k = l.length := by omega
      refine ⟨_, _, rfl, ?_, hb⟩
      have hp := HL.out
      rw [List.take_length] at hp
      exact .inr ⟨w.heap.size, cs, rfl, Nat.le_refl _, (Array.getElem?_eq_some_iff.1 HH.out).1, HH.out, by omega, hp⟩
end Go.Proofs.YtgnonbghgcpnoaaDoor
