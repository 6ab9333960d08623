/- What the law copies of a document is owned: each list in a block of its own. -/
import Derived.Test.YtgnonbghgcpnoaaDoorDocOwn
namespace Go.Proofs.YtgnonbghgcpnoaaDoor
open Go.ChangeShapes Go.WideShapes Go.ChangeAt Go.RowKit
set_option linter.unusedVariables false

set_option maxHeartbeats 1000000 in
theorem to_args_o (a : Option Addr) (c : Nat) (l : List Ar) (w : World) (hr : ArRow 0 w.heap.size w a l) (hl : l.length ≤ 1048576) :
    Calls Tryd.prog 80 #[.slice a l.length c] w fun e w' => ∃ a' c', e = .returned (.slice a' l.length c') ∧ ArOwn w.heap.size w'.heap.size w' a' l ∧ Below w.heap.size w w' := by
  have HR : Hid (ArRow 0 w.heap.size w a l) := hr
  clear hr
  obtain ⟨i27, hi, hz, hsz, hby⟩ := info_ar
  have hmk := run_make (P := Tryd.prog) w 95 112 i27 _ Tryd.underlying95 hi hz .i64 .i64 (l.length : Int) (l.length : Int) (by omega) (by omega) (by rw [hby]; omega) (by omega)
  rw [hsz, Int.toNat_natCast] at hmk
  clear hi hz hsz hby
  have hs0 := size_madeCells (Value.agg #[.string ⟨#[]⟩, .int .i64 0, .int .i64 0, .string ⟨#[]⟩]).cells (l.length * 4)
  generalize madeCells (Value.agg #[.string ⟨#[]⟩, .int .i64 0, .int .i64 0, .string ⟨#[]⟩]).cells (l.length * 4) = cs0 at *
  go_enter Tryd.func80, Tryd.ntmps80
  go_wp2_with fail
  go_loopw [4] (fun i w' => ∃ (k : Nat) (cs : Array Value), k ≤ l.length ∧ i = .int .i64 k ∧ Below w.heap.size w w' ∧ Hid (w'.heap[w.heap.size]? = some (.cells cs 112 (0, 0))) ∧ cs.size = l.length * 4 ∧ Hid (LaidR ArAt 4 cs l k)) (fun i _ => l.length - (intOf i).toNat)
  case atStart => exact ⟨0, cs0, by omega, rfl, (Below.refl _ _).alloc (Nat.le_refl _) _, heap_alloc_new _ _, hs0, fun i x h => by omega⟩
  case round =>
    rename_i wr
    obtain ⟨k, cs, hk, rfl, hb, HH, hcs, HL⟩ := hrel
    clear hmk hs0
    by_cases hlt : k < l.length
    · obtain ⟨b, o, ha, _, hbl, c0, c1, c2, c3⟩ := (HR.out.keep (Below.agree hb (Nat.le_refl _))).cells_ar k hlt
      subst ha
      go_wp2_with fail
      refine (to_arg l[k] _).mono ?_
      rintro e w1 ⟨rfl, hb1⟩
      have hN : w.heap.size < wr.heap.size := (Array.getElem?_eq_some_iff.1 HH.out).1
      have HH1 : Hid (w1.heap[w.heap.size]? = some (.cells cs 112 (0, 0))) := (hb1.block _ hN).trans HH.out
      obtain ⟨v0, hv0⟩ : ∃ v, w1.cell? ⟨w.heap.size, k * 4, none⟩ = some v := ⟨_, (row_cell HH1.out _).trans (Array.getElem?_eq_getElem (by omega))⟩
      obtain ⟨v1, hv1⟩ : ∃ v, w1.cell? ⟨w.heap.size, k * 4 + 1, none⟩ = some v := ⟨_, (row_cell HH1.out _).trans (Array.getElem?_eq_getElem (by omega))⟩
      obtain ⟨v2, hv2⟩ : ∃ v, w1.cell? ⟨w.heap.size, k * 4 + 2, none⟩ = some v := ⟨_, (row_cell HH1.out _).trans (Array.getElem?_eq_getElem (by omega))⟩
      obtain ⟨v3, hv3⟩ : ∃ v, w1.cell? ⟨w.heap.size, k * 4 + 3, none⟩ = some v := ⟨_, (row_cell HH1.out _).trans (Array.getElem?_eq_getElem (by omega))⟩
      have hf0 := row_frozen HH1.out (k * 4)
      have hf1 := row_frozen HH1.out (k * 4 + 1)
      have hf2 := row_frozen HH1.out (k * 4 + 2)
      have hf3 := row_frozen HH1.out (k * 4 + 3)
      clear c0 c1 c2 c3
      have qb := hb.trans (hb1.mono hb.size)
      go_wp2_with fail
      exact ⟨⟨k + 1, put4 cs (k * 4) _ _ _ _, by omega, by go_num, (((qb.setCell (Nat.le_refl _) _).setCell (Nat.le_refl _) _).setCell (Nat.le_refl _) _).setCell (Nat.le_refl _) _, row_set (row_set (row_set (row_set HH1.out _ _) _ _) _ _) _ _, by rw [put4_size]; exact hcs, HL.out.put_ar hlt hcs⟩, by simp [intOf]; omega⟩
    · go_wp2_with fail
      go_ret
      obtain rfl : k = l.length := by omega
      exact ⟨_, _, rfl, .inr ⟨w.heap.size, cs, rfl, Nat.le_refl _, (Array.getElem?_eq_some_iff.1 HH.out).1, HH.out, by omega, fun i x hx => HL.out i x (List.getElem?_eq_some_iff.1 hx).1 hx⟩, hb⟩

set_option maxHeartbeats 1000000 in
theorem to_dirs_o (a : Option Addr) (c : Nat) (l : List Di) (w : World) (hr : DiRow 0 w.heap.size w a l) (hl : l.length ≤ 1048576) :
    Calls Tryd.prog 81 #[.slice a l.length c] w fun e w' => ∃ a' c', e = .returned (.slice a' l.length c') ∧ DiOwn w.heap.size w'.heap.size w' a' l ∧ Below w.heap.size w w' := by
  have HR : Hid (DiRow 0 w.heap.size w a l) := hr
  clear hr
  obtain ⟨i27, hi, hz, hsz, hby⟩ := info_di
  have hmk := run_make (P := Tryd.prog) w 96 114 i27 _ Tryd.underlying96 hi hz .i64 .i64 (l.length : Int) (l.length : Int) (by omega) (by omega) (by rw [hby]; omega) (by omega)
  rw [hsz, Int.toNat_natCast] at hmk
  clear hi hz hsz hby
  have hs0 := size_madeCells (Value.agg #[.bool false, .int .i64 0, .int .i64 0, .string ⟨#[]⟩]).cells (l.length * 4)
  generalize madeCells (Value.agg #[.bool false, .int .i64 0, .int .i64 0, .string ⟨#[]⟩]).cells (l.length * 4) = cs0 at *
  go_enter Tryd.func81, Tryd.ntmps81
  go_wp2_with fail
  go_loopw [4] (fun i w' => ∃ (k : Nat) (cs : Array Value), k ≤ l.length ∧ i = .int .i64 k ∧ Below w.heap.size w w' ∧ Hid (w'.heap[w.heap.size]? = some (.cells cs 114 (0, 0))) ∧ cs.size = l.length * 4 ∧ Hid (LaidR DiAt 4 cs l k)) (fun i _ => l.length - (intOf i).toNat)
  case atStart => exact ⟨0, cs0, by omega, rfl, (Below.refl _ _).alloc (Nat.le_refl _) _, heap_alloc_new _ _, hs0, fun i x h => by omega⟩
  case round =>
    rename_i wr
    obtain ⟨k, cs, hk, rfl, hb, HH, hcs, HL⟩ := hrel
    clear hmk hs0
    by_cases hlt : k < l.length
    · obtain ⟨b, o, ha, _, hbl, c0, c1, c2, c3⟩ := (HR.out.keep (Below.agree hb (Nat.le_refl _))).cells_di k hlt
      subst ha
      go_wp2_with fail
      refine (to_dir l[k] _).mono ?_
      rintro e w1 ⟨rfl, hb1⟩
      have hN : w.heap.size < wr.heap.size := (Array.getElem?_eq_some_iff.1 HH.out).1
      have HH1 : Hid (w1.heap[w.heap.size]? = some (.cells cs 114 (0, 0))) := (hb1.block _ hN).trans HH.out
      obtain ⟨v0, hv0⟩ : ∃ v, w1.cell? ⟨w.heap.size, k * 4, none⟩ = some v := ⟨_, (row_cell HH1.out _).trans (Array.getElem?_eq_getElem (by omega))⟩
      obtain ⟨v1, hv1⟩ : ∃ v, w1.cell? ⟨w.heap.size, k * 4 + 1, none⟩ = some v := ⟨_, (row_cell HH1.out _).trans (Array.getElem?_eq_getElem (by omega))⟩
      obtain ⟨v2, hv2⟩ : ∃ v, w1.cell? ⟨w.heap.size, k * 4 + 2, none⟩ = some v := ⟨_, (row_cell HH1.out _).trans (Array.getElem?_eq_getElem (by omega))⟩
      obtain ⟨v3, hv3⟩ : ∃ v, w1.cell? ⟨w.heap.size, k * 4 + 3, none⟩ = some v := ⟨_, (row_cell HH1.out _).trans (Array.getElem?_eq_getElem (by omega))⟩
      have hf0 := row_frozen HH1.out (k * 4)
      have hf1 := row_frozen HH1.out (k * 4 + 1)
      have hf2 := row_frozen HH1.out (k * 4 + 2)
      have hf3 := row_frozen HH1.out (k * 4 + 3)
      clear c0 c1 c2 c3
      have qb := hb.trans (hb1.mono hb.size)
      go_wp2_with fail
      exact ⟨⟨k + 1, put4 cs (k * 4) _ _ _ _, by omega, by go_num, (((qb.setCell (Nat.le_refl _) _).setCell (Nat.le_refl _) _).setCell (Nat.le_refl _) _).setCell (Nat.le_refl _) _, row_set (row_set (row_set (row_set HH1.out _ _) _ _) _ _) _ _, by rw [put4_size]; exact hcs, HL.out.put_di hlt hcs⟩, by simp [intOf]; omega⟩
    · go_wp2_with fail
      go_ret
      obtain rfl : k = l.length := by omega
      exact ⟨_, _, rfl, .inr ⟨w.heap.size, cs, rfl, Nat.le_refl _, (Array.getElem?_eq_some_iff.1 HH.out).1, HH.out, by omega, fun i x hx => HL.out i x (List.getElem?_eq_some_iff.1 hx).1 hx⟩, hb⟩

/-- A selection's lists, owned, one behind the other. -/
def Parts (lo hi : Nat) (w : World) (b1 b2 b3 : Option Addr) (h : Hd) (sub : Sels) : Prop := ∃ m1 m2, lo ≤ m1 ∧ m1 ≤ m2 ∧ m2 ≤ hi ∧ ArOwn lo m1 w b1 h.args ∧ DiOwn m1 m2 w b2 h.dirs ∧ SelOwn m2 hi w b3 sub
theorem Parts.keep {lo hi : Nat} {w w' : World} {b1 b2 b3 : Option Addr} {h : Hd} {sub : Sels} (H : Parts lo hi w b1 b2 b3 h sub) (hk : Agree lo hi w w') : Parts lo hi w' b1 b2 b3 h sub := by
  obtain ⟨m1, m2, e1, e2, e3, p1, p2, p3⟩ := H
  exact ⟨m1, m2, e1, e2, e3, p1.keep fun g h1 h2 => hk g (by omega) (by omega), p2.keep fun g h1 h2 => hk g (by omega) (by omega), p3.keep fun g h1 h2 => hk g (by omega) (by omega)⟩
theorem Parts.wide {lo hi lo' hi' : Nat} {w : World} {b1 b2 b3 : Option Addr} {h : Hd} {sub : Sels} (H : Parts lo hi w b1 b2 b3 h sub) (e1 : lo' ≤ lo) (e2 : hi ≤ hi') : Parts lo' hi' w b1 b2 b3 h sub := by
  obtain ⟨m1, m2, f1, f2, f3, p1, p2, p3⟩ := H
  exact ⟨m1, m2, by omega, f2, by omega, p1.wide e1 (Nat.le_refl _), p2, p3.wide (Nat.le_refl _) e2⟩
theorem SelSeq.lay {w0 W' : World} {k lo m hi : Nat} {cs : Array Value} {pre : List (Hd × Sels)} {h : Hd} {sub : Sels} {b1 b2 b3 : Option Addr} {f1 f2 f3 : Nat} (hlen : pre.length = k) (hcs : k * 6 + 6 ≤ cs.size) (HL : SelSeq w0 (app pre .nil) cs 0 lo m) (ha : Agree lo m w0 W') (HP : Parts m hi W' b1 b2 b3 h sub) :
    SelSeq W' (app (pre ++ [(h, sub)]) .nil) (put6 cs (k * 6) (.int .i64 h.k) (.string h.al) (.string h.nm) (.slice b1 h.args.length f1) (.slice b2 h.dirs.length f2) (.slice b3 sub.len f3)) 0 lo hi := by
  subst hlen
  obtain ⟨g0, g1, g2, g3, g4, g5⟩ := put6_at (cs := cs) (k := pre.length * 6) (v0 := .int .i64 h.k) (v1 := .string h.al) (v2 := .string h.nm) (v3 := .slice b1 h.args.length f1) (v4 := .slice b2 h.dirs.length f2) (v5 := .slice b3 sub.len f3) (by omega)
  obtain ⟨m1, m2, e1, e2, e3, p1, p2, p3⟩ := HP
  refine SelSeq.snoc pre (SelSeq.cells (cs := cs) (SelSeq.keep HL ha) fun j _ hj => put6_else ?_) ?_
  · rw [app_len] at hj
    simp only [Sels.len] at hj
    omega
  · rw [show 0 + 6 * pre.length = pre.length * 6 by omega]
    exact ⟨m1, m2, e1, e2, e3, g0, g1, g2, ⟨b1, f1, g3, p1⟩, ⟨b2, f2, g4, p2⟩, ⟨b3, f3, g5, p3⟩⟩

def ToSelsO (l : Sels) : Prop := ∀ (a : Option Addr) (c : Nat) (w : World), SelRow 0 w.heap.size w a l → l.len ≤ 1048576 → SelsBd 1048576 l →
    Calls Tryd.prog 71 #[.slice a l.len c] w fun e w' => ∃ a' c', e = .returned (.slice a' l.len c') ∧ SelOwn w.heap.size w'.heap.size w' a' l ∧ Below w.heap.size w w'

set_option maxHeartbeats 2000000 in
theorem to_sel_o (h : Hd) (sub : Sels) (ih : ToSelsO sub) (a1 a2 a3 : Option Addr) (c1 c2 c3 : Nat) (w : World) (r1 : ArRow 0 w.heap.size w a1 h.args) (r2 : DiRow 0 w.heap.size w a2 h.dirs) (r3 : SelRow 0 w.heap.size w a3 sub)
    (hb : HdBd 1048576 h) (hl : sub.len ≤ 1048576) (hs : SelsBd 1048576 sub) :
    Calls Tryd.prog 75 #[.agg #[.int .i64 h.k, .string h.al, .string h.nm, .slice a1 h.args.length c1, .slice a2 h.dirs.length c2, .slice a3 sub.len c3]] w fun e w' =>
      ∃ b1 d1 b2 d2 b3 d3, e = .returned (.agg #[.int .i64 h.k, .string h.al, .string h.nm, .slice b1 h.args.length d1, .slice b2 h.dirs.length d2, .slice b3 sub.len d3]) ∧
        Parts w.heap.size w'.heap.size w' b1 b2 b3 h sub ∧ Below w.heap.size w w' := by
  obtain ⟨x1, x2, x3, x4, x5, x6⟩ := hb
  have K1 : Hid (∀ W0, Below w.heap.size w W0 → ArRow 0 W0.heap.size W0 a1 h.args) := fun W0 hB => Row.up r1 hB
  have K2 : Hid (∀ W0, Below w.heap.size w W0 → DiRow 0 W0.heap.size W0 a2 h.dirs) := fun W0 hB => Row.up r2 hB
  have K3 : Hid (∀ W0, Below w.heap.size w W0 → SelRow 0 W0.heap.size W0 a3 sub) := fun W0 hB => SelRow.up r3 hB
  have HI : Hid (ToSelsO sub) := ih
  have HS : Hid (SelsBd 1048576 sub) := hs
  clear r1 r2 r3 ih hs x4 x6
  go_enter Tryd.func75, Tryd.ntmps75
  go_wp2_with fail
  refine (to_args_o a1 c1 h.args _ (K1.out _ ?b0) x3).mono ?_
  case b0 => repeat (first | exact Below.refl _ _ | refine Below.setCell ?_ (by simp <;> omega) _ | refine Below.alloc ?_ (by simp <;> omega) _)
  rintro e w1 ⟨b1, d1, rfl, A1, hb1⟩
  have hz1 : w.heap.size + 3 ≤ w1.heap.size := by have := hb1.size; simp at this; omega
  have A1 : Hid (ArOwn (w.heap.size + 3) w1.heap.size w1 b1 h.args) := OwnR.wide A1 (by simp <;> omega) (Nat.le_refl _)
  have q1 : Below w.heap.size w w1 := by
    refine Below.trans ?_ (hb1.mono (by simp <;> omega))
    repeat (first | exact Below.refl _ _ | refine Below.setCell ?_ (by simp <;> omega) _ | refine Below.alloc ?_ (by simp <;> omega) _)
  have k10 := fun o => hb1.cell (p := ⟨w.heap.size, o, none⟩) (by simp <;> omega)
  have k11 := fun o => hb1.cell (p := ⟨w.heap.size + 1, o, none⟩) (by simp <;> omega)
  have k12 := fun o => hb1.cell (p := ⟨w.heap.size + 1 + 1, o, none⟩) (by simp <;> omega)
  have j11 := fun o => hb1.frozen (p := ⟨w.heap.size + 1, o, none⟩) (by simp <;> omega)
  have j12 := fun o => hb1.frozen (p := ⟨w.heap.size + 1 + 1, o, none⟩) (by simp <;> omega)
  have Q1 : Hid _ := q1
  clear hb1 q1
  go_wp2_with fail
  refine (to_dirs_o a2 c2 h.dirs _ (K2.out _ ?b0) x5).mono ?_
  case b0 => exact Below.setCell Q1.out (by simp <;> omega) _
  rintro e w2 ⟨b2, d2, rfl, A2, hb2⟩
  have hz2 : w1.heap.size ≤ w2.heap.size := by have := hb2.size; simpa using this
  have A2 : Hid (DiOwn w1.heap.size w2.heap.size w2 b2 h.dirs) := OwnR.wide A2 (by simp) (Nat.le_refl _)
  have A1 : Hid (ArOwn (w.heap.size + 3) w1.heap.size w2 b1 h.args) := OwnR.keep A1.out ((Agree.setCell (by simp <;> omega)).trans (Below.agree hb2 (by simp)))
  have q2 : Below w.heap.size w w2 := (Below.setCell Q1.out (by simp <;> omega) _).trans (hb2.mono (by simp <;> omega))
  have k20 := fun o => hb2.cell (p := ⟨w.heap.size, o, none⟩) (by simp <;> omega)
  have k21 := fun o => hb2.cell (p := ⟨w.heap.size + 1, o, none⟩) (by simp <;> omega)
  have k22 := fun o => hb2.cell (p := ⟨w.heap.size + 1 + 1, o, none⟩) (by simp <;> omega)
  have j21 := fun o => hb2.frozen (p := ⟨w.heap.size + 1, o, none⟩) (by simp <;> omega)
  have j22 := fun o => hb2.frozen (p := ⟨w.heap.size + 1 + 1, o, none⟩) (by simp <;> omega)
  have Q2 : Hid _ := q2
  clear hb2 q2
  go_wp2_with fail
  refine (HI.out a3 c3 _ (K3.out _ ?b0) hl HS.out).mono ?_
  case b0 => exact Below.setCell Q2.out (by simp <;> omega) _
  rintro e w3 ⟨b3, d3, rfl, A3, hb3⟩
  have hz3 : w2.heap.size ≤ w3.heap.size := by have := hb3.size; simpa using this
  have A3 : Hid (SelOwn w2.heap.size w3.heap.size w3 b3 sub) := SelOwn.wide A3 (by simp) (Nat.le_refl _)
  have A2 : Hid (DiOwn w1.heap.size w2.heap.size w3 b2 h.dirs) := OwnR.keep A2.out ((Agree.setCell (by simp <;> omega)).trans (Below.agree hb3 (by simp)))
  have A1 : Hid (ArOwn (w.heap.size + 3) w1.heap.size w3 b1 h.args) := OwnR.keep A1.out ((Agree.setCell (by simp <;> omega)).trans (Below.agree hb3 (by simp; omega)))
  have q3 : Below w.heap.size w w3 := (Below.setCell Q2.out (by simp <;> omega) _).trans (hb3.mono (by simp <;> omega))
  have k31 := fun o => hb3.cell (p := ⟨w.heap.size + 1, o, none⟩) (by simp <;> omega)
  have k32 := fun o => hb3.cell (p := ⟨w.heap.size + 1 + 1, o, none⟩) (by simp <;> omega)
  have j31 := fun o => hb3.frozen (p := ⟨w.heap.size + 1, o, none⟩) (by simp <;> omega)
  have j32 := fun o => hb3.frozen (p := ⟨w.heap.size + 1 + 1, o, none⟩) (by simp <;> omega)
  have Q3 : Hid _ := q3
  clear hb3 q3
  go_wp2_with fail
  refine bodyPost_ret (v := .agg #[.int .i64 h.k, .string h.al, .string h.nm, .slice b1 h.args.length d1, .slice b2 h.dirs.length d2, .slice b3 sub.len d3]) (by simp [results, Tryd.results75, go_sem, k11, k21, k31]) rfl ⟨b1, d1, b2, d2, b3, d3, rfl, ?_⟩
  have G : ∀ W' : World, W'.heap.size = w3.heap.size → Agree (w.heap.size + 3) w3.heap.size w3 W' → Below w.heap.size w W' → Parts w.heap.size W'.heap.size W' b1 b2 b3 h sub ∧ Below w.heap.size w W' :=
    fun W' hw ha hB => ⟨⟨w1.heap.size, w2.heap.size, by omega, by omega, by omega, OwnR.wide (OwnR.keep A1.out fun g h1 h2 => ha g (by omega) (by omega)) (by omega) (Nat.le_refl _), OwnR.keep A2.out fun g h1 h2 => ha g (by omega) (by omega), SelOwn.wide (SelOwn.keep A3.out fun g h1 h2 => ha g (by omega) (by omega)) (Nat.le_refl _) (by omega)⟩, hB⟩
  refine G _ (by simp) ?_ ?_
  · intro g h1 h2
    repeat rw [heap_set _ _ _ _ _ (by omega)]
  · repeat (refine Below.setCell ?_ (by simp <;> omega) _)
    exact Q3.out

set_option maxHeartbeats 2000000 in
theorem to_sels_o (l : Sels) : ToSelsO l := by
  induction hN : l.size using Nat.strongRecOn generalizing l with
  | _ N ih =>
  subst hN
  intro a c w hr hl hbd
  have IH : Hid (∀ sub : Sels, sub.size < l.size → ToSelsO sub) := fun sub hsub => ih sub.size hsub sub rfl
  have HR : Hid (SelFrom 0 w.heap.size w a 0 l) := hr.from_
  have HB : Hid (SelsBd 1048576 l) := hbd
  clear hr ih hbd
  obtain ⟨i27, hi, hz, hsz, hby⟩ := info_sel
  have hmk := run_make (P := Tryd.prog) w 74 98 i27 _ Tryd.underlying74 hi hz .i64 .i64 (l.len : Int) (l.len : Int) (by omega) (by omega) (by rw [hby]; omega) (by omega)
  rw [hsz, Int.toNat_natCast] at hmk
  clear hi hz hsz hby
  have hs0 := size_madeCells (Value.agg #[.int .i64 0, .string ⟨#[]⟩, .string ⟨#[]⟩, .slice none 0 0, .slice none 0 0, .slice none 0 0]).cells (l.len * 6)
  generalize madeCells (Value.agg #[.int .i64 0, .string ⟨#[]⟩, .string ⟨#[]⟩, .slice none 0 0, .slice none 0 0, .slice none 0 0]).cells (l.len * 6) = cs0 at *
  go_enter Tryd.func71, Tryd.ntmps71
  go_wp2_with fail
  go_loopw [4] (fun i w' => ∃ (k : Nat) (cs : Array Value) (pre : List (Hd × Sels)) (rest : Sels), Hid (l.len = k + rest.len) ∧ i = .int .i64 k ∧ Below w.heap.size w w' ∧ Hid (l = app pre rest ∧ pre.length = k) ∧ Hid (rest.size ≤ l.size) ∧ Hid (SelsBd 1048576 rest) ∧ Hid (SelFrom 0 w.heap.size w a k rest) ∧ Hid (w'.heap[w.heap.size]? = some (.cells cs 98 (0, 0))) ∧ cs.size = l.len * 6 ∧ Hid (SelSeq w' (app pre .nil) cs 0 (w.heap.size + 1) w'.heap.size)) (fun i _ => l.len - (intOf i).toNat)
  case atStart => exact ⟨0, cs0, [], l, by simp [Hid], rfl, (Below.refl _ _).alloc (Nat.le_refl _) _, ⟨rfl, rfl⟩, Nat.le_refl _, HB, HR, heap_alloc_new _ _, hs0, show w.heap.size + 1 ≤ (w.alloc _).heap.size by simp⟩
  case round =>
    rename_i wr
    obtain ⟨k, cs, pre, rest, HK, rfl, hb, HP, HZ, HD, HF, HH, hcs, HL⟩ := hrel
    clear hmk hs0
    cases rest with
    | nil =>
      have hk' : ¬ k < l.len := by rw [HK.out]; simp only [Sels.len]; omega
      go_wp2_with fail
      go_ret
      refine ⟨_, _, rfl, ?_, hb⟩
      have hkl : l.len = k := by rw [HK.out]; rfl
      refine .inr ⟨w.heap.size, cs, rfl, Nat.le_refl _, (Array.getElem?_eq_some_iff.1 HH.out).1, HH.out, by omega, ?_⟩
      have hp := HL.out
      rw [← HP.out.1] at hp
      exact hp
    | cons h sub rest =>
      have hlt : k < l.len := by rw [HK.out]; simp only [Sels.len]; omega
      have HK2 : Hid (l.len = k + 1 + rest.len) := by rw [Hid, HK.out]; simp only [Sels.len]; omega
      obtain ⟨b, o, a1, c1, a2, c2, a3, c3, ha, _, hbl, d0, d1, d2, d3, d4, d5, r1, r2, r3, _⟩ := (HF.out.keep (Below.agree hb (Nat.le_refl _))).step
      have HF2 : Hid (SelFrom 0 w.heap.size w a (k + 1) rest) := SelFrom.next HF.out
      subst ha
      have R1 : Hid (ArRow 0 wr.heap.size wr a1 h.args) := Row.wide r1 (Nat.le_refl _) hb.size
      have R2 : Hid (DiRow 0 wr.heap.size wr a2 h.dirs) := Row.wide r2 (Nat.le_refl _) hb.size
      have R3 : Hid (SelRow 0 wr.heap.size wr a3 sub) := SelRow.wide r3 (Nat.le_refl _) hb.size
      have HD' := HD.out
      obtain ⟨e1, e2, e3, e4⟩ := HD'
      have E1 : Hid (HdBd 1048576 h) := e1
      have E3 : Hid (SelsBd 1048576 sub) := e3
      have E4 : Hid (SelsBd 1048576 rest) := e4
      have HZ2 : Hid (rest.size ≤ l.size) := by have := HZ.out; simp only [Sels.size] at this; unfold Hid; omega
      have IS : Hid (ToSelsO sub) := IH.out sub (by have := HZ.out; simp only [Sels.size] at this; omega)
      clear r1 r2 r3 e1 e3 e4
      go_wp2_with fail
      refine (to_sel_o h sub IS.out a1 a2 a3 c1 c2 c3 _ R1.out R2.out R3.out E1.out e2 E3.out).mono ?_
      rintro e w1 ⟨b1, f1, b2, f2, b3, f3, rfl, AA, hb1⟩
      have A9 : Hid (Parts wr.heap.size w1.heap.size w1 b1 b2 b3 h sub) := AA
      clear AA
      have hN : w.heap.size < wr.heap.size := (Array.getElem?_eq_some_iff.1 HH.out).1
      have HH1 : Hid (w1.heap[w.heap.size]? = some (.cells cs 98 (0, 0))) := (hb1.block _ hN).trans HH.out
      have HB1 : Hid (Agree (w.heap.size + 1) wr.heap.size wr w1) := Below.agree hb1 (Nat.le_refl _)
      obtain ⟨v0, hv0⟩ : ∃ v, w1.cell? ⟨w.heap.size, k * 6, none⟩ = some v := ⟨_, (row_cell HH1.out _).trans (Array.getElem?_eq_getElem (by omega))⟩
      obtain ⟨v1, hv1⟩ : ∃ v, w1.cell? ⟨w.heap.size, k * 6 + 1, none⟩ = some v := ⟨_, (row_cell HH1.out _).trans (Array.getElem?_eq_getElem (by omega))⟩
      obtain ⟨v2, hv2⟩ : ∃ v, w1.cell? ⟨w.heap.size, k * 6 + 2, none⟩ = some v := ⟨_, (row_cell HH1.out _).trans (Array.getElem?_eq_getElem (by omega))⟩
      obtain ⟨v3, hv3⟩ : ∃ v, w1.cell? ⟨w.heap.size, k * 6 + 3, none⟩ = some v := ⟨_, (row_cell HH1.out _).trans (Array.getElem?_eq_getElem (by omega))⟩
      obtain ⟨v4, hv4⟩ : ∃ v, w1.cell? ⟨w.heap.size, k * 6 + 4, none⟩ = some v := ⟨_, (row_cell HH1.out _).trans (Array.getElem?_eq_getElem (by omega))⟩
      obtain ⟨v5, hv5⟩ : ∃ v, w1.cell? ⟨w.heap.size, k * 6 + 5, none⟩ = some v := ⟨_, (row_cell HH1.out _).trans (Array.getElem?_eq_getElem (by omega))⟩
      have hf0 := row_frozen HH1.out (k * 6)
      have hf1 := row_frozen HH1.out (k * 6 + 1)
      have hf2 := row_frozen HH1.out (k * 6 + 2)
      have hf3 := row_frozen HH1.out (k * 6 + 3)
      have hf4 := row_frozen HH1.out (k * 6 + 4)
      have hf5 := row_frozen HH1.out (k * 6 + 5)
      have qb : Hid _ := hb.trans (hb1.mono hb.size)
      have hz1 := hb1.size
      clear d0 d1 d2 d3 d4 d5
      go_wp2_with fail
      have G : ∀ W' : World, W'.heap.size = w1.heap.size → Agree (w.heap.size + 1) w1.heap.size w1 W' → Hid (SelSeq W' (app (pre ++ [(h, sub)]) .nil) (put6 cs (k * 6) (.int .i64 h.k) (.string h.al) (.string h.nm) (.slice b1 h.args.length f1) (.slice b2 h.dirs.length f2) (.slice b3 sub.len f3)) 0 (w.heap.size + 1) W'.heap.size) := by
        intro W' hw ha
        unfold Hid
        rw [hw]
        exact SelSeq.lay HP.out.2 (by omega) HL.out (HB1.out.trans fun g h1 h2 => ha g h1 (by omega)) (Parts.keep A9.out fun g h1 h2 => ha g (by omega) h2)
      refine ⟨⟨k + 1, _, pre ++ [(h, sub)], rest, HK2, by go_num, (((((qb.out.setCell (Nat.le_refl _) _).setCell (Nat.le_refl _) _).setCell (Nat.le_refl _) _).setCell (Nat.le_refl _) _).setCell (Nat.le_refl _) _).setCell (Nat.le_refl _) _, ⟨by rw [app_snoc]; exact HP.out.1, by simp [HP.out.2]⟩, HZ2, E4, HF2, row_set (row_set (row_set (row_set (row_set (row_set HH1.out _ _) _ _) _ _) _ _) _ _) _ _, by simp [hcs], ?_⟩, by simp [intOf]; omega⟩
      refine G _ (by simp) ?_
      intro g h1 h2
      repeat rw [heap_set _ _ _ _ _ (by omega)]

set_option maxHeartbeats 2000000 in
theorem to_def_o (x : De) (a3 : Option Addr) (c3 : Nat) (w : World) (r3 : SelRow 0 w.heap.size w a3 x.sels) (hb : DeBd 1048576 x) :
    Calls Tryd.prog 64 #[.agg #[.int .i64 x.k, .string x.nm, .string x.on, .slice a3 x.sels.len c3]] w fun e w' =>
      ∃ b3 d3, e = .returned (.agg #[.int .i64 x.k, .string x.nm, .string x.on, .slice b3 x.sels.len d3]) ∧ SelOwn w.heap.size w'.heap.size w' b3 x.sels ∧ Below w.heap.size w w' := by
  obtain ⟨x1, x2, x3, x4⟩ := hb
  have K3 : Hid (∀ W0, Below w.heap.size w W0 → SelRow 0 W0.heap.size W0 a3 x.sels) := fun W0 hB => SelRow.up r3 hB
  have HS : Hid (SelsBd 1048576 x.sels) := x4
  clear r3 x4
  go_enter Tryd.func64, Tryd.ntmps64
  go_wp2_with fail
  refine (to_sels_o x.sels a3 c3 _ (K3.out _ ?b0) x3 HS.out).mono ?_
  case b0 => repeat (first | exact Below.refl _ _ | refine Below.setCell ?_ (by simp <;> omega) _ | refine Below.alloc ?_ (by simp <;> omega) _)
  rintro e w3 ⟨b3, d3, rfl, A3, hb3⟩
  have hz3 : w.heap.size + 3 ≤ w3.heap.size := by have := hb3.size; simp at this; omega
  have A3 : Hid (SelOwn (w.heap.size + 3) w3.heap.size w3 b3 x.sels) := SelOwn.wide A3 (by simp <;> omega) (Nat.le_refl _)
  have q3 : Below w.heap.size w w3 := by
    refine Below.trans ?_ (hb3.mono (by simp <;> omega))
    repeat (first | exact Below.refl _ _ | refine Below.setCell ?_ (by simp <;> omega) _ | refine Below.alloc ?_ (by simp <;> omega) _)
  have k31 := fun o => hb3.cell (p := ⟨w.heap.size + 1, o, none⟩) (by simp <;> omega)
  have k32 := fun o => hb3.cell (p := ⟨w.heap.size + 1 + 1, o, none⟩) (by simp <;> omega)
  have j31 := fun o => hb3.frozen (p := ⟨w.heap.size + 1, o, none⟩) (by simp <;> omega)
  have j32 := fun o => hb3.frozen (p := ⟨w.heap.size + 1 + 1, o, none⟩) (by simp <;> omega)
  have Q3 : Hid _ := q3
  clear hb3 q3
  go_wp2_with fail
  refine bodyPost_ret (v := .agg #[.int .i64 x.k, .string x.nm, .string x.on, .slice b3 x.sels.len d3]) (by simp [results, Tryd.results64, go_sem, k31]) rfl ⟨b3, d3, rfl, ?_⟩
  have G : ∀ W' : World, W'.heap.size = w3.heap.size → Agree (w.heap.size + 3) w3.heap.size w3 W' → Below w.heap.size w W' → SelOwn w.heap.size W'.heap.size W' b3 x.sels ∧ Below w.heap.size w W' :=
    fun W' hw ha hB => ⟨SelOwn.wide (SelOwn.keep A3.out ha) (by omega) (by omega), hB⟩
  refine G _ (by simp) ?_ ?_
  · intro g h1 h2
    repeat rw [heap_set _ _ _ _ _ (by omega)]
  · repeat (refine Below.setCell ?_ (by simp <;> omega) _)
    exact Q3.out

theorem DeSeq.lay {w0 W' : World} {k lo m hi : Nat} {cs : Array Value} {l : List De} {x : De} {b3 : Option Addr} {f3 : Nat} (hlen : l.length = k) (hcs : k * 4 + 4 ≤ cs.size) (HL : DeSeq w0 l cs 0 lo m) (ha : Agree lo m w0 W') (e : m ≤ hi) (HP : SelOwn m hi W' b3 x.sels) :
    DeSeq W' (l ++ [x]) (put4 cs (k * 4) (.int .i64 x.k) (.string x.nm) (.string x.on) (.slice b3 x.sels.len f3)) 0 lo hi := by
  subst hlen
  obtain ⟨g0, g1, g2, g3⟩ := put4_at (cs := cs) (k := l.length * 4) (v0 := .int .i64 x.k) (v1 := .string x.nm) (v2 := .string x.on) (v3 := .slice b3 x.sels.len f3) (by omega)
  refine DeSeq.snoc (DeSeq.cells (cs := cs) (DeSeq.keep HL ha) fun j _ hj => put4_else (by omega)) ?_
  rw [show 0 + 4 * l.length = l.length * 4 by omega]
  exact ⟨e, g0, g1, g2, b3, f3, g3, HP⟩

set_option maxHeartbeats 2000000 in
theorem to_defs_o (a : Option Addr) (c : Nat) (l : List De) (w : World) (hr : DeRow 0 w.heap.size w a l) (hbd : DefsBd 1048576 l) :
    Calls Tryd.prog 56 #[.slice a l.length c] w fun e w' => ∃ a' c', e = .returned (.slice a' l.length c') ∧ DeOwn w.heap.size w'.heap.size w' a' l ∧ Below w.heap.size w w' := by
  obtain ⟨hl, ht⟩ := hbd
  have HR : Hid (DeRow 0 w.heap.size w a l) := hr
  have HT : Hid (∀ x ∈ l, DeBd 1048576 x) := ht
  clear hr ht
  obtain ⟨i27, hi, hz, hsz, hby⟩ := info_def
  have hmk := run_make (P := Tryd.prog) w 47 76 i27 _ Tryd.underlying47 hi hz .i64 .i64 (l.length : Int) (l.length : Int) (by omega) (by omega) (by rw [hby]; omega) (by omega)
  rw [hsz, Int.toNat_natCast] at hmk
  clear hi hz hsz hby
  have hs0 := size_madeCells (Value.agg #[.int .i64 0, .string ⟨#[]⟩, .string ⟨#[]⟩, .slice none 0 0]).cells (l.length * 4)
  generalize madeCells (Value.agg #[.int .i64 0, .string ⟨#[]⟩, .string ⟨#[]⟩, .slice none 0 0]).cells (l.length * 4) = cs0 at *
  go_enter Tryd.func56, Tryd.ntmps56
  go_wp2_with fail
  go_loopw [4] (fun i w' => ∃ (k : Nat) (cs : Array Value), k ≤ l.length ∧ i = .int .i64 k ∧ Below w.heap.size w w' ∧ Hid (w'.heap[w.heap.size]? = some (.cells cs 76 (0, 0))) ∧ cs.size = l.length * 4 ∧ Hid (DeSeq w' (l.take k) cs 0 (w.heap.size + 1) w'.heap.size)) (fun i _ => l.length - (intOf i).toNat)
  case atStart => exact ⟨0, cs0, by omega, rfl, (Below.refl _ _).alloc (Nat.le_refl _) _, heap_alloc_new _ _, hs0, show w.heap.size + 1 ≤ (w.alloc _).heap.size by simp⟩
  case round =>
    rename_i wr
    obtain ⟨k, cs, hk, rfl, hb, HH, hcs, HL⟩ := hrel
    clear hmk hs0
    by_cases hlt : k < l.length
    · obtain ⟨b, o, a3, c3, ha, _, hbl, d0, d1, d2, d3, r3⟩ := (HR.out.keep (Below.agree hb (Nat.le_refl _))).cells k hlt
      subst ha
      have R3 : Hid (SelRow 0 wr.heap.size wr a3 l[k].sels) := SelRow.wide r3 (Nat.le_refl _) hb.size
      have HX : Hid (DeBd 1048576 l[k]) := HT.out l[k] (List.getElem_mem hlt)
      clear r3
      go_wp2_with fail
      refine (to_def_o l[k] a3 c3 _ R3.out HX.out).mono ?_
      rintro e w1 ⟨b3, f3, rfl, A3, hb1⟩
      have A3 : Hid (SelOwn wr.heap.size w1.heap.size w1 b3 l[k].sels) := A3
      have hN : w.heap.size < wr.heap.size := (Array.getElem?_eq_some_iff.1 HH.out).1
      have HH1 : Hid (w1.heap[w.heap.size]? = some (.cells cs 76 (0, 0))) := (hb1.block _ hN).trans HH.out
      have HB1 : Hid (Agree (w.heap.size + 1) wr.heap.size wr w1) := Below.agree hb1 (Nat.le_refl _)
      obtain ⟨v0, hv0⟩ : ∃ v, w1.cell? ⟨w.heap.size, k * 4, none⟩ = some v := ⟨_, (row_cell HH1.out _).trans (Array.getElem?_eq_getElem (by omega))⟩
      obtain ⟨v1, hv1⟩ : ∃ v, w1.cell? ⟨w.heap.size, k * 4 + 1, none⟩ = some v := ⟨_, (row_cell HH1.out _).trans (Array.getElem?_eq_getElem (by omega))⟩
      obtain ⟨v2, hv2⟩ : ∃ v, w1.cell? ⟨w.heap.size, k * 4 + 2, none⟩ = some v := ⟨_, (row_cell HH1.out _).trans (Array.getElem?_eq_getElem (by omega))⟩
      obtain ⟨v3, hv3⟩ : ∃ v, w1.cell? ⟨w.heap.size, k * 4 + 3, none⟩ = some v := ⟨_, (row_cell HH1.out _).trans (Array.getElem?_eq_getElem (by omega))⟩
      have hf0 := row_frozen HH1.out (k * 4)
      have hf1 := row_frozen HH1.out (k * 4 + 1)
      have hf2 := row_frozen HH1.out (k * 4 + 2)
      have hf3 := row_frozen HH1.out (k * 4 + 3)
      have qb : Hid _ := hb.trans (hb1.mono hb.size)
      have hz1 := hb1.size
      clear d0 d1 d2 d3
      go_wp2_with fail
      have G : ∀ W' : World, W'.heap.size = w1.heap.size → Agree (w.heap.size + 1) w1.heap.size w1 W' → Hid (DeSeq W' (l.take (k + 1)) (put4 cs (k * 4) (.int .i64 l[k].k) (.string l[k].nm) (.string l[k].on) (.slice b3 l[k].sels.len f3)) 0 (w.heap.size + 1) W'.heap.size) := by
        intro W' hw ha
        unfold Hid
        rw [hw, List.take_succ_eq_append_getElem hlt]
        exact DeSeq.lay (by simp; omega) (by omega) HL.out (HB1.out.trans fun g h1 h2 => ha g h1 (by omega)) hz1 (SelOwn.keep A3.out fun g h1 h2 => ha g (by omega) h2)
      refine ⟨⟨k + 1, _, by omega, by go_num, (((qb.out.setCell (Nat.le_refl _) _).setCell (Nat.le_refl _) _).setCell (Nat.le_refl _) _).setCell (Nat.le_refl _) _, row_set (row_set (row_set (row_set HH1.out _ _) _ _) _ _) _ _, by simp [hcs], ?_⟩, by simp [intOf]; omega⟩
      refine G _ (by simp) ?_
      intro g h1 h2
      repeat rw [heap_set _ _ _ _ _ (by omega)]
    · go_wp2_with fail
      go_ret
      obtain rfl : k = l.length := by omega
      refine ⟨_, _, rfl, ?_, hb⟩
      have hp := HL.out
      rw [List.take_length] at hp
      exact .inr ⟨w.heap.size, cs, rfl, Nat.le_refl _, (Array.getElem?_eq_some_iff.1 HH.out).1, HH.out, by omega, hp⟩

set_option maxHeartbeats 2000000 in
theorem to_doc_o (a : Option Addr) (c : Nat) (l : List De) (w : World) (hr : DeRow 0 w.heap.size w a l) (hbd : DefsBd 1048576 l) :
    Calls Tryd.prog 46 #[.agg #[.slice a l.length c]] w fun e w' => ∃ a' c', e = .returned (.agg #[.slice a' l.length c']) ∧ DeOwn w.heap.size w'.heap.size w' a' l ∧ Below w.heap.size w w' := by
  have K3 : Hid (∀ W0, Below w.heap.size w W0 → DeRow 0 W0.heap.size W0 a l) := fun W0 hB => DeRow.up hr hB
  have HD : Hid _ := hbd
  clear hr hbd
  go_enter Tryd.func46, Tryd.ntmps46
  go_wp2_with fail
  refine (to_defs_o a c l _ (K3.out _ ?b0) HD.out).mono ?_
  case b0 => repeat (first | exact Below.refl _ _ | refine Below.setCell ?_ (by simp <;> omega) _ | refine Below.alloc ?_ (by simp <;> omega) _)
  rintro e w3 ⟨b3, d3, rfl, A3, hb3⟩
  have hz3 : w.heap.size + 3 ≤ w3.heap.size := by have := hb3.size; simp at this; omega
  have A3 : Hid (DeOwn (w.heap.size + 3) w3.heap.size w3 b3 l) := DeOwn.wide A3 (by simp <;> omega) (Nat.le_refl _)
  have q3 : Below w.heap.size w w3 := by
    refine Below.trans ?_ (hb3.mono (by simp <;> omega))
    repeat (first | exact Below.refl _ _ | refine Below.setCell ?_ (by simp <;> omega) _ | refine Below.alloc ?_ (by simp <;> omega) _)
  have k31 := fun o => hb3.cell (p := ⟨w.heap.size + 1, o, none⟩) (by simp <;> omega)
  have k32 := fun o => hb3.cell (p := ⟨w.heap.size + 1 + 1, o, none⟩) (by simp <;> omega)
  have j31 := fun o => hb3.frozen (p := ⟨w.heap.size + 1, o, none⟩) (by simp <;> omega)
  have j32 := fun o => hb3.frozen (p := ⟨w.heap.size + 1 + 1, o, none⟩) (by simp <;> omega)
  have Q3 : Hid _ := q3
  clear hb3 q3
  go_wp2_with fail
  refine bodyPost_ret (v := .agg #[.slice b3 l.length d3]) (by simp [results, Tryd.results46, go_sem, k31]) rfl ⟨b3, d3, rfl, ?_⟩
  have G : ∀ W' : World, W'.heap.size = w3.heap.size → Agree (w.heap.size + 3) w3.heap.size w3 W' → Below w.heap.size w W' → DeOwn w.heap.size W'.heap.size W' b3 l ∧ Below w.heap.size w W' :=
    fun W' hw ha hB => ⟨DeOwn.wide (DeOwn.keep A3.out ha) (by omega) (by omega), hB⟩
  refine G _ (by simp) ?_ ?_
  · intro g h1 h2
    repeat rw [heap_set _ _ _ _ _ (by omega)]
  · repeat (refine Below.setCell ?_ (by simp <;> omega) _)
    exact Q3.out
end Go.Proofs.YtgnonbghgcpnoaaDoor
