/- The tests of names, on both sides. -/
import Derived.Test.YtdchpeifpiglmaaGreatDoorOuMark
import Derived.Test.YtdchpeifpiglmaaGreatDoorStNu
import Derived.Deep.CutBlock
import Derived.Deep.CutRange
import Derived.Test.YtdchpeifpiglmaaGreatDoorGMarks
import Derived.Test.YtdchpeifpiglmaaGreatDoorStMark
namespace Go.Proofs.YtdchpeifpiglmaaGreatDoor.G
open Go.ChangeShapes Go.WideShapes Go.ChangeAt Go.RowKit
set_option linter.unusedVariables false

theorem put5_ne {cs : Array Value} {k : Nat} {v0 v1 v2 v3 v4 : Value} {j : Nat} (h : j < k ∨ k + 5 ≤ j) : (put5 cs k v0 v1 v2 v3 v4)[j]? = cs[j]? := by
  unfold put5
  rw [Array.getElem?_setIfInBounds_ne (by omega), Array.getElem?_setIfInBounds_ne (by omega), Array.getElem?_setIfInBounds_ne (by omega), Array.getElem?_setIfInBounds_ne (by omega), Array.getElem?_setIfInBounds_ne (by omega)]
theorem OuSeq.lay {w0 W' : World} {k lo m hi : Nat} {cs : Array Value} {pre : List (Oh × Ous)} {h : Oh} {sub : Ous} {b1 b2 : Option Addr} {f1 f2 : Nat} (hf : h.keys.length ≤ f1) (hlen : pre.length = k) (hcs : k * 5 + 5 ≤ cs.size) (HL : OuSeq w0 (appO pre .nil) cs 0 lo m) (ha : Agree lo m w0 W') (HP : PartsO m hi W' b1 b2 h sub) :
    OuSeq W' (appO (pre ++ [(h, sub)]) .nil) (put5 cs (k * 5) (.int .i64 h.k) (.int .i64 h.n) (.string h.t) (.slice b1 h.keys.length f1) (.slice b2 sub.len f2)) 0 lo hi := by
  subst hlen
  obtain ⟨g0, g1, g2, g3, g4⟩ := put5_at (cs := cs) (k := pre.length * 5) (v0 := .int .i64 h.k) (v1 := .int .i64 h.n) (v2 := .string h.t) (v3 := .slice b1 h.keys.length f1) (v4 := .slice b2 sub.len f2) (by omega)
  obtain ⟨m1, e1, e2, p1, p2⟩ := HP
  refine OuSeq.snoc pre (OuSeq.cells (cs := cs) (OuSeq.keep HL ha) fun j _ hj => put5_ne ?_) ?_
  · rw [appO_len] at hj
    simp only [Ous.len] at hj
    omega
  · rw [show 0 + 5 * pre.length = pre.length * 5 by omega]
    exact ⟨m1, e1, e2, g0, g1, g2, ⟨b1, f1, g3, hf, p1⟩, ⟨b2, f2, g4, p2⟩⟩
set_option maxHeartbeats 1000000 in
theorem to_keys_o (a : Option Addr) (c : Nat) (l : List ByteArray) (w : World) (hr : KeRow 0 w.heap.size w a l) (hl : l.length ≤ 1048576) :
    Calls Tryz.prog 28 #[.slice a l.length c] w fun e w' => ∃ a', e = .returned (.slice a' l.length l.length) ∧ KeOwn w.heap.size w'.heap.size w' a' l ∧ Below w.heap.size w w' := by
  have HR : Hid (KeRow 0 w.heap.size w a l) := hr
  clear hr
  obtain ⟨i27, hi, hz, hsz, hby⟩ := info_str
  have hmk := run_make (P := Tryz.prog) w 27 9 i27 _ Tryz.underlying27 hi hz .i64 .i64 (l.length : Int) (l.length : Int) (by omega) (by omega) (by rw [hby]; omega) (by omega)
  rw [hsz, Int.toNat_natCast, Nat.mul_one] at hmk
  clear hi hz hsz hby
  have hs0 := size_madeCells (Value.string ⟨#[]⟩).cells l.length
  generalize madeCells (Value.string ⟨#[]⟩).cells l.length = cs0 at *
  go_enter Tryz.func28, Tryz.ntmps28
  go_wp2_with fail
  go_loopw [4] (fun i w' => ∃ (k : Nat) (cs : Array Value), k ≤ l.length ∧ i = .int .i64 k ∧ Below w.heap.size w w' ∧ Hid (w'.heap[w.heap.size]? = some (.cells cs 9 (0, 0))) ∧ cs.size = l.length ∧ Hid (∀ i (h : i < l.length), i < k → cs[i]? = some (.string l[i]))) (fun i _ => l.length - (intOf i).toNat)
  case atStart => exact ⟨0, cs0, by omega, rfl, (Below.refl _ _).alloc (Nat.le_refl _) _, heap_alloc_new _ _, hs0, fun i _ h => by omega⟩
  case round =>
    obtain ⟨wo, rfl⟩ : ∃ x, x = wr := ⟨_, rfl⟩
    obtain ⟨k, cs, hk, rfl, hb, HH, hcs, HL⟩ := hrel
    clear hmk hs0
    by_cases hlt : k < l.length
    · obtain ⟨b, o, ha, _, hbl, c0⟩ := KeRow.cells (KeRow.keep HR.out (agree hb (Nat.le_refl _))) k hlt
      subst ha
      obtain ⟨v0, hv0⟩ : ∃ v, wo.cell? ⟨w.heap.size, k, none⟩ = some v := ⟨_, (row_cell HH.out _).trans (Array.getElem?_eq_getElem (by omega))⟩
      have hf0 := row_frozen HH.out k
      go_wp2_with fail
      refine ⟨⟨k + 1, _, by omega, by go_num, hb.setCell (Nat.le_refl _) _, row_set HH.out _ _, by simp [hcs], ?_⟩, by simp [intOf]; omega⟩
      intro i hi1 hi2
      by_cases e : i = k
      · subst e; simp [Array.getElem?_setIfInBounds]; omega
      · rw [Array.getElem?_setIfInBounds_ne (by omega)]; exact HL.out i hi1 (by omega)
    · go_wp2_with fail
      go_ret
      refine ⟨_, rfl, .inr ⟨w.heap.size, cs, rfl, Nat.le_refl _, (Array.getElem?_eq_some_iff.1 HH.out).1, HH.out, by omega, fun i x hx => ?_⟩, hb⟩
      obtain ⟨hi, rfl⟩ := List.getElem?_eq_some_iff.1 hx
      show cs[i * 1]? = _
      rw [Nat.mul_one]
      exact HL.out i hi (by omega)
def ToOusO (l : Ous) : Prop := ∀ (a : Option Addr) (c : Nat) (w : World), OuRow 0 w.heap.size w a l → l.len ≤ 1048576 → OusBd 1048576 l →
    Calls Tryz.prog 49 #[.slice a l.len c] w fun e w' => ∃ a', e = .returned (.slice a' l.len l.len) ∧ OuOwn w.heap.size w'.heap.size w' a' l ∧ Below w.heap.size w w'
set_option maxHeartbeats 2000000 in
theorem to_out_o (h : Oh) (sub : Ous) (ih : ToOusO sub) (a1 a2 : Option Addr) (c1 c2 : Nat) (w : World) (r1 : KeRow 0 w.heap.size w a1 h.keys) (r2 : OuRow 0 w.heap.size w a2 sub)
    (hb : OhBd 1048576 h) (hl : sub.len ≤ 1048576) (hs : OusBd 1048576 sub) :
    Calls Tryz.prog 27 #[.agg #[.int .i64 h.k, .int .i64 h.n, .string h.t, .slice a1 h.keys.length c1, .slice a2 sub.len c2]] w fun e w' =>
      ∃ b1 b2, e = .returned (.agg #[.int .i64 h.k, .int .i64 h.n, .string h.t, .slice b1 h.keys.length h.keys.length, .slice b2 sub.len sub.len]) ∧
        PartsO w.heap.size w'.heap.size w' b1 b2 h sub ∧ Below w.heap.size w w' := by
  obtain ⟨x1, x2, x3⟩ := hb
  have K1 : Hid (∀ W0, Below w.heap.size w W0 → KeRow 0 W0.heap.size W0 a1 h.keys) := fun W0 hB => KeRow.up r1 hB
  have K2 : Hid (∀ W0, Below w.heap.size w W0 → OuRow 0 W0.heap.size W0 a2 sub) := fun W0 hB => OuRow.up r2 hB
  have HI : Hid (ToOusO sub) := ih
  have HS : Hid (OusBd 1048576 sub) := hs
  clear r1 r2 ih hs x3
  go_enter Tryz.func27, Tryz.ntmps27
  go_wp2_with fail
  refine (to_keys_o a1 c1 h.keys _ (K1.out _ ?b0) x2).mono ?_
  case b0 => repeat (first | exact Below.refl _ _ | refine Below.setCell ?_ (by simp <;> omega) _ | refine Below.alloc ?_ (by simp <;> omega) _)
  rintro e w1 ⟨b1, rfl, A1, hb1⟩
  have hz1 : w.heap.size + 3 ≤ w1.heap.size := by have := hb1.size; simp at this; omega
  have A1 : Hid (KeOwn (w.heap.size + 3) w1.heap.size w1 b1 h.keys) := OwnR.wide A1 (by simp <;> omega) (Nat.le_refl _)
  have q1 : Below w.heap.size w w1 := by
    refine Below.trans ?_ (hb1.mono (by simp <;> omega))
    repeat (first | exact Below.refl _ _ | refine Below.setCell ?_ (by simp <;> omega) _ | refine Below.alloc ?_ (by simp <;> omega) _)
  have k10 := fun o => hb1.cell (p := ⟨w.heap.size, o, none⟩) (by simp <;> omega)
  have k11 := fun o => hb1.cell (p := ⟨w.heap.size + 1, o, none⟩) (by simp <;> omega)
  have k12 := fun o => hb1.cell (p := ⟨w.heap.size + 1 + 1, o, none⟩) (by simp <;> omega)
  have j11 := fun o => hb1.frozen (p := ⟨w.heap.size + 1, o, none⟩) (by simp <;> omega)
  have j12 := fun o => hb1.frozen (p := ⟨w.heap.size + 1 + 1, o, none⟩) (by simp <;> omega)
  have Q1 : Hid _ := q1
  clear hb1 q1
  go_wp2_with fail
  refine (HI.out a2 c2 _ (K2.out _ ?b0) hl HS.out).mono ?_
  case b0 => exact Below.setCell Q1.out (by simp <;> omega) _
  rintro e w3 ⟨b3, rfl, A3, hb3⟩
  have hz3 : w1.heap.size ≤ w3.heap.size := by have := hb3.size; simpa using this
  have A3 : Hid (OuOwn w1.heap.size w3.heap.size w3 b3 sub) := OuOwn.wide A3 (by simp) (Nat.le_refl _)
  have A1 : Hid (KeOwn (w.heap.size + 3) w1.heap.size w3 b1 h.keys) := OwnR.keep A1.out (fun g h1 h2 => (agree hb3 (lo := w.heap.size + 3) (hi := w1.heap.size) (by simp) g h1 h2).trans (heap_set _ _ _ _ _ (by omega)))
  have q3 : Below w.heap.size w w3 := (Below.setCell Q1.out (by simp <;> omega) _).trans (hb3.mono (by simp <;> omega))
  have k31 := fun o => hb3.cell (p := ⟨w.heap.size + 1, o, none⟩) (by simp <;> omega)
  have k32 := fun o => hb3.cell (p := ⟨w.heap.size + 1 + 1, o, none⟩) (by simp <;> omega)
  have j31 := fun o => hb3.frozen (p := ⟨w.heap.size + 1, o, none⟩) (by simp <;> omega)
  have j32 := fun o => hb3.frozen (p := ⟨w.heap.size + 1 + 1, o, none⟩) (by simp <;> omega)
  have Q3 : Hid _ := q3
  clear hb3 q3
  go_wp2_with fail
  refine bodyPost_ret (v := .agg #[.int .i64 h.k, .int .i64 h.n, .string h.t, .slice b1 h.keys.length h.keys.length, .slice b3 sub.len sub.len]) (by simp [results, Tryz.results27, go_sem, k11, k31]) rfl ⟨b1, b3, rfl, ?_⟩
  have G : ∀ W' : World, W'.heap.size = w3.heap.size → Agree (w.heap.size + 3) w3.heap.size w3 W' → Below w.heap.size w W' → PartsO w.heap.size W'.heap.size W' b1 b3 h sub ∧ Below w.heap.size w W' :=
    fun W' hw ha hB => ⟨⟨w1.heap.size, by omega, by omega, OwnR.wide (OwnR.keep A1.out (fun g h1 h2 => ha g h1 (by omega))) (by omega) (Nat.le_refl _), OuOwn.wide (OuOwn.keep A3.out (fun g h1 h2 => ha g (by omega) h2)) (Nat.le_refl _) (by omega)⟩, hB⟩
  refine G _ (by simp) ?_ ?_
  · intro g h1 h2
    repeat rw [heap_set _ _ _ _ _ (by omega)]
  · repeat (refine Below.setCell ?_ (by simp <;> omega) _)
    exact Q3.out
set_option maxHeartbeats 2000000 in
theorem to_ous_o (l : Ous) : ToOusO l := by
  induction hN : l.size using Nat.strongRecOn generalizing l with
  | _ N ih =>
  subst hN
  intro a c w hr hl hbd
  have IH : Hid (∀ sub : Ous, sub.size < l.size → ToOusO sub) := fun sub hsub => ih sub.size hsub sub rfl
  have HR : Hid (OuFrom 0 w.heap.size w a 0 l) := hr.from_
  have HB : Hid (OusBd 1048576 l) := hbd
  clear hr ih hbd
  obtain ⟨i27, hi, hz, hsz, hby⟩ := info_out
  have hmk := run_make (P := Tryz.prog) w 42 44 i27 _ Tryz.underlying42 hi hz .i64 .i64 (l.len : Int) (l.len : Int) (by omega) (by omega) (by rw [hby]; omega) (by omega)
  rw [hsz, Int.toNat_natCast] at hmk
  clear hi hz hsz hby
  have hs0 := size_madeCells (Value.agg #[.int .i64 0, .int .i64 0, .string ⟨#[]⟩, .slice none 0 0, .slice none 0 0]).cells (l.len * 5)
  generalize madeCells (Value.agg #[.int .i64 0, .int .i64 0, .string ⟨#[]⟩, .slice none 0 0, .slice none 0 0]).cells (l.len * 5) = cs0 at *
  go_enter Tryz.func49, Tryz.ntmps49
  go_wp2_with fail
  go_loopw [4] (fun i w' => ∃ (k : Nat) (cs : Array Value) (pre : List (Oh × Ous)) (rest : Ous), Hid (l.len = k + rest.len) ∧ i = .int .i64 k ∧ Below w.heap.size w w' ∧ Hid (l = appO pre rest ∧ pre.length = k) ∧ Hid (rest.size ≤ l.size) ∧ Hid (OusBd 1048576 rest) ∧ Hid (OuFrom 0 w.heap.size w a k rest) ∧ Hid (w'.heap[w.heap.size]? = some (.cells cs 44 (0, 0))) ∧ cs.size = l.len * 5 ∧ Hid (OuSeq w' (appO pre .nil) cs 0 (w.heap.size + 1) w'.heap.size)) (fun i _ => l.len - (intOf i).toNat)
  case atStart => exact ⟨0, cs0, [], l, by simp [Hid], rfl, (Below.refl _ _).alloc (Nat.le_refl _) _, ⟨rfl, rfl⟩, Nat.le_refl _, HB, HR, heap_alloc_new _ _, hs0, by simp [Hid, appO, OuSeq]⟩
  case round =>
    obtain ⟨wo, rfl⟩ : ∃ x, x = wr := ⟨_, rfl⟩
    obtain ⟨k, cs, pre, rest, HK, rfl, hb, HP, HZ, HD, HF, HH, hcs, HL⟩ := hrel
    clear hmk hs0
    cases rest with
    | nil =>
      have hk' : ¬ k < l.len := by rw [HK.out]; simp only [Ous.len]; omega
      go_wp2_with fail
      go_ret
      refine ⟨_, rfl, ?_, hb⟩
      obtain ⟨hp1, hp2⟩ := HP.out
      refine .inr ⟨w.heap.size, cs, rfl, Nat.le_refl _, (Array.getElem?_eq_some_iff.1 HH.out).1, HH.out, by omega, ?_⟩
      rw [hp1]
      exact HL.out
    | cons h sub rest =>
      have hlt : k < l.len := by rw [HK.out]; simp only [Ous.len]; omega
      have HK2 : Hid (l.len = k + 1 + rest.len) := by rw [Hid, HK.out]; simp only [Ous.len]; omega
      obtain ⟨b, o, a1, c1, a2, c2, ha, _, hbl, d0, d1, d2, d3, d4, hc, r1, r2, _⟩ := OuFrom.step (OuFrom.keep HF.out (agree hb (Nat.le_refl _)))
      have HF2 : Hid (OuFrom 0 w.heap.size w a (k + 1) rest) := by
        obtain ⟨_, _, _, _, _, _, _, _, _, _, _, _, _, _, _, _, _, rf9⟩ := OuFrom.step HF.out
        exact rf9
      subst ha
      have R1 : Hid (KeRow 0 wo.heap.size wo a1 h.keys) := KeRow.wide r1 (Nat.le_refl _) hb.size
      have R2 : Hid (OuRow 0 wo.heap.size wo a2 sub) := OuRow.wide r2 (Nat.le_refl _) hb.size
      obtain ⟨e1, e2, e3, e4⟩ := HD.out
      have E1 : Hid (OhBd 1048576 h) := e1
      have E3 : Hid (OusBd 1048576 sub) := e3
      have E4 : Hid (OusBd 1048576 rest) := e4
      have HZ2 : Hid (rest.size ≤ l.size) := by have := HZ.out; simp only [Ous.size] at this; unfold Hid; omega
      have IS : Hid (ToOusO sub) := IH.out sub (by have := HZ.out; simp only [Ous.size] at this; omega)
      clear r1 r2 e1 e3 e4
      go_wp2_with fail
      refine (to_out_o h sub IS.out a1 a2 c1 c2 _ R1.out R2.out E1.out e2 E3.out).mono ?_
      rintro e w1 ⟨b1, b3, rfl, A1, hb1⟩
      have A1 : Hid (PartsO wo.heap.size w1.heap.size w1 b1 b3 h sub) := A1
      have hN : w.heap.size < wo.heap.size := (Array.getElem?_eq_some_iff.1 HH.out).1
      have HH1 : Hid (w1.heap[w.heap.size]? = some (.cells cs 44 (0, 0))) := (hb1.block _ hN).trans HH.out
      have AG1 : Hid (Agree (w.heap.size + 1) wo.heap.size wo w1) := agree hb1 (Nat.le_refl _)
      obtain ⟨v0, hv0⟩ : ∃ v, w1.cell? ⟨w.heap.size, k * 5, none⟩ = some v := ⟨_, (row_cell HH1.out _).trans (Array.getElem?_eq_getElem (by omega))⟩
      obtain ⟨v1, hv1⟩ : ∃ v, w1.cell? ⟨w.heap.size, k * 5 + 1, none⟩ = some v := ⟨_, (row_cell HH1.out _).trans (Array.getElem?_eq_getElem (by omega))⟩
      obtain ⟨v2, hv2⟩ : ∃ v, w1.cell? ⟨w.heap.size, k * 5 + 2, none⟩ = some v := ⟨_, (row_cell HH1.out _).trans (Array.getElem?_eq_getElem (by omega))⟩
      obtain ⟨v3, hv3⟩ : ∃ v, w1.cell? ⟨w.heap.size, k * 5 + 3, none⟩ = some v := ⟨_, (row_cell HH1.out _).trans (Array.getElem?_eq_getElem (by omega))⟩
      obtain ⟨v4, hv4⟩ : ∃ v, w1.cell? ⟨w.heap.size, k * 5 + 4, none⟩ = some v := ⟨_, (row_cell HH1.out _).trans (Array.getElem?_eq_getElem (by omega))⟩
      have hf0 := row_frozen HH1.out (k * 5)
      have hf1 := row_frozen HH1.out (k * 5 + 1)
      have hf2 := row_frozen HH1.out (k * 5 + 2)
      have hf3 := row_frozen HH1.out (k * 5 + 3)
      have hf4 := row_frozen HH1.out (k * 5 + 4)
      have qb : Hid _ := hb.trans (hb1.mono hb.size)
      have hz1 := hb1.size
      clear d0 d1 d2 d3 d4
      go_wp2_with fail
      have G : ∀ W' : World, W'.heap.size = w1.heap.size → Agree (w.heap.size + 1) w1.heap.size w1 W' → Hid (OuSeq W' (appO (pre ++ [(h, sub)]) .nil) (put5 cs (k * 5) (.int .i64 h.k) (.int .i64 h.n) (.string h.t) (.slice b1 h.keys.length h.keys.length) (.slice b3 sub.len sub.len)) 0 (w.heap.size + 1) W'.heap.size) := by
        intro W' hw ha
        unfold Hid
        rw [hw]
        exact OuSeq.lay (Nat.le_refl _) HP.out.2 (by omega) HL.out (fun g h1 h2 => (ha g h1 (by omega)).trans (AG1.out g h1 h2)) (PartsO.keep A1.out (fun g h1 h2 => ha g (by omega) h2))
      refine ⟨⟨k + 1, _, pre ++ [(h, sub)], rest, HK2, by go_num, ((((qb.out.setCell (Nat.le_refl _) _).setCell (Nat.le_refl _) _).setCell (Nat.le_refl _) _).setCell (Nat.le_refl _) _).setCell (Nat.le_refl _) _, ⟨by rw [appO_snoc]; exact HP.out.1, by simp [HP.out.2]⟩, HZ2, E4, HF2, row_set (row_set (row_set (row_set (row_set HH1.out _ _) _ _) _ _) _ _) _ _, by simp [hcs], ?_⟩, by simp [intOf]; omega⟩
      refine G _ (by simp) ?_
      intro g h1 h2
      repeat rw [heap_set _ _ _ _ _ (by omega)]
end Go.Proofs.YtdchpeifpiglmaaGreatDoor.G
namespace Go.Proofs.YtdchpeifpiglmaaGreatDoor.G
open Go.ChangeShapes Go.WideShapes Go.ChangeAt Go.RowKit
set_option linter.unusedVariables false

structure Rn where
  need : Int
  rs : List Int
  ws : List Ve
  h : Oh
  sub : Ous
  es : List ByteArray
/-- Where its lists lie. -/
structure RnA where
  ra : Option Addr
  rc : Nat
  wa : Option Addr
  wc : Nat
  a1 : Option Addr
  c1 : Nat
  a2 : Option Addr
  c2 : Nat
  ea : Option Addr
  ec : Nat
def RunRow (lo hi : Nat) (w : World) (p : RnA) (r : Rn) : Prop := NuRow lo hi w p.ra r.rs ∧ VeRow lo hi w p.wa r.ws ∧ KeRow lo hi w p.a1 r.h.keys ∧ OuRow lo hi w p.a2 r.sub ∧ KeRow lo hi w p.ea r.es
theorem RunRow.up {w w' : World} {p : RnA} {r : Rn} (h : RunRow 0 w.heap.size w p r) (hb : Below w.heap.size w w') : RunRow 0 w'.heap.size w' p r :=
  ⟨NuRow.up h.1 hb, VeRow.up h.2.1 hb, KeRow.up h.2.2.1 hb, OuRow.up h.2.2.2.1 hb, KeRow.up h.2.2.2.2 hb⟩
theorem RunRow.keep {lo hi : Nat} {w w' : World} {p : RnA} {r : Rn} (h : RunRow lo hi w p r) (hk : Agree lo hi w w') : RunRow lo hi w' p r :=
  ⟨NuRow.keep h.1 hk, VeRow.keep h.2.1 hk, KeRow.keep h.2.2.1 hk, OuRow.keep h.2.2.2.1 hk, KeRow.keep h.2.2.2.2 hk⟩
theorem RunRow.wide {lo hi lo' hi' : Nat} {w : World} {p : RnA} {r : Rn} (h : RunRow lo hi w p r) (e1 : lo' ≤ lo) (e2 : hi ≤ hi') : RunRow lo' hi' w p r :=
  ⟨NuRow.wide h.1 e1 e2, VeRow.wide h.2.1 e1 e2, KeRow.wide h.2.2.1 e1 e2, OuRow.wide h.2.2.2.1 e1 e2, KeRow.wide h.2.2.2.2 e1 e2⟩
/-- Bounds. -/
def RnBd (m : Nat) (r : Rn) : Prop := r.rs.length ≤ m ∧ r.ws.length ≤ m ∧ (OhBd m r.h ∧ r.sub.len ≤ m ∧ OusBd m r.sub) ∧ r.es.length ≤ m ∧ ∀ x ∈ r.es, x.size ≤ m
/-- Writes that a call owns. -/
def RwOwn (lo hi : Nat) (w : World) (a : Option Addr) (x : List Ve) : Prop := x = [] ∨ ∃ g, a = some ⟨g, 0, none⟩ ∧ lo ≤ g ∧ g < hi ∧ PuBlk w g x
theorem RwOwn.keep {lo hi : Nat} {w w' : World} {a : Option Addr} {x : List Ve} (h : RwOwn lo hi w a x) (hk : Agree lo hi w w') : RwOwn lo hi w' a x := by
  rcases h with h | ⟨g, e, h1, h2, h3⟩
  · exact .inl h
  · exact .inr ⟨g, e, h1, h2, h3.move (hk g h1 h2)⟩
theorem RwOwn.row {lo hi : Nat} {w : World} {a : Option Addr} {x : List Ve} (h : RwOwn lo hi w a x) : VeRow lo hi w a x := by
  rcases h with h | ⟨g, e, h1, h2, h3⟩
  · exact .inl h
  · rw [e]; exact h3.row h1 h2
/-- A run whose lists are its own, one behind the other. -/
def RunOwn (lo hi : Nat) (w : World) (p : RnA) (r : Rn) : Prop := ∃ m1 m2 m3, lo ≤ m1 ∧ m1 ≤ m2 ∧ m2 ≤ m3 ∧ m3 ≤ hi ∧ NuOwn lo m1 w p.ra r.rs ∧ RwOwn m1 m2 w p.wa r.ws ∧ PartsO m2 m3 w p.a1 p.a2 r.h r.sub ∧ KeOwn m3 hi w p.ea r.es
theorem RunOwn.keep {lo hi : Nat} {w w' : World} {p : RnA} {r : Rn} (h : RunOwn lo hi w p r) (hk : Agree lo hi w w') : RunOwn lo hi w' p r := by
  obtain ⟨m1, m2, m3, e1, e2, e3, e4, h1, h2, h3, h4⟩ := h
  exact ⟨m1, m2, m3, e1, e2, e3, e4, h1.keep fun g a b => hk g (by omega) (by omega), h2.keep fun g a b => hk g (by omega) (by omega), h3.keep fun g a b => hk g (by omega) (by omega), h4.keep fun g a b => hk g (by omega) (by omega)⟩
theorem RunOwn.row {lo hi : Nat} {w : World} {p : RnA} {r : Rn} (h : RunOwn lo hi w p r) : RunRow lo hi w p r := by
  obtain ⟨m1, m2, m3, e1, e2, e3, e4, h1, h2, h3, h4⟩ := h
  exact ⟨NuRow.wide h1.row (by omega) (by omega), VeRow.wide h2.row (by omega) (by omega), KeRow.wide h3.rows.1 (by omega) (by omega), OuRow.wide h3.rows.2 (by omega) (by omega), KeRow.wide (ke_row h4) (by omega) (by omega)⟩
section
variable {H : Type} {enc : TypeId × Value → H} {W : World}
theorem nine {α : Type} {l : List α} (h : l.length = 9) : ∃ a b c d e f g i j, l = [a, b, c, d, e, f, g, i, j] := by
  match l, h with
  | [a, b, c, d, e, f, g, i, j], _ => exact ⟨a, b, c, d, e, f, g, i, j, rfl⟩
theorem run_open {fuel : Nat} {cs : List Value} {x : DataW H × List MemPlace} (h : DataW.trod enc Tryz.prog W 0 (fun _ => true) true fuel 32 cs = some x) :
    ∃ (r : Rn) (p : RnA), cs = [.int .i64 r.need, .slice p.ra r.rs.length p.rc, .slice p.wa r.ws.length p.wc, .int .i64 r.h.k, .int .i64 r.h.n, .string r.h.t, .slice p.a1 r.h.keys.length p.c1, .slice p.a2 r.sub.len p.c2, .slice p.ea r.es.length p.ec] ∧ r.h.keys.length ≤ p.c1 ∧ RnBd maxLen r ∧ RunRow 0 W.heap.size W p r := by
  have ci : Tryz.prog.cellsOf 3 = 1 := by kernel_rfl
  have c1 : Tryz.prog.cellsOf 25 = 1 := by kernel_rfl
  have c2 : Tryz.prog.cellsOf 26 = 1 := by kernel_rfl
  have c3 : Tryz.prog.cellsOf 30 = 5 := by kernel_rfl
  have c4 : Tryz.prog.cellsOf 27 = 1 := by kernel_rfl
  have co : Tryz.prog.cellsOf 32 = 9 := by kernel_rfl
  obtain ⟨xs, n', rfl, rfl, hcl, hxl, hf⟩ := DataW.trod_struct Tryz.underlying32 h
  rw [co] at hcl
  obtain ⟨v0, v1, v2, v3, v4, v5, v6, v7, v8, rfl⟩ := nine hcl
  obtain ⟨y0, y1, y2, y3, y4, rfl⟩ := five hxl
  obtain ⟨k, e0, _, _⟩ := DataW.trod_int Tryz.underlying3 (hf 0 _ rfl)
  obtain ⟨ra, rc, rs, e1, b1, q1⟩ := Nus_open (hf 1 _ rfl)
  obtain ⟨wa, wc, ws, e2, _, b2, q2⟩ := Pus_open (hf 2 _ rfl)
  obtain ⟨oh, sub, a1, a2, d1, d2, e3, hc, b3, b4, b5, q3, q4⟩ := out_open (hf 3 _ rfl)
  obtain ⟨ea, ec, es, e4, _, b6, b7, q5⟩ := keys_open (hf 4 _ rfl)
  simp [ci, c1, c2, c3, c4] at e0 e1 e2 e3 e4
  obtain ⟨g3, g4, g5, g6, g7⟩ := e3
  subst e0 e1 e2 g3 g4 g5 g6 g7 e4
  exact ⟨⟨k, rs, ws, oh, sub, es⟩, ⟨ra, rc, wa, wc, a1, d1, a2, d2, ea, ec⟩, rfl, hc, ⟨b1, b2, ⟨b3, b4, b5⟩, b6, b7⟩, q1, q2, q3, q4, q5⟩
end
end Go.Proofs.YtdchpeifpiglmaaGreatDoor.G
namespace Go.Proofs.YtdchpeifpiglmaaGreatDoor.G
open Go.ChangeShapes Go.WideShapes Go.ChangeAt Go.RowKit
set_option linter.unusedVariables false

def wO : Ous → Nat
  | .nil => 0
  | .cons h sub rest => 1 + h.keys.length + wO sub + wO rest
def wN : Ous → Nat
  | .nil => 0
  | .cons h sub rest => h.keys.length + wO sub + wN rest
theorem wO_eq : ∀ l : Ous, wO l = l.len + wN l
  | .nil => rfl
  | .cons h sub rest => by simp only [wO, wN, Ous.len, wO_eq rest]; omega
theorem cO_w : ∀ l : Ous, cO l ≤ 3 * wO l
  | .nil => Nat.le_refl _
  | .cons h sub rest => by have := cO_w sub; have := cO_w rest; simp only [cO, cOh, wO]; omega
set_option maxHeartbeats 1000000 in
theorem sz_keys_w (a : Option Addr) (c : Nat) (l : List ByteArray) (n : Int) (w : World) (hr : KeRow 0 w.heap.size w a l) (hl : l.length ≤ maxLen) (ht : ∀ x ∈ l, x.size ≤ maxLen) (h0 : 0 ≤ n) (h1 : n ≤ 1048576) :
    Calls Tryz.prog 21 #[.slice a l.length c, .int .i64 n] w fun e w' => ∃ m, e = .returned (.int .i64 m) ∧ Sz n m ((l.length ≤ 1048576 ∧ ∀ x ∈ l, x.size ≤ 1048576) ∧ m + l.length ≤ n) ∧ w' = w := by
  unfold maxLen at hl
  by_cases hz : n - l.length < 0
  · go_enter Tryz.func21, Tryz.ntmps21
    go_wp2_with fail
    go_ret
    exact ⟨-1, rfl, Sz.neg h0, rfl⟩
  · have HR : Hid (KeRow 0 w.heap.size w a l) := hr
    have HT : Hid (∀ x ∈ l, x.size ≤ maxLen) := ht
    clear hr ht
    go_enter Tryz.func21, Tryz.ntmps21
    go_wp2_with fail
    go_loop [1, 5] (fun r i => ∃ (k : Nat) (m : Int), k ≤ l.length ∧ i = .int .i64 k ∧ r = .int .i64 m ∧ 0 ≤ m ∧ m + l.length ≤ n ∧ Hid (∀ x ∈ l.take k, x.size ≤ 1048576)) (fun _ i => l.length - (intOf i).toNat)
    case atStart => exact ⟨0, _, by omega, rfl, rfl, by omega, by omega, by simp [Hid]⟩
    case round =>
      obtain ⟨k, m, hk, rfl, rfl, hm0, hm1, HK⟩ := hrel
      by_cases hlt : k < l.length
      · obtain ⟨b, o, ha, _, hbl, c0⟩ := KeRow.cells HR.out k hlt
        subst ha
        have hx : l[k].size ≤ maxLen := HT.out l[k] (List.getElem_mem hlt)
        unfold maxLen at hx
        by_cases hneg : m - l[k].size < 0
        · go_wp2_with fail
          go_ret
          exact ⟨-1, rfl, Sz.neg h0, rfl⟩
        · go_wp2_with fail
          go_round
          case rel => exact ⟨k + 1, m - l[k].size, by omega, by go_num, by go_num, by omega, by omega, all_take hlt HK.out (by omega)⟩
          case measure => simp [intOf]; omega
      · go_wp2_with fail
        go_ret
        rw [List.take_of_length_le (by omega)] at HK
        exact ⟨m, rfl, ⟨by omega, by omega, fun _ => ⟨⟨by omega, HK.out⟩, hm1⟩⟩, rfl⟩
def SzOus_w (l : Ous) : Prop := ∀ (a : Option Addr) (c : Nat) (n : Int) (w : World), OuRow 0 w.heap.size w a l → l.len ≤ maxLen → OusBd maxLen l → 0 ≤ n → n ≤ 1048576 →
    Calls Tryz.prog 41 #[.slice a l.len c, .int .i64 n] w fun e w' => ∃ m, e = .returned (.int .i64 m) ∧ Sz n m ((l.len ≤ 1048576 ∧ OusBd 1048576 l) ∧ m + wO l ≤ n) ∧ Below w.heap.size w w'
set_option maxHeartbeats 1000000 in
theorem sz_out_w (h : Oh) (sub : Ous) (ih : SzOus_w sub) (a1 a2 : Option Addr) (c1 c2 : Nat) (n : Int) (w : World) (r1 : KeRow 0 w.heap.size w a1 h.keys) (r2 : OuRow 0 w.heap.size w a2 sub)
    (hb : OhBd maxLen h) (hl : sub.len ≤ maxLen) (hs : OusBd maxLen sub) (h0 : 0 ≤ n) (h1 : n ≤ 1048576) :
    Calls Tryz.prog 20 #[.agg #[.int .i64 h.k, .int .i64 h.n, .string h.t, .slice a1 h.keys.length c1, .slice a2 sub.len c2], .int .i64 n] w fun e w' =>
      ∃ m, e = .returned (.int .i64 m) ∧ Sz n m ((OhBd 1048576 h ∧ sub.len ≤ 1048576 ∧ OusBd 1048576 sub) ∧ m + h.keys.length + wO sub ≤ n) ∧ Below w.heap.size w w' := by
  obtain ⟨b1, b2, b3⟩ := hb
  have b1' := b1
  unfold maxLen at b1'
  have H3 : Hid (∀ x ∈ h.keys, x.size ≤ maxLen) := b3
  have HS : Hid (OusBd maxLen sub) := hs
  have HI : Hid (SzOus_w sub) := ih
  obtain ⟨V, hV⟩ : ∃ V, V = w.alloc (.cells #[.int .i64 h.k, .int .i64 h.n, .string h.t, .slice a1 h.keys.length c1, .slice a2 sub.len c2] 30) := ⟨_, rfl⟩
  have B0 : Below w.heap.size w V := by rw [hV]; exact (Below.refl _ _).alloc (Nat.le_refl _) _
  have c0 : V.heap[w.heap.size]? = some (.cells #[.int .i64 h.k, .int .i64 h.n, .string h.t, .slice a1 h.keys.length c1, .slice a2 sub.len c2] 30 (0, 0)) := by rw [hV]; exact heap_alloc_new _ _
  have x0 := fun o => row_cell c0 o
  have R1 : Hid (KeRow 0 V.heap.size V a1 h.keys) := KeRow.up r1 B0
  have R2 : Hid (OuRow 0 V.heap.size V a2 sub) := OuRow.up r2 B0
  have HB : Hid _ := B0
  clear b3 hs ih r1 r2 B0 c0
  by_cases g1 : n - h.t.size < 0
  · go_enter Tryz.func20, Tryz.ntmps20
    go_upto_region 1 with fail
    rw [← hV]
    clear hV
    go_wp2_with fail
    go_ret
    exact ⟨-1, rfl, Sz.neg h0, HB.out⟩
  go_enter Tryz.func20, Tryz.ntmps20
  go_upto_region 1 with fail
  rw [← hV]
  clear hV
  go_wp2_with fail
  refine (sz_keys_w a1 c1 h.keys _ _ R1.out b2 H3.out (by omega) (by omega)).mono ?_
  rintro e w1 ⟨m1, rfl, hm, hw⟩
  rw [hw]
  clear hw w1
  have M1 : Hid _ := hm
  have u1 := hm.1
  clear hm
  by_cases n1 : m1 < 0
  · go_wp2_with fail
    go_ret
    exact ⟨-1, rfl, Sz.neg h0, HB.out⟩
  go_wp2_with fail
  refine (HI.out a2 c2 _ _ R2.out hl HS.out (by omega) (by omega)).mono ?_
  rintro e w3 ⟨m3, rfl, hm, hb3⟩
  have M3 : Hid _ := hm
  have u3 := hm.1
  clear hm
  have q3 : Below w.heap.size w w3 := HB.out.trans (hb3.mono HB.out.size)
  clear hb3
  by_cases n3 : m3 < 0
  · go_wp2_with fail
    go_ret
    exact ⟨-1, rfl, Sz.neg h0, q3⟩
  · go_wp2_with fail
    go_ret
    exact ⟨m3, rfl, ⟨by omega, by omega, fun _ => ⟨⟨⟨by omega, (M1.out.2.2 (by omega)).1.1, (M1.out.2.2 (by omega)).1.2⟩, (M3.out.2.2 (by omega)).1⟩, by have h1 := (M1.out.2.2 (by omega)).2; have h2 := (M3.out.2.2 (by omega)).2; omega⟩⟩, q3⟩
/-- From the k-th value on. -/
theorem sz_ous_w : ∀ l : Ous, SzOus_w l := by
  suffices H : ∀ (m : Nat) (l : Ous), l.size ≤ m → SzOus_w l from fun l => H l.size l (Nat.le_refl _)
  intro m
  induction m with
  | zero =>
    intro l hl
    cases l with
    | cons h s r => simp [Ous.size] at hl
    | nil =>
      intro a c n w hr hlen hbd h0 h1
      simp only [Ous.len]
      go_enter Tryz.func41, Tryz.ntmps41
      go_wp2_with fail
      go_loop [1, 5] (fun r i => r = .int .i64 n ∧ i = .int .i64 0) (fun _ _ => 0)
      case atStart => exact ⟨by simp, rfl⟩
      case round =>
        obtain ⟨rfl, rfl⟩ := hrel
        go_wp2_with fail
        go_ret
        exact ⟨n, rfl, ⟨Int.le_refl _, by omega, fun _ => ⟨by first | trivial | exact ⟨Nat.zero_le _, trivial⟩, by simp [wO]⟩⟩, Below.refl _ _⟩
  | succ m ih =>
    intro l hl a c n w hr hlen hbd h0 h1
    unfold maxLen at hlen
    by_cases hz : n - l.len < 0
    · go_enter Tryz.func41, Tryz.ntmps41
      go_wp2_with fail
      go_ret
      exact ⟨-1, rfl, Sz.neg h0, Below.refl _ _⟩
    have HIH : Hid (∀ x : Ous, x.size ≤ m → SzOus_w x) := ih
    have HF : Hid (OuFrom 0 w.heap.size w a 0 l) := hr.from_
    have HD : Hid (OusBd maxLen l) := hbd
    have HSZ : Hid (l.size ≤ m + 1) := hl
    obtain ⟨N, hN⟩ : ∃ N, N = l.len := ⟨_, rfl⟩
    rw [← hN] at hlen hz ⊢
    have HN : Hid (l.len = N) := hN.symm
    clear hr hbd ih hl hN
    go_enter Tryz.func41, Tryz.ntmps41
    go_wp2_with fail
    go_loopw [1, 5] (fun r i w' => ∃ (k : Nat) (q : Int) (rest : Ous), i = .int .i64 k ∧ r = .int .i64 q ∧ k + rest.len = N ∧ 0 ≤ q ∧ q ≤ n ∧ Below w.heap.size w w' ∧ Hid (rest.size ≤ m + 1) ∧ Hid (OuFrom 0 w.heap.size w a k rest) ∧ Hid (OusBd maxLen rest) ∧ Hid (OusBd 1048576 rest → OusBd 1048576 l) ∧ Hid (q + N + wN l ≤ n + wN rest)) (fun _ i _ => N - (intOf i).toNat)
    case atStart => exact ⟨0, _, l, rfl, rfl, by rw [HN.out]; omega, by omega, by omega, Below.refl _ _, HSZ, HF, HD, fun h => h, by unfold Hid; omega⟩
    case round =>
      obtain ⟨wo, rfl⟩ : ∃ x, x = wr := ⟨_, rfl⟩
      obtain ⟨k, q, rest, rfl, rfl, hk, hq0, hq1, hb, HS, HFr, HDr, HL, HWT⟩ := hrel
      cases rest with
      | nil =>
        simp only [Ous.len] at hk
        obtain rfl : k = N := by omega
        go_wp2_with fail
        go_ret
        exact ⟨q, rfl, ⟨hq1, by omega, fun _ => ⟨⟨by first | omega | (rw [HN.out]; omega), HL.out trivial⟩, by have h1 := HWT.out; have h2 := HN.out; simp only [wN] at h1; rw [wO_eq]; omega⟩⟩, hb⟩
      | cons h sub rest =>
        obtain ⟨b, o, a1, c1, a2, c2, ha, _, hbl, e0, e1, e2, e3, e4, hc, r1, r2, rf⟩ := OuFrom.step (OuFrom.keep HFr.out (agree hb (Nat.le_refl _)))
        subst ha
        obtain ⟨d1, d2, d3, d4⟩ := HDr.out
        have hs1 : sub.size ≤ m ∧ rest.size ≤ m + 1 := by have := HS.out; simp only [Ous.size] at this; omega
        have hlt : (k : Int) < N := by simp only [Ous.len] at hk; omega
        have R1 : Hid (KeRow 0 wo.heap.size wo a1 h.keys) := KeRow.wide r1 (Nat.le_refl _) hb.size
        have R2 : Hid (OuRow 0 wo.heap.size wo a2 sub) := OuRow.wide r2 (Nat.le_refl _) hb.size
        have D1 : Hid _ := d1
        have D3 : Hid _ := d3
        have D4 : Hid _ := d4
        have RF : Hid (OuFrom 0 w.heap.size w (some ⟨b, o, none⟩) (k + 1) rest) := by
          rcases HFr.out with h | ⟨b', o', e', f1, f2, f3⟩
          · cases h
          · simp only [Option.some.injEq, Addr.mk.injEq] at e'
            obtain ⟨rfl, rfl, _⟩ := e'
            obtain ⟨_, _, _, _, _, _, e9, _, _, _, _, _, _, _, _, _, _, rf9⟩ := OuFrom.step HFr.out
            exact rf9
        clear r1 r2 rf d1 d3 d4
        go_wp2_with fail
        refine (sz_out_w h sub (HIH.out sub hs1.1) a1 a2 c1 c2 q _ R1.out R2.out D1.out d2 D3.out hq0 (by omega)).mono ?_
        rintro e w1 ⟨m1, rfl, hm, hb1⟩
        have HM : Hid _ := hm
        have u1 := hm.1
        have qb : Below w.heap.size w w1 := hb.trans (hb1.mono hb.size)
        clear hm hb1 e0 e1 e2 e3 e4
        by_cases hneg : m1 < 0
        · go_wp2_with fail
          go_ret
          exact ⟨-1, rfl, Sz.neg h0, qb⟩
        · go_wp2_with fail
          exact ⟨⟨k + 1, m1, rest, by go_num, rfl, by simp only [Ous.len] at hk; omega, by omega, by omega, qb, hs1.2, RF, D4, fun hx => HL.out ⟨(HM.out.2.2 (by omega)).1.1, (HM.out.2.2 (by omega)).1.2.1, (HM.out.2.2 (by omega)).1.2.2, hx⟩, by have h1 := HWT.out; have h2 := (HM.out.2.2 (by omega)).2; simp only [wN] at h1; unfold Hid; omega⟩, by simp [intOf]; omega⟩
end Go.Proofs.YtdchpeifpiglmaaGreatDoor.G
namespace Go.Proofs.YtdchpeifpiglmaaGreatDoor.G
open Go.ChangeShapes Go.WideShapes Go.ChangeAt Go.RowKit
set_option linter.unusedVariables false

set_option maxHeartbeats 1000000 in
theorem sz_keys (a : Option Addr) (c : Nat) (l : List ByteArray) (n : Int) (w : World) (hr : KeRow 0 w.heap.size w a l) (hl : l.length ≤ maxLen) (ht : ∀ x ∈ l, x.size ≤ maxLen) (h0 : 0 ≤ n) (h1 : n ≤ 1048576) :
    Calls Tryz.prog 21 #[.slice a l.length c, .int .i64 n] w fun e w' => ∃ m, e = .returned (.int .i64 m) ∧ Sz n m (l.length ≤ 1048576 ∧ ∀ x ∈ l, x.size ≤ 1048576) ∧ w' = w := by
  unfold maxLen at hl
  by_cases hz : n - l.length < 0
  · go_enter Tryz.func21, Tryz.ntmps21
    go_wp2_with fail
    go_ret
    exact ⟨-1, rfl, Sz.neg h0, rfl⟩
  · have HR : Hid (KeRow 0 w.heap.size w a l) := hr
    have HT : Hid (∀ x ∈ l, x.size ≤ maxLen) := ht
    clear hr ht
    go_enter Tryz.func21, Tryz.ntmps21
    go_wp2_with fail
    go_loop [1, 5] (fun r i => ∃ (k : Nat) (m : Int), k ≤ l.length ∧ i = .int .i64 k ∧ r = .int .i64 m ∧ 0 ≤ m ∧ m ≤ n ∧ Hid (∀ x ∈ l.take k, x.size ≤ 1048576)) (fun _ i => l.length - (intOf i).toNat)
    case atStart => exact ⟨0, _, by omega, rfl, rfl, by omega, by omega, by simp [Hid]⟩
    case round =>
      obtain ⟨k, m, hk, rfl, rfl, hm0, hm1, HK⟩ := hrel
      by_cases hlt : k < l.length
      · obtain ⟨b, o, ha, _, hbl, c0⟩ := KeRow.cells HR.out k hlt
        subst ha
        have hx : l[k].size ≤ maxLen := HT.out l[k] (List.getElem_mem hlt)
        unfold maxLen at hx
        by_cases hneg : m - l[k].size < 0
        · go_wp2_with fail
          go_ret
          exact ⟨-1, rfl, Sz.neg h0, rfl⟩
        · go_wp2_with fail
          go_round
          case rel => exact ⟨k + 1, m - l[k].size, by omega, by go_num, by go_num, by omega, by omega, all_take hlt HK.out (by omega)⟩
          case measure => simp [intOf]; omega
      · go_wp2_with fail
        go_ret
        rw [List.take_of_length_le (by omega)] at HK
        exact ⟨m, rfl, ⟨hm1, by omega, fun _ => ⟨by omega, HK.out⟩⟩, rfl⟩
def SzOus (l : Ous) : Prop := ∀ (a : Option Addr) (c : Nat) (n : Int) (w : World), OuRow 0 w.heap.size w a l → l.len ≤ maxLen → OusBd maxLen l → 0 ≤ n → n ≤ 1048576 →
    Calls Tryz.prog 41 #[.slice a l.len c, .int .i64 n] w fun e w' => ∃ m, e = .returned (.int .i64 m) ∧ Sz n m (l.len ≤ 1048576 ∧ OusBd 1048576 l) ∧ Below w.heap.size w w'
set_option maxHeartbeats 1000000 in
theorem sz_out (h : Oh) (sub : Ous) (ih : SzOus sub) (a1 a2 : Option Addr) (c1 c2 : Nat) (n : Int) (w : World) (r1 : KeRow 0 w.heap.size w a1 h.keys) (r2 : OuRow 0 w.heap.size w a2 sub)
    (hb : OhBd maxLen h) (hl : sub.len ≤ maxLen) (hs : OusBd maxLen sub) (h0 : 0 ≤ n) (h1 : n ≤ 1048576) :
    Calls Tryz.prog 20 #[.agg #[.int .i64 h.k, .int .i64 h.n, .string h.t, .slice a1 h.keys.length c1, .slice a2 sub.len c2], .int .i64 n] w fun e w' =>
      ∃ m, e = .returned (.int .i64 m) ∧ Sz n m (OhBd 1048576 h ∧ sub.len ≤ 1048576 ∧ OusBd 1048576 sub) ∧ Below w.heap.size w w' := by
  obtain ⟨b1, b2, b3⟩ := hb
  have b1' := b1
  unfold maxLen at b1'
  have H3 : Hid (∀ x ∈ h.keys, x.size ≤ maxLen) := b3
  have HS : Hid (OusBd maxLen sub) := hs
  have HI : Hid (SzOus sub) := ih
  obtain ⟨V, hV⟩ : ∃ V, V = w.alloc (.cells #[.int .i64 h.k, .int .i64 h.n, .string h.t, .slice a1 h.keys.length c1, .slice a2 sub.len c2] 30) := ⟨_, rfl⟩
  have B0 : Below w.heap.size w V := by rw [hV]; exact (Below.refl _ _).alloc (Nat.le_refl _) _
  have c0 : V.heap[w.heap.size]? = some (.cells #[.int .i64 h.k, .int .i64 h.n, .string h.t, .slice a1 h.keys.length c1, .slice a2 sub.len c2] 30 (0, 0)) := by rw [hV]; exact heap_alloc_new _ _
  have x0 := fun o => row_cell c0 o
  have R1 : Hid (KeRow 0 V.heap.size V a1 h.keys) := KeRow.up r1 B0
  have R2 : Hid (OuRow 0 V.heap.size V a2 sub) := OuRow.up r2 B0
  have HB : Hid _ := B0
  clear b3 hs ih r1 r2 B0 c0
  by_cases g1 : n - h.t.size < 0
  · go_enter Tryz.func20, Tryz.ntmps20
    go_upto_region 1 with fail
    rw [← hV]
    clear hV
    go_wp2_with fail
    go_ret
    exact ⟨-1, rfl, Sz.neg h0, HB.out⟩
  go_enter Tryz.func20, Tryz.ntmps20
  go_upto_region 1 with fail
  rw [← hV]
  clear hV
  go_wp2_with fail
  refine (sz_keys a1 c1 h.keys _ _ R1.out b2 H3.out (by omega) (by omega)).mono ?_
  rintro e w1 ⟨m1, rfl, hm, hw⟩
  rw [hw]
  clear hw w1
  have M1 : Hid _ := hm
  have u1 := hm.1
  clear hm
  by_cases n1 : m1 < 0
  · go_wp2_with fail
    go_ret
    exact ⟨-1, rfl, Sz.neg h0, HB.out⟩
  go_wp2_with fail
  refine (HI.out a2 c2 _ _ R2.out hl HS.out (by omega) (by omega)).mono ?_
  rintro e w3 ⟨m3, rfl, hm, hb3⟩
  have M3 : Hid _ := hm
  have u3 := hm.1
  clear hm
  have q3 : Below w.heap.size w w3 := HB.out.trans (hb3.mono HB.out.size)
  clear hb3
  by_cases n3 : m3 < 0
  · go_wp2_with fail
    go_ret
    exact ⟨-1, rfl, Sz.neg h0, q3⟩
  · go_wp2_with fail
    go_ret
    exact ⟨m3, rfl, ⟨by omega, by omega, fun _ => ⟨⟨by omega, (M1.out.2.2 (by omega)).1, (M1.out.2.2 (by omega)).2⟩, M3.out.2.2 (by omega)⟩⟩, q3⟩
/-- From the k-th value on. -/
theorem sz_ous : ∀ l : Ous, SzOus l := by
  suffices H : ∀ (m : Nat) (l : Ous), l.size ≤ m → SzOus l from fun l => H l.size l (Nat.le_refl _)
  intro m
  induction m with
  | zero =>
    intro l hl
    cases l with
    | cons h s r => simp [Ous.size] at hl
    | nil =>
      intro a c n w hr hlen hbd h0 h1
      simp only [Ous.len]
      go_enter Tryz.func41, Tryz.ntmps41
      go_wp2_with fail
      go_loop [1, 5] (fun r i => r = .int .i64 n ∧ i = .int .i64 0) (fun _ _ => 0)
      case atStart => exact ⟨by simp, rfl⟩
      case round =>
        obtain ⟨rfl, rfl⟩ := hrel
        go_wp2_with fail
        go_ret
        exact ⟨n, rfl, ⟨Int.le_refl _, by omega, fun _ => by first | trivial | exact ⟨Nat.zero_le _, trivial⟩⟩, Below.refl _ _⟩
  | succ m ih =>
    intro l hl a c n w hr hlen hbd h0 h1
    unfold maxLen at hlen
    by_cases hz : n - l.len < 0
    · go_enter Tryz.func41, Tryz.ntmps41
      go_wp2_with fail
      go_ret
      exact ⟨-1, rfl, Sz.neg h0, Below.refl _ _⟩
    have HIH : Hid (∀ x : Ous, x.size ≤ m → SzOus x) := ih
    have HF : Hid (OuFrom 0 w.heap.size w a 0 l) := hr.from_
    have HD : Hid (OusBd maxLen l) := hbd
    have HSZ : Hid (l.size ≤ m + 1) := hl
    obtain ⟨N, hN⟩ : ∃ N, N = l.len := ⟨_, rfl⟩
    rw [← hN] at hlen hz ⊢
    have HN : Hid (l.len = N) := hN.symm
    clear hr hbd ih hl hN
    go_enter Tryz.func41, Tryz.ntmps41
    go_wp2_with fail
    go_loopw [1, 5] (fun r i w' => ∃ (k : Nat) (q : Int) (rest : Ous), i = .int .i64 k ∧ r = .int .i64 q ∧ k + rest.len = N ∧ 0 ≤ q ∧ q ≤ n ∧ Below w.heap.size w w' ∧ Hid (rest.size ≤ m + 1) ∧ Hid (OuFrom 0 w.heap.size w a k rest) ∧ Hid (OusBd maxLen rest) ∧ Hid (OusBd 1048576 rest → OusBd 1048576 l)) (fun _ i _ => N - (intOf i).toNat)
    case atStart => exact ⟨0, _, l, rfl, rfl, by rw [HN.out]; omega, by omega, by omega, Below.refl _ _, HSZ, HF, HD, fun h => h⟩
    case round =>
      obtain ⟨wo, rfl⟩ : ∃ x, x = wr := ⟨_, rfl⟩
      obtain ⟨k, q, rest, rfl, rfl, hk, hq0, hq1, hb, HS, HFr, HDr, HL⟩ := hrel
      cases rest with
      | nil =>
        simp only [Ous.len] at hk
        obtain rfl : k = N := by omega
        go_wp2_with fail
        go_ret
        exact ⟨q, rfl, ⟨hq1, by omega, fun _ => ⟨by first | omega | (rw [HN.out]; omega), HL.out trivial⟩⟩, hb⟩
      | cons h sub rest =>
        obtain ⟨b, o, a1, c1, a2, c2, ha, _, hbl, e0, e1, e2, e3, e4, hc, r1, r2, rf⟩ := OuFrom.step (OuFrom.keep HFr.out (agree hb (Nat.le_refl _)))
        subst ha
        obtain ⟨d1, d2, d3, d4⟩ := HDr.out
        have hs1 : sub.size ≤ m ∧ rest.size ≤ m + 1 := by have := HS.out; simp only [Ous.size] at this; omega
        have hlt : (k : Int) < N := by simp only [Ous.len] at hk; omega
        have R1 : Hid (KeRow 0 wo.heap.size wo a1 h.keys) := KeRow.wide r1 (Nat.le_refl _) hb.size
        have R2 : Hid (OuRow 0 wo.heap.size wo a2 sub) := OuRow.wide r2 (Nat.le_refl _) hb.size
        have D1 : Hid _ := d1
        have D3 : Hid _ := d3
        have D4 : Hid _ := d4
        have RF : Hid (OuFrom 0 w.heap.size w (some ⟨b, o, none⟩) (k + 1) rest) := by
          rcases HFr.out with h | ⟨b', o', e', f1, f2, f3⟩
          · cases h
          · simp only [Option.some.injEq, Addr.mk.injEq] at e'
            obtain ⟨rfl, rfl, _⟩ := e'
            obtain ⟨_, _, _, _, _, _, e9, _, _, _, _, _, _, _, _, _, _, rf9⟩ := OuFrom.step HFr.out
            exact rf9
        clear r1 r2 rf d1 d3 d4
        go_wp2_with fail
        refine (sz_out h sub (HIH.out sub hs1.1) a1 a2 c1 c2 q _ R1.out R2.out D1.out d2 D3.out hq0 (by omega)).mono ?_
        rintro e w1 ⟨m1, rfl, hm, hb1⟩
        have HM : Hid _ := hm
        have u1 := hm.1
        have qb : Below w.heap.size w w1 := hb.trans (hb1.mono hb.size)
        clear hm hb1 e0 e1 e2 e3 e4
        by_cases hneg : m1 < 0
        · go_wp2_with fail
          go_ret
          exact ⟨-1, rfl, Sz.neg h0, qb⟩
        · go_wp2_with fail
          exact ⟨⟨k + 1, m1, rest, by go_num, rfl, by simp only [Ous.len] at hk; omega, by omega, by omega, qb, hs1.2, RF, D4, fun hx => HL.out ⟨(HM.out.2.2 (by omega)).1, (HM.out.2.2 (by omega)).2.1, (HM.out.2.2 (by omega)).2.2, hx⟩⟩, by simp [intOf]; omega⟩
end Go.Proofs.YtdchpeifpiglmaaGreatDoor.G
namespace Go.Proofs.YtdchpeifpiglmaaGreatDoor.G
open Go.ChangeShapes Go.WideShapes Go.ChangeAt Go.RowKit
set_option linter.unusedVariables false

theorem spec_nameOK (s : ByteArray) (w : World) (hs : s.size ≤ maxLen) :
    Calls Tryz.prog 63 #[.string s] w fun e w' => e = .returned (.bool (nameB s)) ∧ w' = w := by
  go_enter Tryz.func63, Tryz.ntmps63
  go_wp2_with fail
  refine (word_any s _ hs).mono ?_
  rintro e w1 ⟨rfl, rfl⟩
  go_wp2_with fail
  go_ret
  exact ⟨rfl, rfl⟩
theorem impl_nameOK (s : ByteArray) (w : World) (hs : s.size ≤ maxLen) :
    Calls Tryz.prog 88 #[.string s] w fun e w' => e = .returned (.bool (nameB s)) ∧ Below w.heap.size w w' := by
  refine (nameOK_any s w hs).mono ?_
  rintro e w1 ⟨rfl, hw⟩
  refine ⟨rfl, ?_⟩
  rcases hw with rfl | ⟨pos, rfl⟩
  · exact Below.refl _ _
  · exact (Below.refl _ _).alloc (Nat.le_refl _) _

def inB (n a b : Int) : Bool := decide (a ≤ n ∧ n ≤ b)
set_option maxHeartbeats 400000 in
theorem spec_in (n a b : Int) (w : World) : Calls Tryz.prog 61 #[.int .i64 n, .int .i64 a, .int .i64 b] w fun e w' => e = .returned (.bool (inB n a b)) ∧ w' = w := by
  go_enter Tryz.func61, Tryz.ntmps61
  go_wp2
  all_goals (go_ret; exact ⟨ret_bool (by unfold inB; rw [Bool.eq_iff_iff]; simp; omega), rfl⟩)
end Go.Proofs.YtdchpeifpiglmaaGreatDoor.G
