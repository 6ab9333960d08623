/- What the law copies of an answer's value is owned: each list in a block of its own. -/
import Derived.Test.YtoaeggfnlenjkaaGreatDoorOuMark
namespace Go.Proofs.YtoaeggfnlenjkaaGreatDoor.G
open Go.ChangeShapes Go.WideShapes Go.ChangeAt Go.RowKit
set_option linter.unusedVariables false

theorem put5_ne {cs : Array Value} {k : Nat} {v0 v1 v2 v3 v4 : Value} {j : Nat} (h : j < k ∨ k + 5 ≤ j) : (put5 cs k v0 v1 v2 v3 v4)[j]? = cs[j]? := by
  unfold put5
  rw [Array.getElem?_setIfInBounds_ne (by omega), Array.getElem?_setIfInBounds_ne (by omega), Array.getElem?_setIfInBounds_ne (by omega), Array.getElem?_setIfInBounds_ne (by omega), Array.getElem?_setIfInBounds_ne (by omega)]
theorem OuSeq.lay {w0 W' : World} {k lo m hi : Nat} {cs : Array Value} {pre : List (Oh × Ous)} {h : Oh} {sub : Ous} {b1 b2 : Option Addr} {f1 f2 : Nat} (hf : h.keys.length ≤ f1) (hlen : pre.length = k) (hcs : k * 5 + 5 ≤ cs.size) (HL : OuSeq w0 (appO pre .nil) cs 0 lo m) (ha : Agree lo m w0 W') (HP : PartsO m hi W' b1 b2 h sub) :
    OuSeq W' (appO (pre ++ [(h, sub)]) .nil) (put5 cs (k * 5) (.int .i64 h.k) (.int .i64 h.n) (.string h.t) (.slice b1 h.keys.length f1) (.slice b2 sub.len f2)) 0 lo hi := by
  subst hlen
  obtain ⟨g0, g1, g2, g3, g4⟩ := put5_at (cs := cs) (k := pre.length * 5) (v0 := .int .i64 h.k) (v1 := .int .i64 h.n) (v2 := .string h.t) (v3 := .slice b1 h.keys.length f1) (v4 := .slice b2 sub.len f2) (by omega)
  obtain ⟨m1, e1, e2, p1, p2⟩ := HP
  refine OuSeq.snoc pre (OuSeq.cells (cs := cs) (OuSeq.keep HL ha) fun j _ hj => put5_ne ?_) ?_
  · rw [appO_len] at hj
    simp only [Ous.len] at hj
    omega
  · rw [show 0 + 5 * pre.length = pre.length * 5 by omega]
    exact ⟨m1, e1, e2, g0, g1, g2, ⟨b1, f1, g3, hf, p1⟩, ⟨b2, f2, g4, p2⟩⟩
set_option maxHeartbeats 1000000 in
theorem to_keys_o (a : Option Addr) (c : Nat) (l : List ByteArray) (w : World) (hr : KeRow 0 w.heap.size w a l) (hl : l.length ≤ 1048576) :
    Calls Tryz.prog 21 #[.slice a l.length c] w fun e w' => ∃ a', e = .returned (.slice a' l.length l.length) ∧ KeOwn w.heap.size w'.heap.size w' a' l ∧ Below w.heap.size w w' := by
  have HR : Hid (KeRow 0 w.heap.size w a l) := hr
  clear hr
  obtain ⟨i27, hi, hz, hsz, hby⟩ := info_str
  have hmk := run_make (P := Tryz.prog) w 23 9 i27 _ Tryz.underlying23 hi hz .i64 .i64 (l.length : Int) (l.length : Int) (by omega) (by omega) (by rw [hby]; omega) (by omega)
  rw [hsz, Int.toNat_natCast, Nat.mul_one] at hmk
  clear hi hz hsz hby
  have hs0 := size_madeCells (Value.string ⟨#[]⟩).cells l.length
  generalize madeCells (Value.string ⟨#[]⟩).cells l.length = cs0 at *
  go_enter Tryz.func21, Tryz.ntmps21
  go_wp2_with fail
  go_loopw [4] (fun i w' => ∃ (k : Nat) (cs : Array Value), k ≤ l.length ∧ i = .int .i64 k ∧ Below w.heap.size w w' ∧ Hid (w'.heap[w.heap.size]? = some (.cells cs 9 (0, 0))) ∧ cs.size = l.length ∧ Hid (∀ i (h : i < l.length), i < k → cs[i]? = some (.string l[i]))) (fun i _ => l.length - (intOf i).toNat)
  case atStart => exact ⟨0, cs0, by omega, rfl, (Below.refl _ _).alloc (Nat.le_refl _) _, heap_alloc_new _ _, hs0, fun i _ h => by omega⟩
  case round =>
    obtain ⟨wo, rfl⟩ : ∃ x, x = wr := ⟨_, rfl⟩
    obtain ⟨k, cs, hk, rfl, hb, HH, hcs, HL⟩ := hrel
    clear hmk hs0
    by_cases hlt : k < l.length
    · obtain ⟨b, o, ha, _, hbl, c0⟩ := KeRow.cells (KeRow.keep HR.out (agree hb (Nat.le_refl _))) k hlt
      subst ha
      obtain ⟨v0, hv0⟩ : ∃ v, wo.cell? ⟨w.heap.size, k, none⟩ = some v := ⟨_, (row_cell HH.out _).trans (Array.getElem?_eq_getElem (by omega))⟩
      have hf0 := row_frozen HH.out k
      go_wp2_with fail
      refine ⟨⟨k + 1, _, by omega, by go_num, hb.setCell (Nat.le_refl _) _, row_set HH.out _ _, by simp [hcs], ?_⟩, by simp [intOf]; omega⟩
      intro i hi1 hi2
      by_cases e : i = k
      · subst e; simp [Array.getElem?_setIfInBounds]; omega
      · rw [Array.getElem?_setIfInBounds_ne (by omega)]; exact HL.out i hi1 (by omega)
    · go_wp2_with fail
      go_ret
      refine ⟨_, rfl, .inr ⟨w.heap.size, cs, rfl, Nat.le_refl _, (Array.getElem?_eq_some_iff.1 HH.out).1, HH.out, by omega, fun i x hx => ?_⟩, hb⟩
      obtain ⟨hi, rfl⟩ := List.getElem?_eq_some_iff.1 hx
      show cs[i * 1]? = _
      rw [Nat.mul_one]
      exact HL.out i hi (by omega)
def ToOusO (l : Ous) : Prop := ∀ (a : Option Addr) (c : Nat) (w : World), OuRow 0 w.heap.size w a l → l.len ≤ 1048576 → OusBd 1048576 l →
    Calls Tryz.prog 54 #[.slice a l.len c] w fun e w' => ∃ a', e = .returned (.slice a' l.len l.len) ∧ OuOwn w.heap.size w'.heap.size w' a' l ∧ Below w.heap.size w w'
set_option maxHeartbeats 2000000 in
theorem to_out_o (h : Oh) (sub : Ous) (ih : ToOusO sub) (a1 a2 : Option Addr) (c1 c2 : Nat) (w : World) (r1 : KeRow 0 w.heap.size w a1 h.keys) (r2 : OuRow 0 w.heap.size w a2 sub)
    (hb : OhBd 1048576 h) (hl : sub.len ≤ 1048576) (hs : OusBd 1048576 sub) :
    Calls Tryz.prog 20 #[.agg #[.int .i64 h.k, .int .i64 h.n, .string h.t, .slice a1 h.keys.length c1, .slice a2 sub.len c2]] w fun e w' =>
      ∃ b1 b2, e = .returned (.agg #[.int .i64 h.k, .int .i64 h.n, .string h.t, .slice b1 h.keys.length h.keys.length, .slice b2 sub.len sub.len]) ∧
        PartsO w.heap.size w'.heap.size w' b1 b2 h sub ∧ Below w.heap.size w w' := by
  obtain ⟨x1, x2, x3⟩ := hb
  have K1 : Hid (∀ W0, Below w.heap.size w W0 → KeRow 0 W0.heap.size W0 a1 h.keys) := fun W0 hB => KeRow.up r1 hB
  have K2 : Hid (∀ W0, Below w.heap.size w W0 → OuRow 0 W0.heap.size W0 a2 sub) := fun W0 hB => OuRow.up r2 hB
  have HI : Hid (ToOusO sub) := ih
  have HS : Hid (OusBd 1048576 sub) := hs
  clear r1 r2 ih hs x3
  go_enter Tryz.func20, Tryz.ntmps20
  go_wp2_with fail
  refine (to_keys_o a1 c1 h.keys _ (K1.out _ ?b0) x2).mono ?_
  case b0 => repeat (first | exact Below.refl _ _ | refine Below.setCell ?_ (by simp <;> omega) _ | refine Below.alloc ?_ (by simp <;> omega) _)
  rintro e w1 ⟨b1, rfl, A1, hb1⟩
  have hz1 : w.heap.size + 3 ≤ w1.heap.size := by have := hb1.size; simp at this; omega
  have A1 : Hid (KeOwn (w.heap.size + 3) w1.heap.size w1 b1 h.keys) := OwnR.wide A1 (by simp <;> omega) (Nat.le_refl _)
  have q1 : Below w.heap.size w w1 := by
    refine Below.trans ?_ (hb1.mono (by simp <;> omega))
    repeat (first | exact Below.refl _ _ | refine Below.setCell ?_ (by simp <;> omega) _ | refine Below.alloc ?_ (by simp <;> omega) _)
  have k10 := fun o => hb1.cell (p := ⟨w.heap.size, o, none⟩) (by simp <;> omega)
  have k11 := fun o => hb1.cell (p := ⟨w.heap.size + 1, o, none⟩) (by simp <;> omega)
  have k12 := fun o => hb1.cell (p := ⟨w.heap.size + 1 + 1, o, none⟩) (by simp <;> omega)
  have j11 := fun o => hb1.frozen (p := ⟨w.heap.size + 1, o, none⟩) (by simp <;> omega)
  have j12 := fun o => hb1.frozen (p := ⟨w.heap.size + 1 + 1, o, none⟩) (by simp <;> omega)
  have Q1 : Hid _ := q1
  clear hb1 q1
  go_wp2_with fail
  refine (HI.out a2 c2 _ (K2.out _ ?b0) hl HS.out).mono ?_
  case b0 => exact Below.setCell Q1.out (by simp <;> omega) _
  rintro e w3 ⟨b3, rfl, A3, hb3⟩
  have hz3 : w1.heap.size ≤ w3.heap.size := by have := hb3.size; simpa using this
  have A3 : Hid (OuOwn w1.heap.size w3.heap.size w3 b3 sub) := OuOwn.wide A3 (by simp) (Nat.le_refl _)
  have A1 : Hid (KeOwn (w.heap.size + 3) w1.heap.size w3 b1 h.keys) := OwnR.keep A1.out (fun g h1 h2 => (agree hb3 (lo := w.heap.size + 3) (hi := w1.heap.size) (by simp) g h1 h2).trans (heap_set _ _ _ _ _ (by omega)))
  have q3 : Below w.heap.size w w3 := (Below.setCell Q1.out (by simp <;> omega) _).trans (hb3.mono (by simp <;> omega))
  have k31 := fun o => hb3.cell (p := ⟨w.heap.size + 1, o, none⟩) (by simp <;> omega)
  have k32 := fun o => hb3.cell (p := ⟨w.heap.size + 1 + 1, o, none⟩) (by simp <;> omega)
  have j31 := fun o => hb3.frozen (p := ⟨w.heap.size + 1, o, none⟩) (by simp <;> omega)
  have j32 := fun o => hb3.frozen (p := ⟨w.heap.size + 1 + 1, o, none⟩) (by simp <;> omega)
  have Q3 : Hid _ := q3
  clear hb3 q3
  go_wp2_with fail
  refine bodyPost_ret (v := .agg #[.int .i64 h.k, .int .i64 h.n, .string h.t, .slice b1 h.keys.length h.keys.length, .slice b3 sub.len sub.len]) (by simp [results, Tryz.results20, go_sem, k11, k31]) rfl ⟨b1, b3, rfl, ?_⟩
  have G : ∀ W' : World, W'.heap.size = w3.heap.size → Agree (w.heap.size + 3) w3.heap.size w3 W' → Below w.heap.size w W' → PartsO w.heap.size W'.heap.size W' b1 b3 h sub ∧ Below w.heap.size w W' :=
    fun W' hw ha hB => ⟨⟨w1.heap.size, by omega, by omega, OwnR.wide (OwnR.keep A1.out (fun g h1 h2 => ha g h1 (by omega))) (by omega) (Nat.le_refl _), OuOwn.wide (OuOwn.keep A3.out (fun g h1 h2 => ha g (by omega) h2)) (Nat.le_refl _) (by omega)⟩, hB⟩
  refine G _ (by simp) ?_ ?_
  · intro g h1 h2
    repeat rw [heap_set _ _ _ _ _ (by omega)]
  · repeat (refine Below.setCell ?_ (by simp <;> omega) _)
    exact Q3.out
set_option maxHeartbeats 2000000 in
theorem to_ous_o (l : Ous) : ToOusO l := by
  induction hN : l.size using Nat.strongRecOn generalizing l with
  | _ N ih =>
  subst hN
  intro a c w hr hl hbd
  have IH : Hid (∀ sub : Ous, sub.size < l.size → ToOusO sub) := fun sub hsub => ih sub.size hsub sub rfl
  have HR : Hid (OuFrom 0 w.heap.size w a 0 l) := hr.from_
  have HB : Hid (OusBd 1048576 l) := hbd
  clear hr ih hbd
  obtain ⟨i27, hi, hz, hsz, hby⟩ := info_out
  have hmk := run_make (P := Tryz.prog) w 24 26 i27 _ Tryz.underlying24 hi hz .i64 .i64 (l.len : Int) (l.len : Int) (by omega) (by omega) (by rw [hby]; omega) (by omega)
  rw [hsz, Int.toNat_natCast] at hmk
  clear hi hz hsz hby
  have hs0 := size_madeCells (Value.agg #[.int .i64 0, .int .i64 0, .string ⟨#[]⟩, .slice none 0 0, .slice none 0 0]).cells (l.len * 5)
  generalize madeCells (Value.agg #[.int .i64 0, .int .i64 0, .string ⟨#[]⟩, .slice none 0 0, .slice none 0 0]).cells (l.len * 5) = cs0 at *
  go_enter Tryz.func54, Tryz.ntmps54
  go_wp2_with fail
  go_loopw [4] (fun i w' => ∃ (k : Nat) (cs : Array Value) (pre : List (Oh × Ous)) (rest : Ous), Hid (l.len = k + rest.len) ∧ i = .int .i64 k ∧ Below w.heap.size w w' ∧ Hid (l = appO pre rest ∧ pre.length = k) ∧ Hid (rest.size ≤ l.size) ∧ Hid (OusBd 1048576 rest) ∧ Hid (OuFrom 0 w.heap.size w a k rest) ∧ Hid (w'.heap[w.heap.size]? = some (.cells cs 26 (0, 0))) ∧ cs.size = l.len * 5 ∧ Hid (OuSeq w' (appO pre .nil) cs 0 (w.heap.size + 1) w'.heap.size)) (fun i _ => l.len - (intOf i).toNat)
  case atStart => exact ⟨0, cs0, [], l, by simp [Hid], rfl, (Below.refl _ _).alloc (Nat.le_refl _) _, ⟨rfl, rfl⟩, Nat.le_refl _, HB, HR, heap_alloc_new _ _, hs0, by simp [Hid, appO, OuSeq]⟩
  case round =>
    obtain ⟨wo, rfl⟩ : ∃ x, x = wr := ⟨_, rfl⟩
    obtain ⟨k, cs, pre, rest, HK, rfl, hb, HP, HZ, HD, HF, HH, hcs, HL⟩ := hrel
    clear hmk hs0
    cases rest with
    | nil =>
      have hk' : ¬ k < l.len := by rw [HK.out]; simp only [Ous.len]; omega
      go_wp2_with fail
      go_ret
      refine ⟨_, rfl, ?_, hb⟩
      obtain ⟨hp1, hp2⟩ := HP.out
      refine .inr ⟨w.heap.size, cs, rfl, Nat.le_refl _, (Array.getElem?_eq_some_iff.1 HH.out).1, HH.out, by omega, ?_⟩
      rw [hp1]
      exact HL.out
    | cons h sub rest =>
      have hlt : k < l.len := by rw [HK.out]; simp only [Ous.len]; omega
      have HK2 : Hid (l.len = k + 1 + rest.len) := by rw [Hid, HK.out]; simp only [Ous.len]; omega
      obtain ⟨b, o, a1, c1, a2, c2, ha, _, hbl, d0, d1, d2, d3, d4, hc, r1, r2, _⟩ := OuFrom.step (OuFrom.keep HF.out (agree hb (Nat.le_refl _)))
      have HF2 : Hid (OuFrom 0 w.heap.size w a (k + 1) rest) := by
        obtain ⟨_, _, _, _, _, _, _, _, _, _, _, _, _, _, _, _, _, rf9⟩ := OuFrom.step HF.out
        exact rf9
      subst ha
      have R1 : Hid (KeRow 0 wo.heap.size wo a1 h.keys) := KeRow.wide r1 (Nat.le_refl _) hb.size
      have R2 : Hid (OuRow 0 wo.heap.size wo a2 sub) := OuRow.wide r2 (Nat.le_refl _) hb.size
      obtain ⟨e1, e2, e3, e4⟩ := HD.out
      have E1 : Hid (OhBd 1048576 h) := e1
      have E3 : Hid (OusBd 1048576 sub) := e3
      have E4 : Hid (OusBd 1048576 rest) := e4
      have HZ2 : Hid (rest.size ≤ l.size) := by have := HZ.out; simp only [Ous.size] at this; unfold Hid; omega
      have IS : Hid (ToOusO sub) := IH.out sub (by have := HZ.out; simp only [Ous.size] at this; omega)
      clear r1 r2 e1 e3 e4
      go_wp2_with fail
      refine (to_out_o h sub IS.out a1 a2 c1 c2 _ R1.out R2.out E1.out e2 E3.out).mono ?_
      rintro e w1 ⟨b1, b3, rfl, A1, hb1⟩
      have A1 : Hid (PartsO wo.heap.size w1.heap.size w1 b1 b3 h sub) := A1
      have hN : w.heap.size < wo.heap.size := (Array.getElem?_eq_some_iff.1 HH.out).1
      have HH1 : Hid (w1.heap[w.heap.size]? = some (.cells cs 26 (0, 0))) := (hb1.block _ hN).trans HH.out
      have AG1 : Hid (Agree (w.heap.size + 1) wo.heap.size wo w1) := agree hb1 (Nat.le_refl _)
      obtain ⟨v0, hv0⟩ : ∃ v, w1.cell? ⟨w.heap.size, k * 5, none⟩ = some v := ⟨_, (row_cell HH1.out _).trans (Array.getElem?_eq_getElem (by omega))⟩
      obtain ⟨v1, hv1⟩ : ∃ v, w1.cell? ⟨w.heap.size, k * 5 + 1, none⟩ = some v := ⟨_, (row_cell HH1.out _).trans (Array.getElem?_eq_getElem (by omega))⟩
      obtain ⟨v2, hv2⟩ : ∃ v, w1.cell? ⟨w.heap.size, k * 5 + 2, none⟩ = some v := ⟨_, (row_cell HH1.out _).trans (Array.getElem?_eq_getElem (by omega))⟩
      obtain ⟨v3, hv3⟩ : ∃ v, w1.cell? ⟨w.heap.size, k * 5 + 3, none⟩ = some v := ⟨_, (row_cell HH1.out _).trans (Array.getElem?_eq_getElem (by omega))⟩
      obtain ⟨v4, hv4⟩ : ∃ v, w1.cell? ⟨w.heap.size, k * 5 + 4, none⟩ = some v := ⟨_, (row_cell HH1.out _).trans (Array.getElem?_eq_getElem (by omega))⟩
      have hf0 := row_frozen HH1.out (k * 5)
      have hf1 := row_frozen HH1.out (k * 5 + 1)
      have hf2 := row_frozen HH1.out (k * 5 + 2)
      have hf3 := row_frozen HH1.out (k * 5 + 3)
      have hf4 := row_frozen HH1.out (k * 5 + 4)
      have qb : Hid _ := hb.trans (hb1.mono hb.size)
      have hz1 := hb1.size
      clear d0 d1 d2 d3 d4
      go_wp2_with fail
      have G : ∀ W' : World, W'.heap.size = w1.heap.size → Agree (w.heap.size + 1) w1.heap.size w1 W' → Hid (OuSeq W' (appO (pre ++ [(h, sub)]) .nil) (put5 cs (k * 5) (.int .i64 h.k) (.int .i64 h.n) (.string h.t) (.slice b1 h.keys.length h.keys.length) (.slice b3 sub.len sub.len)) 0 (w.heap.size + 1) W'.heap.size) := by
        intro W' hw ha
        unfold Hid
        rw [hw]
        exact OuSeq.lay (Nat.le_refl _) HP.out.2 (by omega) HL.out (fun g h1 h2 => (ha g h1 (by omega)).trans (AG1.out g h1 h2)) (PartsO.keep A1.out (fun g h1 h2 => ha g (by omega) h2))
      refine ⟨⟨k + 1, _, pre ++ [(h, sub)], rest, HK2, by go_num, ((((qb.out.setCell (Nat.le_refl _) _).setCell (Nat.le_refl _) _).setCell (Nat.le_refl _) _).setCell (Nat.le_refl _) _).setCell (Nat.le_refl _) _, ⟨by rw [appO_snoc]; exact HP.out.1, by simp [HP.out.2]⟩, HZ2, E4, HF2, row_set (row_set (row_set (row_set (row_set HH1.out _ _) _ _) _ _) _ _) _ _, by simp [hcs], ?_⟩, by simp [intOf]; omega⟩
      refine G _ (by simp) ?_
      intro g h1 h2
      repeat rw [heap_set _ _ _ _ _ (by omega)]
end Go.Proofs.YtoaeggfnlenjkaaGreatDoor.G
