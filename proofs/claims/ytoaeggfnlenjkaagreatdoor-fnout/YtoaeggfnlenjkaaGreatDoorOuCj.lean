/- The specification's joining of words. -/
import Derived.Test.YtoaeggfnlenjkaaGreatDoorDigitsD
import Derived.Deep.CutBlock
import Derived.Deep.CutRange
import Derived.Test.YtoaeggfnlenjkaaGreatDoorOuText
import Derived.Test.YtoaeggfnlenjkaaGreatDoorOuSpec
namespace Go.Proofs.YtoaeggfnlenjkaaGreatDoor.G
open Go.ChangeShapes Go.WideShapes Go.ChangeAt Go.RowKit
set_option linter.unusedVariables false

theorem appO_snoc : ∀ (p : List (Oh × Ous)) (h : Oh) (sub rest : Ous), appO (p ++ [(h, sub)]) rest = appO p (.cons h sub rest)
  | [], h, sub, rest => rfl
  | x :: p, h, sub, rest => by simp only [List.cons_append, appO]; rw [appO_snoc p]
theorem OuPre.more {lo hi : Nat} {w : World} {rd : Nat → Option Value} {h : Oh} {sub rest : Ous} : ∀ (pre : List (Oh × Ous)) {o : Nat}, OuPre lo hi w (appO pre (.cons h sub rest)) rd o pre.length →
    OhAt lo hi w rd (o + 5 * pre.length) h → (∃ a c, rd (o + 5 * pre.length + 4) = some (.slice a sub.len c) ∧ OuRow lo hi w a sub) → OuPre lo hi w (appO pre (.cons h sub rest)) rd o (pre.length + 1)
  | [], o, _, h1, h2 => .inr ⟨by simpa using h1, by simpa [OuRow] using h2, by
      cases rest with
      | nil => exact trivial
      | cons _ _ _ => exact .inl rfl⟩
  | x :: pre, o, hp, h1, h2 => by
    rcases hp with hp | ⟨p1, p2, p3⟩
    · simp at hp
    · refine .inr ⟨p1, p2, ?_⟩
      have e : (x :: pre).length + 1 - 1 = pre.length + 1 := by simp
      rw [e]
      refine OuPre.more pre (by simpa using p3) ?_ ?_
      · rw [show o + 5 + 5 * pre.length = o + 5 * (x :: pre).length by simp; omega]; exact h1
      · rw [show o + 5 + 5 * pre.length = o + 5 * (x :: pre).length by simp; omega]; exact h2
theorem OuPre.cells {lo hi : Nat} {w : World} {rd rd' : Nat → Option Value} : ∀ {l : Ous} {o k : Nat}, OuPre lo hi w l rd o k → (∀ j, o ≤ j → j < o + 5 * k → rd' j = rd j) → OuPre lo hi w l rd' o k
  | .nil, _, _, _, _ => trivial
  | .cons h sub rest, o, k, hp, hj => by
    rcases hp with hp | ⟨⟨p0, p1, p2, a, c, p3, pc, p4⟩, ⟨a2, c2, p5, p6⟩, p7⟩
    · exact .inl hp
    · by_cases hk : k = 0
      · exact .inl hk
      refine .inr ⟨⟨?_, ?_, ?_, a, c, ?_, pc, p4⟩, ⟨a2, c2, ?_, p6⟩, OuPre.cells p7 (fun j h1 h2 => hj j (by omega) (by omega))⟩
      · rw [hj _ (by omega) (by omega)]; exact p0
      · rw [hj _ (by omega) (by omega)]; exact p1
      · rw [hj _ (by omega) (by omega)]; exact p2
      · rw [hj _ (by omega) (by omega)]; exact p3
      · rw [hj _ (by omega) (by omega)]; exact p5
theorem agree_set {lo hi : Nat} {w : World} {b o : Nat} {v : Value} (h : b < lo) : Agree lo hi w (w.setCell ⟨b, o, none⟩ v) := fun g h1 _ => heap_set _ _ _ _ _ (by omega)
set_option maxRecDepth 100000 in
theorem info_str : ∃ i, Tryz.prog.info? 9 = some i ∧ i.zero = some (.string ⟨#[]⟩) ∧ i.size = 1 ∧ i.bytes = 16 := by
  refine ⟨_, rfl, ?_, ?_, ?_⟩ <;> kernel_rfl
set_option maxRecDepth 100000 in
theorem info_out : ∃ i, Tryz.prog.info? 26 = some i ∧ i.zero = some (.agg #[.int .i64 0, .int .i64 0, .string ⟨#[]⟩, .slice none 0 0, .slice none 0 0]) ∧ i.size = 5 ∧ i.bytes = 80 := by
  refine ⟨_, rfl, ?_, ?_, ?_⟩ <;> kernel_rfl
set_option maxHeartbeats 1000000 in
theorem to_keys (a : Option Addr) (c : Nat) (l : List ByteArray) (w : World) (hr : KeRow 0 w.heap.size w a l) (hl : l.length ≤ 1048576) :
    Calls Tryz.prog 21 #[.slice a l.length c] w fun e w' => ∃ a', e = .returned (.slice a' l.length l.length) ∧ KeRow w.heap.size w'.heap.size w' a' l ∧ Below w.heap.size w w' := by
  have HR : Hid (KeRow 0 w.heap.size w a l) := hr
  clear hr
  obtain ⟨i27, hi, hz, hsz, hby⟩ := info_str
  have hmk := run_make (P := Tryz.prog) w 23 9 i27 _ Tryz.underlying23 hi hz .i64 .i64 (l.length : Int) (l.length : Int) (by omega) (by omega) (by rw [hby]; omega) (by omega)
  rw [hsz, Int.toNat_natCast, Nat.mul_one] at hmk
  clear hi hz hsz hby
  have hs0 := size_madeCells (Value.string ⟨#[]⟩).cells l.length
  generalize madeCells (Value.string ⟨#[]⟩).cells l.length = cs0 at *
  go_enter Tryz.func21, Tryz.ntmps21
  go_wp2_with fail
  go_loopw [4] (fun i w' => ∃ (k : Nat) (cs : Array Value), k ≤ l.length ∧ i = .int .i64 k ∧ Below w.heap.size w w' ∧ Hid (w'.heap[w.heap.size]? = some (.cells cs 9 (0, 0))) ∧ cs.size = l.length ∧ Hid (∀ i (h : i < l.length), i < k → cs[i]? = some (.string l[i]))) (fun i _ => l.length - (intOf i).toNat)
  case atStart => exact ⟨0, cs0, by omega, rfl, (Below.refl _ _).alloc (Nat.le_refl _) _, heap_alloc_new _ _, hs0, fun i _ h => by omega⟩
  case round =>
    obtain ⟨wo, rfl⟩ : ∃ x, x = wr := ⟨_, rfl⟩
    obtain ⟨k, cs, hk, rfl, hb, HH, hcs, HL⟩ := hrel
    clear hmk hs0
    by_cases hlt : k < l.length
    · obtain ⟨b, o, ha, _, hbl, c0⟩ := KeRow.cells (KeRow.keep HR.out (agree hb (Nat.le_refl _))) k hlt
      subst ha
      obtain ⟨v0, hv0⟩ : ∃ v, wo.cell? ⟨w.heap.size, k, none⟩ = some v := ⟨_, (row_cell HH.out _).trans (Array.getElem?_eq_getElem (by omega))⟩
      have hf0 := row_frozen HH.out k
      go_wp2_with fail
      refine ⟨⟨k + 1, _, by omega, by go_num, hb.setCell (Nat.le_refl _) _, row_set HH.out _ _, by simp [hcs], ?_⟩, by simp [intOf]; omega⟩
      intro i hi1 hi2
      by_cases e : i = k
      · subst e; simp [Array.getElem?_setIfInBounds]; omega
      · rw [Array.getElem?_setIfInBounds_ne (by omega)]; exact HL.out i hi1 (by omega)
    · go_wp2_with fail
      go_ret
      refine ⟨_, rfl, .inr ⟨w.heap.size, 0, rfl, Nat.le_refl _, (Array.getElem?_eq_some_iff.1 HH.out).1, fun i x hx => ?_⟩, hb⟩
      obtain ⟨hi, rfl⟩ := List.getElem?_eq_some_iff.1 hx
      rw [row_rd HH.out]
      show cs[0 + i * 1]? = _
      rw [Nat.mul_one, Nat.zero_add]
      exact HL.out i hi (by omega)
def ToOus (l : Ous) : Prop := ∀ (a : Option Addr) (c : Nat) (w : World), OuRow 0 w.heap.size w a l → l.len ≤ 1048576 → OusBd 1048576 l →
    Calls Tryz.prog 54 #[.slice a l.len c] w fun e w' => ∃ a', e = .returned (.slice a' l.len l.len) ∧ OuRow w.heap.size w'.heap.size w' a' l ∧ Below w.heap.size w w'
set_option maxHeartbeats 2000000 in
theorem to_out (h : Oh) (sub : Ous) (ih : ToOus sub) (a1 a2 : Option Addr) (c1 c2 : Nat) (w : World) (r1 : KeRow 0 w.heap.size w a1 h.keys) (r2 : OuRow 0 w.heap.size w a2 sub)
    (hb : OhBd 1048576 h) (hl : sub.len ≤ 1048576) (hs : OusBd 1048576 sub) :
    Calls Tryz.prog 20 #[.agg #[.int .i64 h.k, .int .i64 h.n, .string h.t, .slice a1 h.keys.length c1, .slice a2 sub.len c2]] w fun e w' =>
      ∃ b1 b2, e = .returned (.agg #[.int .i64 h.k, .int .i64 h.n, .string h.t, .slice b1 h.keys.length h.keys.length, .slice b2 sub.len sub.len]) ∧
        KeRow w.heap.size w'.heap.size w' b1 h.keys ∧ OuRow w.heap.size w'.heap.size w' b2 sub ∧ Below w.heap.size w w' := by
  obtain ⟨x1, x2, x3⟩ := hb
  have K1 : Hid (∀ W0, Below w.heap.size w W0 → KeRow 0 W0.heap.size W0 a1 h.keys) := fun W0 hB => KeRow.up r1 hB
  have K2 : Hid (∀ W0, Below w.heap.size w W0 → OuRow 0 W0.heap.size W0 a2 sub) := fun W0 hB => OuRow.up r2 hB
  have HI : Hid (ToOus sub) := ih
  have HS : Hid (OusBd 1048576 sub) := hs
  clear r1 r2 ih hs x3
  go_enter Tryz.func20, Tryz.ntmps20
  go_wp2_with fail
  refine (to_keys a1 c1 h.keys _ (K1.out _ ?b0) x2).mono ?_
  case b0 => repeat (first | exact Below.refl _ _ | refine Below.setCell ?_ (by simp <;> omega) _ | refine Below.alloc ?_ (by simp <;> omega) _)
  rintro e w1 ⟨b1, rfl, A1, hb1⟩
  have hz1 : w.heap.size + 3 ≤ w1.heap.size := by have := hb1.size; simp at this; omega
  have A1 : Hid (KeRow (w.heap.size + 3) w1.heap.size w1 b1 h.keys) := KeRow.wide A1 (by simp <;> omega) (Nat.le_refl _)
  have q1 : Below w.heap.size w w1 := by
    refine Below.trans ?_ (hb1.mono (by simp <;> omega))
    repeat (first | exact Below.refl _ _ | refine Below.setCell ?_ (by simp <;> omega) _ | refine Below.alloc ?_ (by simp <;> omega) _)
  have k10 := fun o => hb1.cell (p := ⟨w.heap.size, o, none⟩) (by simp <;> omega)
  have k11 := fun o => hb1.cell (p := ⟨w.heap.size + 1, o, none⟩) (by simp <;> omega)
  have k12 := fun o => hb1.cell (p := ⟨w.heap.size + 1 + 1, o, none⟩) (by simp <;> omega)
  have j11 := fun o => hb1.frozen (p := ⟨w.heap.size + 1, o, none⟩) (by simp <;> omega)
  have j12 := fun o => hb1.frozen (p := ⟨w.heap.size + 1 + 1, o, none⟩) (by simp <;> omega)
  have Q1 : Hid _ := q1
  clear hb1 q1
  go_wp2_with fail
  refine (HI.out a2 c2 _ (K2.out _ ?b0) hl HS.out).mono ?_
  case b0 => exact Below.setCell Q1.out (by simp <;> omega) _
  rintro e w3 ⟨b3, rfl, A3, hb3⟩
  have hz3 : w1.heap.size ≤ w3.heap.size := by have := hb3.size; simpa using this
  have A3 : Hid (OuRow (w.heap.size + 3) w3.heap.size w3 b3 sub) := OuRow.wide A3 (by simp <;> omega) (Nat.le_refl _)
  have A1 : Hid (KeRow (w.heap.size + 3) w3.heap.size w3 b1 h.keys) := KeRow.wide (KeRow.keep A1.out (fun g h1 h2 => (agree hb3 (lo := w.heap.size + 3) (hi := w1.heap.size) (by simp) g h1 h2).trans (heap_set _ _ _ _ _ (by omega)))) (Nat.le_refl _) hz3
  have q3 : Below w.heap.size w w3 := (Below.setCell Q1.out (by simp <;> omega) _).trans (hb3.mono (by simp <;> omega))
  have k31 := fun o => hb3.cell (p := ⟨w.heap.size + 1, o, none⟩) (by simp <;> omega)
  have k32 := fun o => hb3.cell (p := ⟨w.heap.size + 1 + 1, o, none⟩) (by simp <;> omega)
  have j31 := fun o => hb3.frozen (p := ⟨w.heap.size + 1, o, none⟩) (by simp <;> omega)
  have j32 := fun o => hb3.frozen (p := ⟨w.heap.size + 1 + 1, o, none⟩) (by simp <;> omega)
  have Q3 : Hid _ := q3
  clear hb3 q3
  go_wp2_with fail
  refine bodyPost_ret (v := .agg #[.int .i64 h.k, .int .i64 h.n, .string h.t, .slice b1 h.keys.length h.keys.length, .slice b3 sub.len sub.len]) (by simp [results, Tryz.results20, go_sem, k11, k31]) rfl ⟨b1, b3, rfl, ?_⟩
  have G : ∀ W' : World, W'.heap.size = w3.heap.size → Agree (w.heap.size + 3) w3.heap.size w3 W' → Below w.heap.size w W' → KeRow w.heap.size W'.heap.size W' b1 h.keys ∧ OuRow w.heap.size W'.heap.size W' b3 sub ∧ Below w.heap.size w W' :=
    fun W' hw ha hB => ⟨KeRow.wide (KeRow.keep A1.out ha) (by omega) (by omega), OuRow.wide (OuRow.keep A3.out ha) (by omega) (by omega), hB⟩
  refine G _ (by simp) ?_ ?_
  · intro g h1 h2
    repeat rw [heap_set _ _ _ _ _ (by omega)]
  · repeat (refine Below.setCell ?_ (by simp <;> omega) _)
    exact Q3.out
def put5 (cs : Array Value) (k : Nat) (v0 v1 v2 v3 v4 : Value) : Array Value := (((((cs.setIfInBounds k v0).setIfInBounds (k + 1) v1).setIfInBounds (k + 2) v2).setIfInBounds (k + 3) v3).setIfInBounds (k + 4) v4)
theorem put5_at {cs : Array Value} {k : Nat} {v0 v1 v2 v3 v4 : Value} (h : k + 4 < cs.size) : (put5 cs k v0 v1 v2 v3 v4)[k]? = some v0 ∧ (put5 cs k v0 v1 v2 v3 v4)[k + 1]? = some v1 ∧ (put5 cs k v0 v1 v2 v3 v4)[k + 2]? = some v2 ∧ (put5 cs k v0 v1 v2 v3 v4)[k + 3]? = some v3 ∧ (put5 cs k v0 v1 v2 v3 v4)[k + 4]? = some v4 := by
  unfold put5
  refine ⟨?_, ?_, ?_, ?_, ?_⟩ <;> simp [Array.getElem?_setIfInBounds] <;> omega
theorem put5_else {cs : Array Value} {k : Nat} {v0 v1 v2 v3 v4 : Value} {j : Nat} (h : j < k) : (put5 cs k v0 v1 v2 v3 v4)[j]? = cs[j]? := by
  unfold put5
  rw [Array.getElem?_setIfInBounds_ne (by omega), Array.getElem?_setIfInBounds_ne (by omega), Array.getElem?_setIfInBounds_ne (by omega), Array.getElem?_setIfInBounds_ne (by omega), Array.getElem?_setIfInBounds_ne (by omega)]
set_option maxHeartbeats 2000000 in
theorem to_ous (l : Ous) : ToOus l := by
  induction hN : l.size using Nat.strongRecOn generalizing l with
  | _ N ih =>
  subst hN
  intro a c w hr hl hbd
  have IH : Hid (∀ sub : Ous, sub.size < l.size → ToOus sub) := fun sub hsub => ih sub.size hsub sub rfl
  have HR : Hid (OuFrom 0 w.heap.size w a 0 l) := hr.from_
  have HB : Hid (OusBd 1048576 l) := hbd
  clear hr ih hbd
  obtain ⟨i27, hi, hz, hsz, hby⟩ := info_out
  have hmk := run_make (P := Tryz.prog) w 24 26 i27 _ Tryz.underlying24 hi hz .i64 .i64 (l.len : Int) (l.len : Int) (by omega) (by omega) (by rw [hby]; omega) (by omega)
  rw [hsz, Int.toNat_natCast] at hmk
  clear hi hz hsz hby
  have hs0 := size_madeCells (Value.agg #[.int .i64 0, .int .i64 0, .string ⟨#[]⟩, .slice none 0 0, .slice none 0 0]).cells (l.len * 5)
  generalize madeCells (Value.agg #[.int .i64 0, .int .i64 0, .string ⟨#[]⟩, .slice none 0 0, .slice none 0 0]).cells (l.len * 5) = cs0 at *
  go_enter Tryz.func54, Tryz.ntmps54
  go_wp2_with fail
  go_loopw [4] (fun i w' => ∃ (k : Nat) (cs : Array Value) (pre : List (Oh × Ous)) (rest : Ous), Hid (l.len = k + rest.len) ∧ i = .int .i64 k ∧ Below w.heap.size w w' ∧ Hid (l = appO pre rest ∧ pre.length = k) ∧ Hid (rest.size ≤ l.size) ∧ Hid (OusBd 1048576 rest) ∧ Hid (OuFrom 0 w.heap.size w a k rest) ∧ Hid (w'.heap[w.heap.size]? = some (.cells cs 26 (0, 0))) ∧ cs.size = l.len * 5 ∧ Hid (OuPre (w.heap.size + 1) w'.heap.size w' l (fun j => cs[j]?) 0 k)) (fun i _ => l.len - (intOf i).toNat)
  case atStart => exact ⟨0, cs0, [], l, by simp [Hid], rfl, (Below.refl _ _).alloc (Nat.le_refl _) _, ⟨rfl, rfl⟩, Nat.le_refl _, HB, HR, heap_alloc_new _ _, hs0, by
      unfold Hid
      cases l with
      | nil => exact trivial
      | cons _ _ _ => exact .inl rfl⟩
  case round =>
    obtain ⟨wo, rfl⟩ : ∃ x, x = wr := ⟨_, rfl⟩
    obtain ⟨k, cs, pre, rest, HK, rfl, hb, HP, HZ, HD, HF, HH, hcs, HL⟩ := hrel
    clear hmk hs0
    cases rest with
    | nil =>
      have hk' : ¬ k < l.len := by rw [HK.out]; simp only [Ous.len]; omega
      go_wp2_with fail
      go_ret
      refine ⟨_, rfl, ?_, hb⟩
      have hkl : l.len = k := by rw [HK.out]; rfl
      refine .inr ⟨w.heap.size, 0, rfl, Nat.le_refl _, (Array.getElem?_eq_some_iff.1 HH.out).1, ?_⟩
      rw [row_rd HH.out, hkl]
      exact HL.out.wide (by omega) (Nat.le_refl _)
    | cons h sub rest =>
      have hlt : k < l.len := by rw [HK.out]; simp only [Ous.len]; omega
      have HK2 : Hid (l.len = k + 1 + rest.len) := by rw [Hid, HK.out]; simp only [Ous.len]; omega
      obtain ⟨b, o, a1, c1, a2, c2, ha, _, hbl, d0, d1, d2, d3, d4, hc, r1, r2, _⟩ := OuFrom.step (OuFrom.keep HF.out (agree hb (Nat.le_refl _)))
      have HF2 : Hid (OuFrom 0 w.heap.size w a (k + 1) rest) := by
        obtain ⟨_, _, _, _, _, _, _, _, _, _, _, _, _, _, _, _, _, rf9⟩ := OuFrom.step HF.out
        exact rf9
      subst ha
      have R1 : Hid (KeRow 0 wo.heap.size wo a1 h.keys) := KeRow.wide r1 (Nat.le_refl _) hb.size
      have R2 : Hid (OuRow 0 wo.heap.size wo a2 sub) := OuRow.wide r2 (Nat.le_refl _) hb.size
      obtain ⟨e1, e2, e3, e4⟩ := HD.out
      have E1 : Hid (OhBd 1048576 h) := e1
      have E3 : Hid (OusBd 1048576 sub) := e3
      have E4 : Hid (OusBd 1048576 rest) := e4
      have HZ2 : Hid (rest.size ≤ l.size) := by have := HZ.out; simp only [Ous.size] at this; unfold Hid; omega
      have IS : Hid (ToOus sub) := IH.out sub (by have := HZ.out; simp only [Ous.size] at this; omega)
      clear r1 r2 e1 e3 e4
      go_wp2_with fail
      refine (to_out h sub IS.out a1 a2 c1 c2 _ R1.out R2.out E1.out e2 E3.out).mono ?_
      rintro e w1 ⟨b1, b3, rfl, A1, A3, hb1⟩
      have A1 : Hid (KeRow wo.heap.size w1.heap.size w1 b1 h.keys) := A1
      have A3 : Hid (OuRow wo.heap.size w1.heap.size w1 b3 sub) := A3
      have hN : w.heap.size < wo.heap.size := (Array.getElem?_eq_some_iff.1 HH.out).1
      have HH1 : Hid (w1.heap[w.heap.size]? = some (.cells cs 26 (0, 0))) := (hb1.block _ hN).trans HH.out
      have HL1 : Hid (OuPre (w.heap.size + 1) w1.heap.size w1 l (fun j => cs[j]?) 0 k) := OuPre.wide (Nat.le_refl _) hb1.size (OuPre.keep (agree hb1 (Nat.le_refl _)) HL.out)
      obtain ⟨v0, hv0⟩ : ∃ v, w1.cell? ⟨w.heap.size, k * 5, none⟩ = some v := ⟨_, (row_cell HH1.out _).trans (Array.getElem?_eq_getElem (by omega))⟩
      obtain ⟨v1, hv1⟩ : ∃ v, w1.cell? ⟨w.heap.size, k * 5 + 1, none⟩ = some v := ⟨_, (row_cell HH1.out _).trans (Array.getElem?_eq_getElem (by omega))⟩
      obtain ⟨v2, hv2⟩ : ∃ v, w1.cell? ⟨w.heap.size, k * 5 + 2, none⟩ = some v := ⟨_, (row_cell HH1.out _).trans (Array.getElem?_eq_getElem (by omega))⟩
      obtain ⟨v3, hv3⟩ : ∃ v, w1.cell? ⟨w.heap.size, k * 5 + 3, none⟩ = some v := ⟨_, (row_cell HH1.out _).trans (Array.getElem?_eq_getElem (by omega))⟩
      obtain ⟨v4, hv4⟩ : ∃ v, w1.cell? ⟨w.heap.size, k * 5 + 4, none⟩ = some v := ⟨_, (row_cell HH1.out _).trans (Array.getElem?_eq_getElem (by omega))⟩
      have hf0 := row_frozen HH1.out (k * 5)
      have hf1 := row_frozen HH1.out (k * 5 + 1)
      have hf2 := row_frozen HH1.out (k * 5 + 2)
      have hf3 := row_frozen HH1.out (k * 5 + 3)
      have hf4 := row_frozen HH1.out (k * 5 + 4)
      have qb : Hid _ := hb.trans (hb1.mono hb.size)
      have hz1 := hb1.size
      clear d0 d1 d2 d3 d4
      go_wp2_with fail
      have G : ∀ W' : World, W'.heap.size = w1.heap.size → Agree (w.heap.size + 1) w1.heap.size w1 W' → Hid (OuPre (w.heap.size + 1) W'.heap.size W' l (fun j => (put5 cs (k * 5) (.int .i64 h.k) (.int .i64 h.n) (.string h.t) (.slice b1 h.keys.length h.keys.length) (.slice b3 sub.len sub.len))[j]?) 0 (k + 1)) := by
        intro W' hw ha
        obtain ⟨hp1, hp2⟩ := HP.out
        have P1 := OuPre.cells (rd' := fun j => (put5 cs (k * 5) (.int .i64 h.k) (.int .i64 h.n) (.string h.t) (.slice b1 h.keys.length h.keys.length) (.slice b3 sub.len sub.len))[j]?) (OuPre.keep ha HL1.out) (fun j _ hj => put5_else (by omega))
        obtain ⟨g0, g1, g2, g3, g4⟩ := put5_at (cs := cs) (k := k * 5) (v0 := .int .i64 h.k) (v1 := .int .i64 h.n) (v2 := .string h.t) (v3 := .slice b1 h.keys.length h.keys.length) (v4 := .slice b3 sub.len sub.len) (by omega)
        have wA1 : KeRow (w.heap.size + 1) w1.heap.size W' b1 h.keys := KeRow.wide (KeRow.keep A1.out (fun g h1 h2 => ha g (by omega) h2)) (by omega) (Nat.le_refl _)
        have wA3 : OuRow (w.heap.size + 1) w1.heap.size W' b3 sub := OuRow.wide (OuRow.keep A3.out (fun g h1 h2 => ha g (by omega) h2)) (by omega) (Nat.le_refl _)
        unfold Hid
        rw [hw]
        rw [hp1] at P1 ⊢
        rw [← hp2] at P1 g0 g1 g2 g3 g4 ⊢
        refine OuPre.more pre P1 ?_ ?_
        · rw [show 0 + 5 * pre.length = pre.length * 5 by omega]
          exact ⟨g0, g1, g2, b1, _, g3, Nat.le_refl _, wA1⟩
        · rw [show 0 + 5 * pre.length + 4 = pre.length * 5 + 4 by omega]
          exact ⟨b3, _, g4, wA3⟩
      refine ⟨⟨k + 1, _, pre ++ [(h, sub)], rest, HK2, by go_num, ((((qb.out.setCell (Nat.le_refl _) _).setCell (Nat.le_refl _) _).setCell (Nat.le_refl _) _).setCell (Nat.le_refl _) _).setCell (Nat.le_refl _) _, ⟨by rw [appO_snoc]; exact HP.out.1, by simp [HP.out.2]⟩, HZ2, E4, HF2, row_set (row_set (row_set (row_set (row_set HH1.out _ _) _ _) _ _) _ _) _ _, by simp [hcs], ?_⟩, by simp [intOf]; omega⟩
      refine G _ (by simp) ?_
      intro g h1 h2
      repeat rw [heap_set _ _ _ _ _ (by omega)]
end Go.Proofs.YtoaeggfnlenjkaaGreatDoor.G
namespace Go.Proofs.YtoaeggfnlenjkaaGreatDoor.G
open Go.ChangeShapes Go.WideShapes Go.ChangeAt Go.RowKit
set_option linter.unusedVariables false

set_option maxHeartbeats 1000000 in
theorem spec_cj (a : Option Addr) (c : Nat) (ss : List ByteArray) (w : World) (hr : KeRow 0 w.heap.size w a ss) (hz : sumW ss ≤ 1073741824) :
    Calls Tryz.prog 80 #[.slice a ss.length c, .string ⟨#[44]⟩] w fun e w' => e = .returned (.string (cj ss)) ∧ w' = w := by
  have HR : Hid _ := hr
  have hn := len_sumW ss
  have HZ : Hid _ := hz
  clear hr
  go_enter Tryz.func80, Tryz.ntmps80
  go_wp2_with fail
  go_loop [5, 6] (fun s i => ∃ k : Nat, k ≤ ss.length ∧ i = .int .i64 k ∧ s = .string (cjTo ss k)) (fun _ i => ss.length - (intOf i).toNat)
  case atStart => exact ⟨0, by omega, rfl, rfl⟩
  case round =>
    obtain ⟨k, hk, rfl, rfl⟩ := hrel
    by_cases hlt : k < ss.length
    · obtain ⟨b, o, ha, _, hbl, c0⟩ := KeRow.cells HR.out k hlt
      subst ha
      have hj : (cjTo ss k).size ≤ 1073741824 := by
        have h1 := cjTo_size (ss := ss) k hk
        have h2 : sumW ss = sumW (ss.take k) + sumW (ss.drop k) := by rw [← sumW_app, List.take_append_drop]
        omega
      have hg : ss[k].size + 1 ≤ sumW ss := mem_sumW (List.getElem_mem hlt)
      have hgd : ss.getD k ⟨#[]⟩ = ss[k] := by rw [List.getD_eq_getElem?_getD, List.getElem?_eq_getElem hlt]; rfl
      have h1 : (⟨#[44]⟩ : ByteArray).size = 1 := rfl
      by_cases h0 : 0 < k
      · have HF : Hid (cjTo ss (k + 1) = (cjTo ss k ++ ⟨#[44]⟩) ++ ss[k]) := by rw [Hid, cjTo, if_pos h0, hgd]
        have n1 : ¬ (9223372036854775807 < (cjTo ss k).size + (⟨#[44]⟩ : ByteArray).size) := by omega
        have n2 : ¬ (9223372036854775807 < (cjTo ss k ++ ⟨#[44]⟩).size + ss[k].size) := by rw [ByteArray.size_append]; omega
        have h0' : (0 : Int) < k := by omega
        clear hgd h1 hj hg
        go_wp2_with fail
        go_round
        case rel => exact ⟨k + 1, by omega, by go_num, by rw [HF.out]⟩
        case measure => simp [intOf]; omega
      · obtain rfl : k = 0 := by omega
        have HF : Hid (cjTo ss (0 + 1) = cjTo ss 0 ++ ss[0]) := by
          rw [Hid, show cjTo ss (0 + 1) = (if 0 < 0 then cjTo ss 0 ++ ⟨#[44]⟩ else cjTo ss 0) ++ ss.getD 0 ⟨#[]⟩ from rfl, if_neg (by omega), hgd]
        rw [Nat.add_zero] at c0
        have n2 : ¬ (9223372036854775807 < (cjTo ss 0).size + ss[0].size) := by omega
        clear hgd h1 hj hg
        go_wp2_with fail
        go_round
        case rel => exact ⟨0 + 1, by omega, by go_num, by rw [HF.out]⟩
        case measure => simp [intOf]; omega
    · obtain rfl : k = ss.length := by omega
      go_wp2_with fail
      go_ret
      exact ⟨rfl, rfl⟩
end Go.Proofs.YtoaeggfnlenjkaaGreatDoor.G
