/- The program's own copies of texts and of answers' values. -/
import Derived.Test.YtoaeggfnlenjkaaGreatDoorOuToOwn
import Derived.Test.YtoaeggfnlenjkaaGreatDoorShelf
import Derived.Test.YtoaeggfnlenjkaaGreatDoorOuOwnMath
namespace Go.Proofs.YtoaeggfnlenjkaaGreatDoor.G
open Go.ChangeShapes Go.WideShapes Go.ChangeAt Go.RowKit
set_option linter.unusedVariables false

theorem clone_strO (s : ByteArray) (w : World) (hs : s.size ≤ 1048576) :
    Calls Tryz.prog 34 #[.string s] w fun e w' => e = .returned (.string s) ∧ Below w.heap.size w w' := by
  go_enter Tryz.func34, Tryz.ntmps34
  go_wp2_with fail
  refine (Tryz.stringslite_Clone s _ (by omega)).mono ?_
  rintro e w1 ⟨rfl, hb⟩
  go_wp2_with fail
  go_ret
  exact ⟨rfl, hb⟩
set_option maxHeartbeats 4000000 in
set_option maxRecDepth 40000 in
theorem clone_keys (a : Option Addr) (c : Nat) (l : List ByteArray) (w : World) (hr : KeRow 0 w.heap.size w a l) (hl : l.length ≤ 1048576) (ht : ∀ x ∈ l, x.size ≤ 1048576) :
    Calls Tryz.prog 81 #[.slice a l.length c] w fun e w' => ∃ a', e = .returned (.slice a' l.length l.length) ∧ KeOwn w.heap.size w'.heap.size w' a' l ∧ Below w.heap.size w w' := by
  have HR : Hid (KeRow 0 w.heap.size w a l) := hr
  have HT : Hid _ := ht
  clear hr ht
  by_cases h0 : l = []
  · subst h0
    go_enter Tryz.func81, Tryz.ntmps81
    go_wp2_with fail
    go_ret
    exact ⟨_, rfl, .inl rfl, Below.refl _ _⟩
  have hp : 0 < l.length := List.length_pos_iff.2 h0
  have hne : ((l.length : Int) == 0) = false := by simp; omega
  clear h0
  obtain ⟨i27, hi, hz, hsz, hby⟩ := info_str
  have hmk := run_make (P := Tryz.prog) w 23 9 i27 _ Tryz.underlying23 hi hz .i64 .i64 (l.length : Int) (l.length : Int) (by omega) (by omega) (by rw [hby]; omega) (by omega)
  rw [hsz, Int.toNat_natCast, Nat.mul_one] at hmk
  clear hi hz hsz hby
  have hs0 := size_madeCells (Value.string ⟨#[]⟩).cells l.length
  generalize madeCells (Value.string ⟨#[]⟩).cells l.length = cs0 at *
  go_enter Tryz.func81, Tryz.ntmps81
  go_wp2_with fail
  go_loopw [14] (fun i w' => ∃ (k : Nat) (cs : Array Value), k ≤ l.length ∧ i = .int .i64 k ∧ Below w.heap.size w w' ∧ Hid (w'.heap[w.heap.size]? = some (.cells cs 9 (0, 0))) ∧ cs.size = l.length ∧ Hid (∀ i (h : i < l.length), i < k → cs[i]? = some (.string l[i]))) (fun i _ => l.length - (intOf i).toNat)
  case atStart => exact ⟨0, cs0, by omega, rfl, (Below.refl _ _).alloc (Nat.le_refl _) _, heap_alloc_new _ _, hs0, fun i _ h => by omega⟩
  case round =>
    obtain ⟨wo, rfl⟩ : ∃ x, x = wr := ⟨_, rfl⟩
    obtain ⟨k, cs, hk, rfl, hb, HH, hcs, HL⟩ := hrel
    clear hmk hs0
    by_cases hlt : k < l.length
    · obtain ⟨b, o, ha, _, hbl, c0⟩ := KeRow.cells (KeRow.keep HR.out (agree hb (Nat.le_refl _))) k hlt
      subst ha
      have hN : w.heap.size < wo.heap.size := (Array.getElem?_eq_some_iff.1 HH.out).1
      have HB : Hid _ := hb
      have hsz0 : l[k].size ≤ 1048576 := HT.out _ (List.getElem_mem hlt)
      clear hb
      go_wp2_with fail
      refine (clone_strO _ _ hsz0).mono ?_
      rintro e w1 ⟨rfl, hb1⟩
      have HH1 : Hid (w1.heap[w.heap.size]? = some (.cells cs 9 (0, 0))) := (hb1.block _ hN).trans HH.out
      have QB : Hid (Below w.heap.size w w1) := HB.out.trans (hb1.mono HB.out.size)
      obtain ⟨v0, hv0⟩ : ∃ v, w1.cell? ⟨w.heap.size, k, none⟩ = some v := ⟨_, (row_cell HH1.out _).trans (Array.getElem?_eq_getElem (by omega))⟩
      have hf0 := row_frozen HH1.out k
      clear hb1 c0
      go_wp2_with fail
      refine ⟨⟨k + 1, _, by omega, by go_num, QB.out.setCell (Nat.le_refl _) _, row_set HH1.out _ _, by simp [hcs], ?_⟩, by simp [intOf]; omega⟩
      intro i hi1 hi2
      by_cases e : i = k
      · subst e; simp [Array.getElem?_setIfInBounds]; omega
      · rw [Array.getElem?_setIfInBounds_ne (by omega)]; exact HL.out i hi1 (by omega)
    · go_wp2_with fail
      go_ret
      refine ⟨_, rfl, .inr ⟨w.heap.size, cs, rfl, Nat.le_refl _, (Array.getElem?_eq_some_iff.1 HH.out).1, HH.out, by omega, fun i x hx => ?_⟩, hb⟩
      obtain ⟨hi, rfl⟩ := List.getElem?_eq_some_iff.1 hx
      show cs[i * 1]? = _
      rw [Nat.mul_one]
      exact HL.out i hi (by omega)
def CloneOus (l : Ous) : Prop := ∀ (a : Option Addr) (c : Nat) (w : World), OuRow 0 w.heap.size w a l → l.len ≤ 1048576 → OusBd 1048576 l →
    Calls Tryz.prog 82 #[.slice a l.len c] w fun e w' => ∃ a', e = .returned (.slice a' l.len l.len) ∧ OuOwn w.heap.size w'.heap.size w' a' l ∧ Below w.heap.size w w'
/-- Where the copying of one value stands. -/
def CJ (N0 : Nat) (h : Oh) (sub : Ous) (L : Array Bool) (u : Nat → Value) (w : World) : Prop :=
  N0 ≤ w.heap.size ∧ (L.getD 13 false = true → L.getD 12 false = true ∧ u 16 = .agg #[.int .i64 h.k, .int .i64 h.n, .string h.t, u 12, u 15]) ∧ (L.getD 12 false = true → L.getD 9 false = true) ∧
  (L.getD 9 false = true → ∃ b1 m, u 12 = .slice b1 h.keys.length h.keys.length ∧ N0 ≤ m ∧ m ≤ w.heap.size ∧ KeOwn N0 m w b1 h.keys ∧
    (L.getD 12 false = true → ∃ b2, u 15 = .slice b2 sub.len sub.len ∧ OuOwn m w.heap.size w b2 sub))
theorem CJ.step {N0 : Nat} {h : Oh} {sub : Ous} {L : Array Bool} {u : Nat → Value} {w w' : World} (H : CJ N0 h sub L u w) (hb : Below w.heap.size w w') {i d : Nat} {v : Value} (h9 : i ≠ 9) (h12 : i ≠ 12) (h13 : i ≠ 13) (d12 : d ≠ 12) (d15 : d ≠ 15) (d16 : d ≠ 16) : CJ N0 h sub (L.setIfInBounds i true) (upd u d v) w' := by
  obtain ⟨hz, q13, q12, q9⟩ := H
  have hs := hb.size
  refine ⟨by omega, fun hl => ?_, fun hl => ?_, fun hl => ?_⟩
  · rw [getD_set_ne false h13] at hl
    rw [getD_set_ne false h12, upd_ne _ _ (Ne.symm d16), upd_ne _ _ (Ne.symm d12), upd_ne _ _ (Ne.symm d15)]
    exact q13 hl
  · rw [getD_set_ne false h12] at hl
    rw [getD_set_ne false h9]
    exact q12 hl
  · rw [getD_set_ne false h9] at hl
    obtain ⟨b1, m, e1, e2, e3, e4, e5⟩ := q9 hl
    refine ⟨b1, m, by rw [upd_ne _ _ (Ne.symm d12)]; exact e1, e2, by omega, e4.keep (agree hb e3), fun hl2 => ?_⟩
    rw [getD_set_ne false h12] at hl2
    obtain ⟨b2, f1, f2⟩ := e5 hl2
    exact ⟨b2, by rw [upd_ne _ _ (Ne.symm d15)]; exact f1, (f2.keep (agree hb (Nat.le_refl _))).wide (Nat.le_refl _) hs⟩
theorem CJ.keys {N0 : Nat} {h : Oh} {sub : Ous} {L : Array Bool} {u : Nat → Value} {w w' : World} (H : CJ N0 h sub L u w) (hn : L.getD 9 false = false) (hb : Below w.heap.size w w') {b1 : Option Addr} (ho : KeOwn w.heap.size w'.heap.size w' b1 h.keys) : CJ N0 h sub (L.setIfInBounds 9 true) (upd u 12 (.slice b1 h.keys.length h.keys.length)) w' := by
  obtain ⟨hz, q13, q12, q9⟩ := H
  have hs := hb.size
  have n12 : L.getD 12 false = false := by
    cases h8 : L.getD 12 false
    · rfl
    · rw [q12 h8] at hn; cases hn
  have n13 : L.getD 13 false = false := by
    cases h8 : L.getD 13 false
    · rfl
    · rw [(q13 h8).1] at n12; cases n12
  refine ⟨by omega, fun hl => ?_, fun hl => ?_, fun _ => ⟨b1, w'.heap.size, upd_at _ _ _, by omega, Nat.le_refl _, ho.wide hz (Nat.le_refl _), fun hl => ?_⟩⟩
  · rw [getD_set_ne false (by decide), n13] at hl; cases hl
  · rw [getD_set_ne false (by decide), n12] at hl; cases hl
  · rw [getD_set_ne false (by decide), n12] at hl; cases hl
theorem CJ.items {N0 : Nat} {h : Oh} {sub : Ous} {L : Array Bool} {u : Nat → Value} {w w' : World} (H : CJ N0 h sub L u w) (h9 : L.getD 9 false = true) (hn : L.getD 12 false = false) (hb : Below w.heap.size w w') {b2 : Option Addr} (ho : OuOwn w.heap.size w'.heap.size w' b2 sub) : CJ N0 h sub (L.setIfInBounds 12 true) (upd u 15 (.slice b2 sub.len sub.len)) w' := by
  obtain ⟨hz, q13, q12, q9⟩ := H
  have hs := hb.size
  have n13 : L.getD 13 false = false := by
    cases h8 : L.getD 13 false
    · rfl
    · rw [(q13 h8).1] at hn; cases hn
  obtain ⟨b1, m, e1, e2, e3, e4, e5⟩ := q9 h9
  refine ⟨by omega, fun hl => ?_, fun _ => by rw [getD_set_ne false (by decide)]; exact h9, fun _ => ⟨b1, m, by rw [upd_ne _ _ (by decide)]; exact e1, e2, by omega, e4.keep (agree hb e3), fun _ => ⟨b2, upd_at _ _ _, ho.wide e3 (Nat.le_refl _)⟩⟩⟩
  rw [getD_set_ne false (by decide), n13] at hl; cases hl
theorem CJ.built {N0 : Nat} {h : Oh} {sub : Ous} {L : Array Bool} {u : Nat → Value} {w : World} (H : CJ N0 h sub L u w) (h12 : L.getD 12 false = true) {v : Value} (hv : v = .agg #[.int .i64 h.k, .int .i64 h.n, .string h.t, u 12, u 15]) : CJ N0 h sub (L.setIfInBounds 13 true) (upd u 16 v) w := by
  obtain ⟨hz, q13, q12, q9⟩ := H
  refine ⟨hz, fun _ => ?_, fun _ => ?_, fun hl => ?_⟩
  · rw [getD_set_ne false (by decide), upd_at, upd_ne _ _ (by decide), upd_ne _ _ (by decide)]; exact ⟨h12, hv⟩
  · rw [getD_set_ne false (by decide)]; exact q12 h12
  · rw [getD_set_ne false (by decide)] at hl
    rw [upd_ne _ _ (by decide), upd_ne _ _ (by decide), getD_set_ne false (by decide)]
    exact q9 hl
set_option maxHeartbeats 8000000 in
set_option maxRecDepth 40000 in
theorem clone_out (h : Oh) (sub : Ous) (ih : CloneOus sub) (a1 a2 : Option Addr) (c1 c2 : Nat) (w : World) (r1 : KeRow 0 w.heap.size w a1 h.keys) (r2 : OuRow 0 w.heap.size w a2 sub) (hb : OhBd 1048576 h) (hl : sub.len ≤ 1048576) (hs : OusBd 1048576 sub) :
    Calls Tryz.prog 39 #[.agg #[.int .i64 h.k, .int .i64 h.n, .string h.t, .slice a1 h.keys.length c1, .slice a2 sub.len c2]] w fun e w' => ∃ b1 b2, e = .returned (.agg #[.int .i64 h.k, .int .i64 h.n, .string h.t, .slice b1 h.keys.length h.keys.length, .slice b2 sub.len sub.len]) ∧ PartsO w.heap.size w'.heap.size w' b1 b2 h sub ∧ Below w.heap.size w w' := by
  obtain ⟨x1, x2, x3⟩ := hb
  have X3 : Hid _ := x3
  have HS : Hid _ := hs
  have IH : Hid _ := ih
  clear x3 hs ih
  obtain ⟨V, hV⟩ : ∃ V, V = (w.alloc (.cells #[.int .i64 h.k, .int .i64 h.n, .string h.t, .slice a1 h.keys.length c1, .slice a2 sub.len c2] 26)).alloc (.cells #[.int .i64 0, .int .i64 0, .string ⟨#[]⟩, .slice none 0 0, .slice none 0 0] 26) := ⟨_, rfl⟩
  have BV : Below w.heap.size w V := by
    rw [hV]
    repeat (first | exact Below.refl _ _ | refine Below.alloc ?_ (by first | omega | (simp <;> omega)) _)
  have e1 : V.heap[w.heap.size + 1]? = some (.cells #[.int .i64 0, .int .i64 0, .string ⟨#[]⟩, .slice none 0 0, .slice none 0 0] 26 (0, 0)) := by
    rw [hV]
    have := heap_alloc_new (w.alloc (.cells #[.int .i64 h.k, .int .i64 h.n, .string h.t, .slice a1 h.keys.length c1, .slice a2 sub.len c2] 26)) (.cells #[.int .i64 0, .int .i64 0, .string ⟨#[]⟩, .slice none 0 0, .slice none 0 0] 26 (0, 0))
    simpa using this
  have e0 : V.heap[w.heap.size]? = some (.cells #[.int .i64 h.k, .int .i64 h.n, .string h.t, .slice a1 h.keys.length c1, .slice a2 sub.len c2] 26 (0, 0)) := by
    rw [hV]
    refine (Below.heap_alloc _ _ _ (by simp)).trans ?_
    exact heap_alloc_new _ _
  have zV : V.heap.size = w.heap.size + 2 := by rw [hV]; simp
  have KV : Hid (∀ W, Below V.heap.size V W → (∀ o, W.cell? ⟨w.heap.size, o, none⟩ = (#[.int .i64 h.k, .int .i64 h.n, .string h.t, .slice a1 h.keys.length c1, .slice a2 sub.len c2] : Array Value)[o]?) ∧ W.heap[w.heap.size + 1]? = some (.cells #[.int .i64 0, .int .i64 0, .string ⟨#[]⟩, .slice none 0 0, .slice none 0 0] 26 (0, 0)) ∧ KeRow 0 W.heap.size W a1 h.keys ∧ OuRow 0 W.heap.size W a2 sub ∧ Below w.heap.size w W) := fun W hW =>
    have hb := BV.trans (hW.mono BV.size)
    ⟨fun o => row_cell ((hW.block _ (by omega)).trans e0) o, (hW.block _ (by omega)).trans e1, KeRow.up r1 hb, OuRow.up r2 hb, hb⟩
  clear e0 e1 BV r1 r2
  go_enter Tryz.func39, Tryz.ntmps39
  go_wp2_with fail
  rw [← hV]
  clear hV
  refine region_rel5 (n := 14) (k := 1) (by omega) (by kernel_rfl) (by kernel_rfl) (by kernel_rfl) (fun u => ⟨#[.agg #[.int .i64 h.k, .int .i64 h.n, .string h.t, .slice a1 h.keys.length c1, .slice a2 sub.len c2], .pointer (some ⟨w.heap.size, 0, none⟩), .pointer (some ⟨w.heap.size + 1, 0, none⟩), u 3, u 4, u 5, u 6, u 7, u 8, u 9, u 10, u 11, u 12, u 13, u 14, u 15, u 16], []⟩) (fun _ => undef) (fun i => i + 3) (fun i j _ _ h => by omega) (fun i v (_ : World) => match i with | 0 => v = .pointer (some ⟨w.heap.size, 0, none⟩) | 1 => v = .int .i64 h.k | 2 => v = .pointer (some ⟨w.heap.size, 1, none⟩) | 3 => v = .int .i64 h.n | 4 => v = .pointer (some ⟨w.heap.size, 2, none⟩) | 5 => v = .string h.t | 6 => v = .string h.t | 7 => v = .pointer (some ⟨w.heap.size, 3, none⟩) | 8 => v = .slice a1 h.keys.length c1 | 9 => ∃ b, v = .slice b h.keys.length h.keys.length | 10 => v = .pointer (some ⟨w.heap.size, 4, none⟩) | 11 => v = .slice a2 sub.len c2 | 12 => ∃ b, v = .slice b sub.len sub.len | 13 => True | _ => True) (fun L u W => Below V.heap.size V W ∧ CJ V.heap.size h sub L u W) ⟨(Below.refl _ _).drew, Nat.le_refl _, fun hl => (by simp at hl), fun hl => (by simp at hl), fun hl => (by simp at hl)⟩ ?step ?last
  case step =>
    intro L u W i hi hLs hLi hj hdep
    obtain ⟨hB, hJ⟩ := hj
    obtain ⟨y0, y1, y2, y3, y4⟩ := KV.out _ hB
    have Y2 : Hid _ := y2
    have Y3 : Hid _ := y3
    have HBW : Hid _ := hB
    have HJ : Hid _ := hJ
    have hcase : i = 0 ∨ i = 1 ∨ i = 2 ∨ i = 3 ∨ i = 4 ∨ i = 5 ∨ i = 6 ∨ i = 7 ∨ i = 8 ∨ i = 9 ∨ i = 10 ∨ i = 11 ∨ i = 12 ∨ i = 13 := by omega
    clear hi y1 y2 y3 y4 hB hJ
    rcases hcase with rfl | rfl | rfl | rfl | rfl | rfl | rfl | rfl | rfl | rfl | rfl | rfl | rfl | rfl
    · clear hdep
      refine wpOp_step rfl (fun K hK => ?_)
      go_simp
      exact hK _ _ ⟨_, rfl, fun _ _ hx => hx, rfl, HBW.out, CJ.step HJ.out (Below.refl _ _) (by omega) (by omega) (by omega) (by omega) (by omega) (by omega)⟩
    · have d0 : u 3 = .pointer (some ⟨w.heap.size, 0, none⟩) := (hdep _ rfl ⟨0, .data⟩ (by simp) rfl).2
      clear hdep
      refine wpOp_step rfl (fun K hK => ?_)
      go_simp
      exact hK _ _ ⟨_, by simp [upd, d0], fun _ _ hx => hx, rfl, HBW.out, CJ.step HJ.out (Below.refl _ _) (by omega) (by omega) (by omega) (by omega) (by omega) (by omega)⟩
    · clear hdep
      refine wpOp_step rfl (fun K hK => ?_)
      go_simp
      exact hK _ _ ⟨_, rfl, fun _ _ hx => hx, rfl, HBW.out, CJ.step HJ.out (Below.refl _ _) (by omega) (by omega) (by omega) (by omega) (by omega) (by omega)⟩
    · have d2 : u 5 = .pointer (some ⟨w.heap.size, 1, none⟩) := (hdep _ rfl ⟨2, .data⟩ (by simp) rfl).2
      clear hdep
      refine wpOp_step rfl (fun K hK => ?_)
      go_simp
      exact hK _ _ ⟨_, by simp [upd, d2], fun _ _ hx => hx, rfl, HBW.out, CJ.step HJ.out (Below.refl _ _) (by omega) (by omega) (by omega) (by omega) (by omega) (by omega)⟩
    · clear hdep
      refine wpOp_step rfl (fun K hK => ?_)
      go_simp
      exact hK _ _ ⟨_, rfl, fun _ _ hx => hx, rfl, HBW.out, CJ.step HJ.out (Below.refl _ _) (by omega) (by omega) (by omega) (by omega) (by omega) (by omega)⟩
    · have d4 : u 7 = .pointer (some ⟨w.heap.size, 2, none⟩) := (hdep _ rfl ⟨4, .data⟩ (by simp) rfl).2
      clear hdep
      refine wpOp_step rfl (fun K hK => ?_)
      go_simp
      exact hK _ _ ⟨_, by simp [upd, d4], fun _ _ hx => hx, rfl, HBW.out, CJ.step HJ.out (Below.refl _ _) (by omega) (by omega) (by omega) (by omega) (by omega) (by omega)⟩
    · have d5 : u 8 = .string h.t := (hdep _ rfl ⟨5, .data⟩ (by simp) rfl).2
      clear hdep y0
      refine wpOp_step rfl (fun K hK => ?_)
      go_simp
      refine (clone_strO _ _ x1).mono ?_
      rintro e w8 ⟨rfl, hb8⟩
      exact hK _ _ ⟨_, by simp [upd, d5], fun _ _ hx => hx, rfl, HBW.out.trans (hb8.mono HBW.out.size), CJ.step HJ.out hb8 (by omega) (by omega) (by omega) (by omega) (by omega) (by omega)⟩
    · clear hdep
      refine wpOp_step rfl (fun K hK => ?_)
      go_simp
      exact hK _ _ ⟨_, rfl, fun _ _ hx => hx, rfl, HBW.out, CJ.step HJ.out (Below.refl _ _) (by omega) (by omega) (by omega) (by omega) (by omega) (by omega)⟩
    · have d7 : u 10 = .pointer (some ⟨w.heap.size, 3, none⟩) := (hdep _ rfl ⟨7, .data⟩ (by simp) rfl).2
      clear hdep
      refine wpOp_step rfl (fun K hK => ?_)
      go_simp
      exact hK _ _ ⟨_, by simp [upd, d7], fun _ _ hx => hx, rfl, HBW.out, CJ.step HJ.out (Below.refl _ _) (by omega) (by omega) (by omega) (by omega) (by omega) (by omega)⟩
    · have d8 : u 11 = .slice a1 h.keys.length c1 := (hdep _ rfl ⟨8, .data⟩ (by simp) rfl).2
      have hn9 : L.getD 9 false = false := by
        cases h8 : L.getD 9 false
        · rfl
        · rw [getD_both (by omega) h8] at hLi; cases hLi
      clear hdep y0 hLi
      refine wpOp_step rfl (fun K hK => ?_)
      go_simp
      refine (clone_keys a1 c1 h.keys W Y2.out x2 X3.out).mono ?_
      rintro e w8 ⟨b1, rfl, ho, hb8⟩
      exact hK _ _ ⟨_, by simp [upd, d8], fun _ _ hx => hx, ⟨b1, rfl⟩, HBW.out.trans (hb8.mono HBW.out.size), CJ.keys HJ.out hn9 hb8 ho⟩
    · clear hdep
      refine wpOp_step rfl (fun K hK => ?_)
      go_simp
      exact hK _ _ ⟨_, rfl, fun _ _ hx => hx, rfl, HBW.out, CJ.step HJ.out (Below.refl _ _) (by omega) (by omega) (by omega) (by omega) (by omega) (by omega)⟩
    · have d10 : u 13 = .pointer (some ⟨w.heap.size, 4, none⟩) := (hdep _ rfl ⟨10, .data⟩ (by simp) rfl).2
      clear hdep
      refine wpOp_step rfl (fun K hK => ?_)
      go_simp
      exact hK _ _ ⟨_, by simp [upd, d10], fun _ _ hx => hx, rfl, HBW.out, CJ.step HJ.out (Below.refl _ _) (by omega) (by omega) (by omega) (by omega) (by omega) (by omega)⟩
    · have d11 : u 14 = .slice a2 sub.len c2 := (hdep _ rfl ⟨11, .data⟩ (by simp) rfl).2
      have h9 : L.getD 9 false = true := (hdep _ rfl ⟨9, .chain⟩ (by simp) rfl).1
      have hn12 : L.getD 12 false = false := by
        cases h8 : L.getD 12 false
        · rfl
        · rw [getD_both (by omega) h8] at hLi; cases hLi
      clear hdep y0 hLi
      refine wpOp_step rfl (fun K hK => ?_)
      go_simp
      refine (IH.out a2 c2 W Y3.out hl HS.out).mono ?_
      rintro e w8 ⟨b2, rfl, ho, hb8⟩
      exact hK _ _ ⟨_, by simp [upd, d11], fun _ _ hx => hx, ⟨b2, rfl⟩, HBW.out.trans (hb8.mono HBW.out.size), CJ.items HJ.out h9 hn12 hb8 ho⟩
    · have d1 : u 4 = .int .i64 h.k := (hdep _ rfl ⟨1, .data⟩ (by simp) rfl).2
      have d3 : u 6 = .int .i64 h.n := (hdep _ rfl ⟨3, .data⟩ (by simp) rfl).2
      have d6 : u 9 = .string h.t := (hdep _ rfl ⟨6, .data⟩ (by simp) rfl).2
      obtain ⟨b9, d9⟩ := (hdep _ rfl ⟨9, .data⟩ (by simp) rfl).2
      obtain ⟨b12, d12⟩ := (hdep _ rfl ⟨12, .data⟩ (by simp) rfl).2
      have h12 : L.getD 12 false = true := (hdep _ rfl ⟨12, .data⟩ (by simp) rfl).1
      clear hdep y0 hLi
      refine wpOp_step rfl (fun K hK => ?_)
      go_simp
      exact hK _ _ ⟨.agg #[.int .i64 h.k, .int .i64 h.n, .string h.t, .slice b9 h.keys.length h.keys.length, .slice b12 sub.len sub.len], by simp [upd, d1, d3, d6, d9, d12], fun _ _ hx => hx, trivial, HBW.out, CJ.built HJ.out h12 (by rw [d9, d12])⟩
  case last =>
    intro L u W hLs hL hj hp
    obtain ⟨hB, hz, q13, q12, q9⟩ := hj
    have d13 := (q13 (hL 13 (by omega))).2
    obtain ⟨b1, m, d9, m1, m2, o1, q9⟩ := q9 (hL 9 (by omega))
    obtain ⟨b2, d12, o2⟩ := q9 (hL 12 (by omega))
    rw [d9, d12] at d13
    have HP : Hid (PartsO V.heap.size W.heap.size W b1 b2 h sub) := ⟨m, m1, m2, o1, o2⟩
    obtain ⟨y0, y1, y2, y3, y4⟩ := KV.out _ hB
    have x9 := fun o => row_cell y1 o
    have f9 := fun o => row_frozen y1 o
    have HY : Hid _ := y1
    have HBW : Hid _ := y4
    have zW := hB.size
    clear hp q13 q12 q9 o1 o2 y0 y2 y3 y4 hB y1
    unfold wpTail
    refine wpOp_step rfl (fun K hK => ?_)
    go_simp
    refine hK _ _ ?_
    clear hK
    unfold wpTail
    go_wp2_with fail
    refine bodyPost_ret (v := .agg #[.int .i64 h.k, .int .i64 h.n, .string h.t, .slice b1 h.keys.length h.keys.length, .slice b2 sub.len sub.len]) (by simp [results, Tryz.results39, go_sem, x9]) rfl ⟨b1, b2, rfl, ?_⟩
    have G : ∀ W' : World, W'.heap.size = W.heap.size → Agree (w.heap.size + 2) W.heap.size W W' → Below w.heap.size w W' → PartsO w.heap.size W'.heap.size W' b1 b2 h sub ∧ Below w.heap.size w W' :=
      fun W' hw ha hB => ⟨PartsO.wide (PartsO.keep HP.out (fun g h1 h2 => ha g (by omega) h2)) (by omega) (by omega), hB⟩
    refine G _ (by simp) ?_ ?_
    · intro g h1 h2
      repeat rw [heap_set _ _ _ _ _ (by omega)]
    · repeat (refine Below.setCell ?_ (by first | omega | (simp <;> omega)) _)
      exact HBW.out
set_option maxHeartbeats 4000000 in
theorem clone_ous (l : Ous) : CloneOus l := by
  induction hN : l.size using Nat.strongRecOn generalizing l with
  | _ N ih =>
  subst hN
  intro a c w hr hl hbd
  have IH : Hid (∀ sub : Ous, sub.size < l.size → CloneOus sub) := fun sub hsub => ih sub.size hsub sub rfl
  have HR : Hid (OuFrom 0 w.heap.size w a 0 l) := hr.from_
  have HB : Hid (OusBd 1048576 l) := hbd
  clear hr ih hbd
  by_cases h0 : l = .nil
  · subst h0
    simp only [Ous.len]
    go_enter Tryz.func82, Tryz.ntmps82
    go_wp2_with fail
    go_ret
    exact ⟨_, rfl, .inl rfl, Below.refl _ _⟩
  have hp : 0 < l.len := by cases l with
    | nil => exact absurd rfl h0
    | cons _ _ _ => simp [Ous.len]
  have hne : ((l.len : Int) == 0) = false := by simp; omega
  clear h0
  obtain ⟨i27, hi, hz, hsz, hby⟩ := info_out
  have hmk := run_make (P := Tryz.prog) w 24 26 i27 _ Tryz.underlying24 hi hz .i64 .i64 (l.len : Int) (l.len : Int) (by omega) (by omega) (by rw [hby]; omega) (by omega)
  rw [hsz, Int.toNat_natCast] at hmk
  clear hi hz hsz hby
  have hs0 := size_madeCells (Value.agg #[.int .i64 0, .int .i64 0, .string ⟨#[]⟩, .slice none 0 0, .slice none 0 0]).cells (l.len * 5)
  generalize madeCells (Value.agg #[.int .i64 0, .int .i64 0, .string ⟨#[]⟩, .slice none 0 0, .slice none 0 0]).cells (l.len * 5) = cs0 at *
  go_enter Tryz.func82, Tryz.ntmps82
  go_wp2_with fail
  go_loopw [14] (fun i w' => ∃ (k : Nat) (cs : Array Value) (pre : List (Oh × Ous)) (rest : Ous), Hid (l.len = k + rest.len) ∧ i = .int .i64 k ∧ Below w.heap.size w w' ∧ Hid (l = appO pre rest ∧ pre.length = k) ∧ Hid (rest.size ≤ l.size) ∧ Hid (OusBd 1048576 rest) ∧ Hid (OuFrom 0 w.heap.size w a k rest) ∧ Hid (w'.heap[w.heap.size]? = some (.cells cs 26 (0, 0))) ∧ cs.size = l.len * 5 ∧ Hid (OuSeq w' (appO pre .nil) cs 0 (w.heap.size + 1) w'.heap.size)) (fun i _ => l.len - (intOf i).toNat)
  case atStart => exact ⟨0, cs0, [], l, by simp [Hid], rfl, (Below.refl _ _).alloc (Nat.le_refl _) _, ⟨rfl, rfl⟩, Nat.le_refl _, HB, HR, heap_alloc_new _ _, hs0, by simp [Hid, appO, OuSeq]⟩
  case round =>
    obtain ⟨wo, rfl⟩ : ∃ x, x = wr := ⟨_, rfl⟩
    obtain ⟨k, cs, pre, rest, HK, rfl, hb, HP, HZ, HD, HF, HH, hcs, HL⟩ := hrel
    clear hmk hs0
    cases rest with
    | nil =>
      have hk' : ¬ k < l.len := by rw [HK.out]; simp only [Ous.len]; omega
      go_wp2_with fail
      go_ret
      refine ⟨_, rfl, ?_, hb⟩
      obtain ⟨hp1, hp2⟩ := HP.out
      refine .inr ⟨w.heap.size, cs, rfl, Nat.le_refl _, (Array.getElem?_eq_some_iff.1 HH.out).1, HH.out, by omega, ?_⟩
      rw [hp1]
      exact HL.out
    | cons h sub rest =>
      have hlt : k < l.len := by rw [HK.out]; simp only [Ous.len]; omega
      have HK2 : Hid (l.len = k + 1 + rest.len) := by rw [Hid, HK.out]; simp only [Ous.len]; omega
      obtain ⟨b, o, a1, c1, a2, c2, ha, _, hbl, d0, d1, d2, d3, d4, hc, r1, r2, _⟩ := OuFrom.step (OuFrom.keep HF.out (agree hb (Nat.le_refl _)))
      have HF2 : Hid (OuFrom 0 w.heap.size w a (k + 1) rest) := by
        obtain ⟨_, _, _, _, _, _, _, _, _, _, _, _, _, _, _, _, _, rf9⟩ := OuFrom.step HF.out
        exact rf9
      subst ha
      have R1 : Hid (KeRow 0 wo.heap.size wo a1 h.keys) := KeRow.wide r1 (Nat.le_refl _) hb.size
      have R2 : Hid (OuRow 0 wo.heap.size wo a2 sub) := OuRow.wide r2 (Nat.le_refl _) hb.size
      obtain ⟨e1, e2, e3, e4⟩ := HD.out
      have E1 : Hid (OhBd 1048576 h) := e1
      have E3 : Hid (OusBd 1048576 sub) := e3
      have E4 : Hid (OusBd 1048576 rest) := e4
      have HZ2 : Hid (rest.size ≤ l.size) := by have := HZ.out; simp only [Ous.size] at this; unfold Hid; omega
      have IS : Hid (CloneOus sub) := IH.out sub (by have := HZ.out; simp only [Ous.size] at this; omega)
      clear r1 r2 e1 e3 e4
      have hN0 : w.heap.size < wo.heap.size := (Array.getElem?_eq_some_iff.1 HH.out).1
      have hzb := hb.size
      obtain ⟨U, hU⟩ : ∃ X, X = wo.alloc (.cells #[.int .i64 h.k, .int .i64 h.n, .string h.t, .slice a1 h.keys.length c1, .slice a2 sub.len c2] 26) := ⟨_, rfl⟩
      have BU : Below wo.heap.size wo U := by rw [hU]; exact (Below.refl _ _).alloc (Nat.le_refl _) _
      have c0 : U.heap[wo.heap.size]? = some (.cells #[.int .i64 h.k, .int .i64 h.n, .string h.t, .slice a1 h.keys.length c1, .slice a2 sub.len c2] 26 (0, 0)) := by rw [hU]; exact heap_alloc_new _ _
      have zU : wo.heap.size < U.heap.size := (Array.getElem?_eq_some_iff.1 c0).1
      have x0 := fun o => row_cell c0 o
      have HBU : Hid _ := BU
      clear BU c0
      go_upto_region 7 with fail
      rw [← hU]
      clear hU
      go_wp2_with fail
      refine (clone_out h sub IS.out a1 a2 c1 c2 U (KeRow.up R1.out HBU.out) (OuRow.up R2.out HBU.out) E1.out e2 E3.out).mono ?_
      rintro e w1 ⟨b1, b3, rfl, A1, hb1'⟩
      have hb1 : Below wo.heap.size wo w1 := HBU.out.trans (hb1'.mono HBU.out.size)
      replace A1 := PartsO.wide A1 (Nat.le_of_lt zU) (Nat.le_refl _)
      clear hb1' x0 HBU
      have A1 : Hid (PartsO wo.heap.size w1.heap.size w1 b1 b3 h sub) := A1
      have hN : w.heap.size < wo.heap.size := (Array.getElem?_eq_some_iff.1 HH.out).1
      have HH1 : Hid (w1.heap[w.heap.size]? = some (.cells cs 26 (0, 0))) := (hb1.block _ hN).trans HH.out
      have AG1 : Hid (Agree (w.heap.size + 1) wo.heap.size wo w1) := agree hb1 (Nat.le_refl _)
      obtain ⟨v0, hv0⟩ : ∃ v, w1.cell? ⟨w.heap.size, k * 5, none⟩ = some v := ⟨_, (row_cell HH1.out _).trans (Array.getElem?_eq_getElem (by omega))⟩
      obtain ⟨v1, hv1⟩ : ∃ v, w1.cell? ⟨w.heap.size, k * 5 + 1, none⟩ = some v := ⟨_, (row_cell HH1.out _).trans (Array.getElem?_eq_getElem (by omega))⟩
      obtain ⟨v2, hv2⟩ : ∃ v, w1.cell? ⟨w.heap.size, k * 5 + 2, none⟩ = some v := ⟨_, (row_cell HH1.out _).trans (Array.getElem?_eq_getElem (by omega))⟩
      obtain ⟨v3, hv3⟩ : ∃ v, w1.cell? ⟨w.heap.size, k * 5 + 3, none⟩ = some v := ⟨_, (row_cell HH1.out _).trans (Array.getElem?_eq_getElem (by omega))⟩
      obtain ⟨v4, hv4⟩ : ∃ v, w1.cell? ⟨w.heap.size, k * 5 + 4, none⟩ = some v := ⟨_, (row_cell HH1.out _).trans (Array.getElem?_eq_getElem (by omega))⟩
      have hf0 := row_frozen HH1.out (k * 5)
      have hf1 := row_frozen HH1.out (k * 5 + 1)
      have hf2 := row_frozen HH1.out (k * 5 + 2)
      have hf3 := row_frozen HH1.out (k * 5 + 3)
      have hf4 := row_frozen HH1.out (k * 5 + 4)
      have qb : Hid _ := hb.trans (hb1.mono hb.size)
      have hz1 := hb1.size
      clear d0 d1 d2 d3 d4
      go_wp2_with fail
      have G : ∀ W' : World, W'.heap.size = w1.heap.size → Agree (w.heap.size + 1) w1.heap.size w1 W' → Hid (OuSeq W' (appO (pre ++ [(h, sub)]) .nil) (put5 cs (k * 5) (.int .i64 h.k) (.int .i64 h.n) (.string h.t) (.slice b1 h.keys.length h.keys.length) (.slice b3 sub.len sub.len)) 0 (w.heap.size + 1) W'.heap.size) := by
        intro W' hw ha
        unfold Hid
        rw [hw]
        exact OuSeq.lay (Nat.le_refl _) HP.out.2 (by omega) HL.out (fun g h1 h2 => (ha g h1 (by omega)).trans (AG1.out g h1 h2)) (PartsO.keep A1.out (fun g h1 h2 => ha g (by omega) h2))
      refine ⟨⟨k + 1, _, pre ++ [(h, sub)], rest, HK2, by go_num, ((((qb.out.setCell (Nat.le_refl _) _).setCell (Nat.le_refl _) _).setCell (Nat.le_refl _) _).setCell (Nat.le_refl _) _).setCell (Nat.le_refl _) _, ⟨by rw [appO_snoc]; exact HP.out.1, by simp [HP.out.2]⟩, HZ2, E4, HF2, row_set (row_set (row_set (row_set (row_set HH1.out _ _) _ _) _ _) _ _) _ _, by simp [hcs], ?_⟩, by simp [intOf]; omega⟩
      refine G _ (by simp) ?_
      intro g h1 h2
      repeat rw [heap_set _ _ _ _ _ (by omega)]
end Go.Proofs.YtoaeggfnlenjkaaGreatDoor.G
