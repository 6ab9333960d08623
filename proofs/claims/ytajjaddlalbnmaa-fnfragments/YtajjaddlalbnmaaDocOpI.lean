/- OpOf, the program's side. -/
import Derived.Test.YtajjaddlalbnmaaDocCloneTwo
import Derived.Test.YtajjaddlalbnmaaDocSpecOK
import Derived.Test.YtajjaddlalbnmaaDocFind
import Derived.Test.YtajjaddlalbnmaaDocOp
import Derived.Deep.QuietTactic
namespace Go.Proofs.Ytajjaddlalbnmaa
open Go.ChangeShapes Go.WideShapes Go.ChangeAt Go.RowKit
set_option linter.unusedVariables false

/-- What FragmentOf tells. -/
def FrR (l : List De) (s : ByteArray) (x : De) (y : Int) : Prop :=
  (65536 < s.size ∧ x = de0 ∧ y = 2) ∨ (¬ 65536 < s.size ∧ docB l = false ∧ x = de0 ∧ y = 1) ∨ (¬ 65536 < s.size ∧ docB l = true ∧ l.find? (isFr s) = none ∧ x = de0 ∧ y = 5) ∨ (¬ 65536 < s.size ∧ docB l = true ∧ l.find? (isFr s) = some x ∧ y = 0)
theorem FrR.one {l : List De} {s : ByteArray} {x x' : De} {y y' : Int} (h : FrR l s x y) (h' : FrR l s x' y') : x = x' ∧ y = y' := by
  rcases h with ⟨a1, rfl, rfl⟩ | ⟨a1, a2, rfl, rfl⟩ | ⟨a1, a2, a3, rfl, rfl⟩ | ⟨a1, a2, a3, rfl⟩ <;> rcases h' with ⟨b1, rfl, rfl⟩ | ⟨b1, b2, rfl, rfl⟩ | ⟨b1, b2, b3, rfl, rfl⟩ | ⟨b1, b2, b3, rfl⟩ <;>
    first
      | exact ⟨rfl, rfl⟩
      | exact absurd ‹65536 < s.size› ‹¬ 65536 < s.size›
      | (exfalso; rw [a2] at b2; exact Bool.noConfusion b2)
      | (exfalso; rw [a3] at b3; cases b3; done)
      | (rw [a3] at b3; cases b3; exact ⟨rfl, rfl⟩)
theorem FrR.bd {l : List De} {s : ByteArray} {x : De} {y : Int} (h : FrR l s x y) (hb : DefsBd 1048576 l) : DeBd 1048576 x := by
  have h0 : DeBd 1048576 de0 := ⟨Nat.zero_le _, Nat.zero_le _, Nat.zero_le _, trivial⟩
  rcases h with ⟨a1, rfl, rfl⟩ | ⟨a1, a2, rfl, rfl⟩ | ⟨a1, a2, a3, rfl, rfl⟩ | ⟨a1, a2, a3, rfl⟩
  · exact h0
  · exact h0
  · exact h0
  · exact hb.2 x (List.mem_of_find?_eq_some a3)
/-- A definition and a code; its selections are owned, or lie in new memory. -/
def SaysO (lo : Nat) (w : World) (R : De → Int → Prop) (e : Ending) : Prop := ∃ x y a c, e = .returned (.tuple #[deV x a c, .int .i64 y]) ∧ R x y ∧ SelOwn lo w.heap.size w a x.sels
def SaysR (lo : Nat) (w : World) (R : De → Int → Prop) (e : Ending) : Prop := ∃ x y a c, e = .returned (.tuple #[deV x a c, .int .i64 y]) ∧ R x y ∧ SelRow lo w.heap.size w a x.sels
theorem SaysO.zero {lo : Nat} {w : World} {R : De → Int → Prop} {y : Int} (h : R de0 y) : SaysO lo w R (.returned (.tuple #[.agg #[.int .i64 0, .string ⟨#[]⟩, .string ⟨#[]⟩, .slice none 0 0], .int .i64 y])) := ⟨de0, y, none, 0, rfl, h, .inl rfl⟩
theorem SaysR.zero {lo : Nat} {w : World} {R : De → Int → Prop} {y : Int} (h : R de0 y) : SaysR lo w R (.returned (.tuple #[.agg #[.int .i64 0, .string ⟨#[]⟩, .string ⟨#[]⟩, .slice none 0 0], .int .i64 y])) := ⟨de0, y, none, 0, rfl, h, .inl rfl⟩

set_option maxHeartbeats 4000000 in
set_option maxRecDepth 40000 in
theorem impl_fragOf (a : Option Addr) (c : Nat) (l : List De) (s : ByteArray) (w : World) (hr : DeRow 0 w.heap.size w a l) (hb : DefsBd 1048576 l) (hs : s.size ≤ 1048576) :
    Calls Try.prog 7 #[.agg #[.slice a l.length c], .string s] w fun e w' => SaysO w.heap.size w' (FrR l s) e ∧ Below w.heap.size w w' := by
  have K1 : Hid (∀ W0, Below w.heap.size w W0 → DeRow 0 W0.heap.size W0 a l) := fun W0 hB => DeRow.up hr hB
  have HB : Hid (DefsBd 1048576 l) := hb
  have hl : l.length ≤ 1048576 := hb.1
  clear hr hb
  by_cases hls : 65536 < s.size
  · have HN : Hid (FrR l s de0 2) := .inl ⟨hls, rfl, rfl⟩
    go_enter Try.func7, Try.ntmps7
    go_wp2_with fail
    refine bodyPost_ret (v := .tuple #[.agg #[.int .i64 0, .string ⟨#[]⟩, .string ⟨#[]⟩, .slice none 0 0], .int .i64 2]) (by simp [results, Try.results7, go_sem]) rfl ⟨SaysO.zero HN.out, ?_⟩
    repeat (first | exact Below.refl _ _ | refine Below.setCell ?_ (by first | omega | (simp <;> omega)) _ | refine Below.alloc ?_ (by first | omega | (simp <;> omega)) _)
  go_enter Try.func7, Try.ntmps7
  go_wp2_with fail
  refine (impl_doc a c l _ (K1.out _ ?b0) HB.out.1 HB.out.2).mono ?_
  case b0 => repeat (first | exact Below.refl _ _ | refine Below.setCell ?_ (by first | omega | (simp <;> omega)) _ | refine Below.alloc ?_ (by first | omega | (simp <;> omega)) _)
  rintro e w1 ⟨rfl, hb1⟩
  have z1 : w.heap.size + 2 ≤ w1.heap.size := by have := hb1.size; simp at this; omega
  have Q1 : Hid (Below w.heap.size w w1) := by
    refine Below.trans ?_ (hb1.mono (by first | omega | (simp <;> omega)))
    repeat (first | exact Below.refl _ _ | refine Below.setCell ?_ (by first | omega | (simp <;> omega)) _ | refine Below.alloc ?_ (by first | omega | (simp <;> omega)) _)
  have k10 := fun o => hb1.cell (p := ⟨w.heap.size, o, none⟩) (by first | omega | (simp <;> omega))
  have k11 := fun o => hb1.cell (p := ⟨w.heap.size + 1, o, none⟩) (by first | omega | (simp <;> omega))
  have j11 := fun o => hb1.frozen (p := ⟨w.heap.size + 1, o, none⟩) (by first | omega | (simp <;> omega))
  clear hb1
  cases hdb : docB l with
  | false =>
    have HN : Hid (FrR l s de0 1) := .inr (.inl ⟨hls, hdb, rfl, rfl⟩)
    clear hdb
    go_wp2_with fail
    refine bodyPost_ret (v := .tuple #[.agg #[.int .i64 0, .string ⟨#[]⟩, .string ⟨#[]⟩, .slice none 0 0], .int .i64 1]) (by simp [results, Try.results7, go_sem, k11]) rfl ⟨SaysO.zero HN.out, ?_⟩
    repeat (first | exact Q1.out | refine Below.setCell ?_ (by first | omega | (simp <;> omega)) _ | refine Below.alloc ?_ (by first | omega | (simp <;> omega)) _)
  | true =>
  have HDB : Hid (docB l = true) := hdb
  clear hdb
  go_wp2_with fail
  go_loopw [21] (fun i w' => ∃ (k : Nat), k ≤ l.length ∧ i = .int .i64 k ∧ Below w1.heap.size w1 w' ∧ Hid (∀ x ∈ l.take k, isFr s x = false)) (fun i _ => l.length - (intOf i).toNat)
  case atStart => exact ⟨0, by omega, rfl, Below.refl _ _, by simp [Hid]⟩
  case round =>
    obtain ⟨k, hk, rfl, hbw, HA⟩ := hrel
    have hbz := hbw.size
    have kr := fun o => hbw.cell (p := ⟨w.heap.size + 1, o, none⟩) (by first | omega | (simp <;> omega))
    have jr := fun o => hbw.frozen (p := ⟨w.heap.size + 1, o, none⟩) (by first | omega | (simp <;> omega))
    have Qr : Hid (Below w.heap.size w wr) := Q1.out.trans (hbw.mono (by omega))
    by_cases hlt : k < l.length
    case neg =>
      have HN : Hid (FrR l s de0 5) := .inr (.inr (.inl ⟨hls, HDB.out, find_no (by have := HA.out; rwa [List.take_of_length_le (by omega)] at this), rfl, rfl⟩))
      clear hbw
      go_wp2_with fail
      refine bodyPost_ret (v := .tuple #[.agg #[.int .i64 0, .string ⟨#[]⟩, .string ⟨#[]⟩, .slice none 0 0], .int .i64 5]) (by simp [results, Try.results7, go_sem, kr, k11]) rfl ⟨SaysO.zero HN.out, ?_⟩
      repeat (first | exact Qr.out | refine Below.setCell ?_ (by first | omega | (simp <;> omega)) _ | refine Below.alloc ?_ (by first | omega | (simp <;> omega)) _)
    obtain ⟨b, o, a3, c3, ha, _, hbl, d0, d1, d2, d3, r3⟩ := DeRow.cells (K1.out _ Qr.out) k hlt
    subst ha
    have R3 : Hid (∀ W0, Below wr.heap.size wr W0 → SelRow 0 W0.heap.size W0 a3 l[k].sels) := fun W0 hB => SelRow.up r3 hB
    have HX : Hid (DeBd 1048576 l[k]) := HB.out.2 _ (List.getElem_mem hlt)
    have HBW : Hid (Below w1.heap.size w1 wr) := hbw
    clear r3 hbw
    cases h3 : (l[k].k == 3) with
    | false =>
      have HF : Hid (isFr s l[k] = false) := by unfold Hid isFr; rw [h3]; rfl
      go_wp2_with fail
      exact ⟨⟨k + 1, by omega, by go_num, HBW.out.alloc (by omega) _, isFr_take hlt HA.out HF.out⟩, by simp [intOf]; omega⟩
    | true =>
    cases h4 : (l[k].nm.toList == s.toList) with
    | false =>
      have HF : Hid (isFr s l[k] = false) := by unfold Hid isFr; rw [h3, h4]; rfl
      go_wp2_with fail
      exact ⟨⟨k + 1, by omega, by go_num, HBW.out.alloc (by omega) _, isFr_take hlt HA.out HF.out⟩, by simp [intOf]; omega⟩
    | true =>
    have HF : Hid (FrR l s l[k] 0) := .inr (.inr (.inr ⟨hls, HDB.out, find_at hlt HA.out (by unfold isFr; rw [h3, h4]; rfl), rfl⟩))
    go_wp2_with fail
    refine (clone_def l[k] a3 c3 _ (R3.out _ ?b0) HX.out).mono ?_
    case b0 => repeat (first | exact Below.refl _ _ | refine Below.alloc ?_ (by first | omega | (simp <;> omega)) _)
    rintro e w2 ⟨b3, f3, rfl, A3, hb2⟩
    have z2 : wr.heap.size + 1 ≤ w2.heap.size := by have := hb2.size; simpa using this
    have A3 : Hid (SelOwn (w.heap.size + 2) w2.heap.size w2 b3 l[k].sels) := SelOwn.wide A3 (by first | omega | (simp <;> omega)) (Nat.le_refl _)
    have P2 : Below wr.heap.size wr w2 := ((Below.refl _ _).alloc (Nat.le_refl _) _).trans (hb2.mono (by simp))
    have k2 := fun o => P2.cell (p := ⟨w.heap.size + 1, o, none⟩) (show w.heap.size + 1 < wr.heap.size by omega)
    have j2 := fun o => P2.frozen (p := ⟨w.heap.size + 1, o, none⟩) (show w.heap.size + 1 < wr.heap.size by omega)
    have Q2 : Hid (Below w.heap.size w w2) := (Qr.out.alloc (by omega) _).trans (hb2.mono (by first | omega | (simp <;> omega)))
    clear hb2 P2
    go_wp2_with fail
    refine bodyPost_ret (v := .tuple #[deV l[k] b3 f3, .int .i64 0]) (by simp [results, Try.results7, go_sem, k2, kr, k11, deV]) rfl ?_
    have G : ∀ W' : World, W'.heap.size = w2.heap.size → Agree (w.heap.size + 2) w2.heap.size w2 W' → Below w.heap.size w W' → SaysO w.heap.size W' (FrR l s) (.returned (.tuple #[deV l[k] b3 f3, .int .i64 0])) ∧ Below w.heap.size w W' :=
      fun W' hw ha hB => ⟨⟨_, _, _, _, rfl, HF.out, SelOwn.wide (SelOwn.keep A3.out ha) (by omega) (by omega)⟩, hB⟩
    refine G _ (by simp) ?_ ?_
    · intro g h1 h2
      repeat rw [heap_set _ _ _ _ _ (by omega)]
    · repeat (refine Below.setCell ?_ (by first | omega | (simp <;> omega)) _)
      exact Q2.out
end Go.Proofs.Ytajjaddlalbnmaa
namespace Go.Proofs.Ytajjaddlalbnmaa
open Go.ChangeShapes Go.WideShapes Go.ChangeAt Go.RowKit Go.Maps
set_option linter.unusedVariables false

set_option maxHeartbeats 4000000 in
set_option maxRecDepth 40000 in
theorem impl_opOf (a : Option Addr) (c : Nat) (l : List De) (w : World) (hr : DeRow 0 w.heap.size w a l) (hb : DefsBd 1048576 l) :
    Calls Try.prog 10 #[.agg #[.slice a l.length c]] w fun e w' => SaysO w.heap.size w' (OpR l) e ∧ Below w.heap.size w w' := by
  have K1 : Hid (∀ W0, Below w.heap.size w W0 → DeRow 0 W0.heap.size W0 a l) := fun W0 hB => DeRow.up hr hB
  have HB : Hid (DefsBd 1048576 l) := hb
  have hl : l.length ≤ 1048576 := hb.1
  clear hr hb
  go_enter Try.func10, Try.ntmps10
  go_wp2_with fail
  refine (impl_doc a c l _ (K1.out _ ?b0) HB.out.1 HB.out.2).mono ?_
  case b0 => repeat (first | exact Below.refl _ _ | refine Below.setCell ?_ (by first | omega | (simp <;> omega)) _ | refine Below.alloc ?_ (by first | omega | (simp <;> omega)) _)
  rintro e w1 ⟨rfl, hb1⟩
  have z1 : w.heap.size + 2 ≤ w1.heap.size := by have := hb1.size; simp at this; omega
  have Q1 : Hid (Below w.heap.size w w1) := by
    refine Below.trans ?_ (hb1.mono (by first | omega | (simp <;> omega)))
    repeat (first | exact Below.refl _ _ | refine Below.setCell ?_ (by first | omega | (simp <;> omega)) _ | refine Below.alloc ?_ (by first | omega | (simp <;> omega)) _)
  have k10 := fun o => hb1.cell (p := ⟨w.heap.size, o, none⟩) (by first | omega | (simp <;> omega))
  have k11 := fun o => hb1.cell (p := ⟨w.heap.size + 1, o, none⟩) (by first | omega | (simp <;> omega))
  have j11 := fun o => hb1.frozen (p := ⟨w.heap.size + 1, o, none⟩) (by first | omega | (simp <;> omega))
  clear hb1
  cases hdb : docB l with
  | false =>
    have HN : Hid (OpR l de0 1) := .inl ⟨hdb, rfl, rfl⟩
    clear hdb
    go_wp2_with fail
    refine bodyPost_ret (v := .tuple #[.agg #[.int .i64 0, .string ⟨#[]⟩, .string ⟨#[]⟩, .slice none 0 0], .int .i64 1]) (by simp [results, Try.results10, go_sem, k11]) rfl ⟨SaysO.zero HN.out, ?_⟩
    repeat (first | exact Q1.out | refine Below.setCell ?_ (by first | omega | (simp <;> omega)) _ | refine Below.alloc ?_ (by first | omega | (simp <;> omega)) _)
  | true =>
  have HDB : Hid (docB l = true) := hdb
  clear hdb
  go_wp2_with fail
  refine (op_place a c l _ (K1.out _ Q1.out) HB.out).mono ?_
  rintro e w2 ⟨p, y, rfl, hp, hb2⟩
  have z2 := hb2.size
  have Q2 : Hid (Below w.heap.size w w2) := Q1.out.trans (hb2.mono (by omega))
  have k20 := fun o => hb2.cell (p := ⟨w.heap.size, o, none⟩) (show w.heap.size < w1.heap.size by omega)
  have k21 := fun o => hb2.cell (p := ⟨w.heap.size + 1, o, none⟩) (show w.heap.size + 1 < w1.heap.size by omega)
  have j21 := fun o => hb2.frozen (p := ⟨w.heap.size + 1, o, none⟩) (show w.heap.size + 1 < w1.heap.size by omega)
  clear hb2
  rcases hp with ⟨p1, rfl, rfl⟩ | ⟨p1, ⟨p2, rfl, rfl⟩ | ⟨p2, rfl, rfl⟩ | ⟨p2, rfl, j, hj, rfl, pj⟩⟩
  · have HN : Hid (OpR l de0 19) := .inr ⟨HDB.out, .inl ⟨p1, rfl, rfl⟩⟩
    clear p1
    go_wp2_with fail
    refine bodyPost_ret (v := .tuple #[.agg #[.int .i64 0, .string ⟨#[]⟩, .string ⟨#[]⟩, .slice none 0 0], .int .i64 19]) (by simp [results, Try.results10, go_sem, k21, k11]) rfl ⟨SaysO.zero HN.out, ?_⟩
    repeat (first | exact Q2.out | refine Below.setCell ?_ (by first | omega | (simp <;> omega)) _ | refine Below.alloc ?_ (by first | omega | (simp <;> omega)) _)
  · have HN : Hid (OpR l de0 5) := .inr ⟨HDB.out, .inr ⟨p1, .inl ⟨p2, rfl, rfl⟩⟩⟩
    clear p1 p2
    go_wp2_with fail
    refine bodyPost_ret (v := .tuple #[.agg #[.int .i64 0, .string ⟨#[]⟩, .string ⟨#[]⟩, .slice none 0 0], .int .i64 5]) (by simp [results, Try.results10, go_sem, k21, k11]) rfl ⟨SaysO.zero HN.out, ?_⟩
    repeat (first | exact Q2.out | refine Below.setCell ?_ (by first | omega | (simp <;> omega)) _ | refine Below.alloc ?_ (by first | omega | (simp <;> omega)) _)
  · have HN : Hid (OpR l de0 6) := .inr ⟨HDB.out, .inr ⟨p1, .inr (.inl ⟨p2, rfl, rfl⟩)⟩⟩
    clear p1 p2
    go_wp2_with fail
    refine bodyPost_ret (v := .tuple #[.agg #[.int .i64 0, .string ⟨#[]⟩, .string ⟨#[]⟩, .slice none 0 0], .int .i64 6]) (by simp [results, Try.results10, go_sem, k21, k11]) rfl ⟨SaysO.zero HN.out, ?_⟩
    repeat (first | exact Q2.out | refine Below.setCell ?_ (by first | omega | (simp <;> omega)) _ | refine Below.alloc ?_ (by first | omega | (simp <;> omega)) _)
  have HF : Hid (OpR l l[j] 0) := .inr ⟨HDB.out, .inr ⟨p1, .inr (.inr ⟨p2, pj, rfl⟩)⟩⟩
  have HX : Hid (DeBd 1048576 l[j]) := HB.out.2 _ (List.getElem_mem hj)
  clear p1 p2 pj
  obtain ⟨b, o, a3, c3, ha, _, hbl, d0, d1, d2, d3, r3⟩ := DeRow.cells (K1.out _ Q2.out) j hj
  subst ha
  have R3 : Hid (SelRow 0 w2.heap.size w2 a3 l[j].sels) := r3
  clear r3
  go_wp2_with fail
  refine (clone_def l[j] a3 c3 _ R3.out HX.out).mono ?_
  rintro e w3 ⟨b3, f3, rfl, A3, hb3⟩
  have z3 := hb3.size
  have A3 : Hid (SelOwn (w.heap.size + 2) w3.heap.size w3 b3 l[j].sels) := SelOwn.wide A3 (by first | omega | (simp <;> omega)) (Nat.le_refl _)
  have k31 := fun o => hb3.cell (p := ⟨w.heap.size + 1, o, none⟩) (show w.heap.size + 1 < w2.heap.size by omega)
  have j31 := fun o => hb3.frozen (p := ⟨w.heap.size + 1, o, none⟩) (show w.heap.size + 1 < w2.heap.size by omega)
  have Q3 : Hid (Below w.heap.size w w3) := Q2.out.trans (hb3.mono (by omega))
  clear hb3
  go_wp2_with fail
  refine bodyPost_ret (v := .tuple #[deV l[j] b3 f3, .int .i64 0]) (by simp [results, Try.results10, go_sem, k31, k21, k11, deV]) rfl ?_
  have G : ∀ W' : World, W'.heap.size = w3.heap.size → Agree (w.heap.size + 2) w3.heap.size w3 W' → Below w.heap.size w W' → SaysO w.heap.size W' (OpR l) (.returned (.tuple #[deV l[j] b3 f3, .int .i64 0])) ∧ Below w.heap.size w W' :=
    fun W' hw ha hB => ⟨⟨_, _, _, _, rfl, HF.out, SelOwn.wide (SelOwn.keep A3.out ha) (by omega) (by omega)⟩, hB⟩
  refine G _ (by simp) ?_ ?_
  · intro g h1 h2
    repeat rw [heap_set _ _ _ _ _ (by omega)]
  · repeat (refine Below.setCell ?_ (by first | omega | (simp <;> omega)) _)
    exact Q3.out
end Go.Proofs.Ytajjaddlalbnmaa
