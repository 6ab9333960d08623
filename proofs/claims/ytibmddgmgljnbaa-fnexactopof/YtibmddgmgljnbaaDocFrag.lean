/- FragmentOf: a fragment found by its name; both sides. -/
import Derived.Test.YtibmddgmgljnbaaDocCloneTwo
import Derived.Test.YtibmddgmgljnbaaDocOwnSpecTwo
import Derived.Test.YtibmddgmgljnbaaDocSpecOK
import Derived.Test.YtibmddgmgljnbaaDocSzW
namespace Go.Proofs.Ytibmddgmgljnbaa
open Go.ChangeShapes Go.WideShapes Go.ChangeAt Go.RowKit
set_option linter.unusedVariables false

def de0 : De := ⟨0, ⟨#[]⟩, ⟨#[]⟩, .nil⟩
def deV (x : De) (a : Option Addr) (c : Nat) : Value := .agg #[.int .i64 x.k, .string x.nm, .string x.on, .slice a x.sels.len c]
def isFr (s : ByteArray) (x : De) : Bool := (x.k == 3) && (x.nm.toList == s.toList)
theorem find_at {p : De → Bool} : ∀ {l : List De} {k : Nat} (hk : k < l.length), (∀ x ∈ l.take k, p x = false) → p l[k] = true → l.find? p = some l[k]
  | [], k, hk, _, _ => by simp at hk
  | x :: l, 0, hk, _, h => by
    have h : p x = true := h
    simp [h]
  | x :: l, k + 1, hk, ha, h => by
    have hx : p x = false := ha x (by simp)
    have := find_at (l := l) (k := k) (by simpa using hk) (fun y hy => ha y (by simp [hy])) (by simpa using h)
    simp [hx, this]
theorem find_no {p : De → Bool} {l : List De} (h : ∀ x ∈ l, p x = false) : l.find? p = none := by
  rw [List.find?_eq_none]
  intro x hx; rw [h x hx]; simp
theorem isFr_take {s : ByteArray} {l : List De} {k : Nat} (hk : k < l.length) (h : ∀ x ∈ l.take k, isFr s x = false) (h2 : isFr s l[k] = false) : ∀ x ∈ l.take (k + 1), isFr s x = false := by
  rw [List.take_succ_eq_append_getElem hk]
  intro x hx
  rcases List.mem_append.1 hx with hx | hx
  · exact h x hx
  · simp only [List.mem_singleton] at hx; subst hx; exact h2
/-- What FragmentOf tells. -/
def FrR (l : List De) (s : ByteArray) (x : De) (y : Int) : Prop :=
  (65536 < s.size ∧ x = de0 ∧ y = 2) ∨ (¬ 65536 < s.size ∧ docB l = false ∧ x = de0 ∧ y = 1) ∨ (¬ 65536 < s.size ∧ docB l = true ∧ l.find? (isFr s) = none ∧ x = de0 ∧ y = 5) ∨ (¬ 65536 < s.size ∧ docB l = true ∧ l.find? (isFr s) = some x ∧ y = 0)
theorem FrR.one {l : List De} {s : ByteArray} {x x' : De} {y y' : Int} (h : FrR l s x y) (h' : FrR l s x' y') : x = x' ∧ y = y' := by
  rcases h with ⟨a1, rfl, rfl⟩ | ⟨a1, a2, rfl, rfl⟩ | ⟨a1, a2, a3, rfl, rfl⟩ | ⟨a1, a2, a3, rfl⟩ <;> rcases h' with ⟨b1, rfl, rfl⟩ | ⟨b1, b2, rfl, rfl⟩ | ⟨b1, b2, b3, rfl, rfl⟩ | ⟨b1, b2, b3, rfl⟩ <;>
    first
      | exact ⟨rfl, rfl⟩
      | exact absurd ‹65536 < s.size› ‹¬ 65536 < s.size›
      | (exfalso; rw [a2] at b2; exact Bool.noConfusion b2)
      | (exfalso; rw [a3] at b3; cases b3; done)
      | (rw [a3] at b3; cases b3; exact ⟨rfl, rfl⟩)
theorem FrR.bd {l : List De} {s : ByteArray} {x : De} {y : Int} (h : FrR l s x y) (hb : DefsBd 1048576 l) : DeBd 1048576 x := by
  have h0 : DeBd 1048576 de0 := ⟨Nat.zero_le _, Nat.zero_le _, Nat.zero_le _, trivial⟩
  rcases h with ⟨a1, rfl, rfl⟩ | ⟨a1, a2, rfl, rfl⟩ | ⟨a1, a2, a3, rfl, rfl⟩ | ⟨a1, a2, a3, rfl⟩
  · exact h0
  · exact h0
  · exact h0
  · exact hb.2 x (List.mem_of_find?_eq_some a3)
theorem cnt_mem : ∀ {l : List De} {x : De}, x ∈ l → wtS x.sels ≤ G.cnt wtD l
  | y :: l, x, h => by
    simp only [G.cnt, wtD]
    rcases List.mem_cons.1 h with rfl | h
    · omega
    · have := cnt_mem h; omega
theorem FrR.wt {l : List De} {s : ByteArray} {x : De} {y : Int} (h : FrR l s x y) : wtS x.sels ≤ G.cnt wtD l := by
  rcases h with ⟨a1, rfl, rfl⟩ | ⟨a1, a2, rfl, rfl⟩ | ⟨a1, a2, a3, rfl, rfl⟩ | ⟨a1, a2, a3, rfl⟩
  · exact Nat.zero_le _
  · exact Nat.zero_le _
  · exact Nat.zero_le _
  · exact cnt_mem (List.mem_of_find?_eq_some a3)
/-- A definition and a code; its selections are owned, or lie in new memory. -/
def SaysO (lo : Nat) (w : World) (R : De → Int → Prop) (e : Ending) : Prop := ∃ x y a c, e = .returned (.tuple #[deV x a c, .int .i64 y]) ∧ R x y ∧ SelOwn lo w.heap.size w a x.sels
def SaysR (lo : Nat) (w : World) (R : De → Int → Prop) (e : Ending) : Prop := ∃ x y a c, e = .returned (.tuple #[deV x a c, .int .i64 y]) ∧ R x y ∧ SelRow lo w.heap.size w a x.sels
theorem SaysO.zero {lo : Nat} {w : World} {R : De → Int → Prop} {y : Int} (h : R de0 y) : SaysO lo w R (.returned (.tuple #[.agg #[.int .i64 0, .string ⟨#[]⟩, .string ⟨#[]⟩, .slice none 0 0], .int .i64 y])) := ⟨de0, y, none, 0, rfl, h, .inl rfl⟩
theorem SaysR.zero {lo : Nat} {w : World} {R : De → Int → Prop} {y : Int} (h : R de0 y) : SaysR lo w R (.returned (.tuple #[.agg #[.int .i64 0, .string ⟨#[]⟩, .string ⟨#[]⟩, .slice none 0 0], .int .i64 y])) := ⟨de0, y, none, 0, rfl, h, .inl rfl⟩

set_option maxHeartbeats 4000000 in
set_option maxRecDepth 40000 in
theorem impl_fragOf (a : Option Addr) (c : Nat) (l : List De) (s : ByteArray) (w : World) (hr : DeRow 0 w.heap.size w a l) (hb : DefsBd 1048576 l) (hs : s.size ≤ 1048576) :
    Calls Try.prog 8 #[.agg #[.slice a l.length c], .string s] w fun e w' => SaysO w.heap.size w' (FrR l s) e ∧ Below w.heap.size w w' := by
  have K1 : Hid (∀ W0, Below w.heap.size w W0 → DeRow 0 W0.heap.size W0 a l) := fun W0 hB => DeRow.up hr hB
  have HB : Hid (DefsBd 1048576 l) := hb
  have hl : l.length ≤ 1048576 := hb.1
  clear hr hb
  by_cases hls : 65536 < s.size
  · have HN : Hid (FrR l s de0 2) := .inl ⟨hls, rfl, rfl⟩
    go_enter Try.func8, Try.ntmps8
    go_wp2_with fail
    refine bodyPost_ret (v := .tuple #[.agg #[.int .i64 0, .string ⟨#[]⟩, .string ⟨#[]⟩, .slice none 0 0], .int .i64 2]) (by simp [results, Try.results8, go_sem]) rfl ⟨SaysO.zero HN.out, ?_⟩
    repeat (first | exact Below.refl _ _ | refine Below.setCell ?_ (by first | omega | (simp <;> omega)) _ | refine Below.alloc ?_ (by first | omega | (simp <;> omega)) _)
  go_enter Try.func8, Try.ntmps8
  go_wp2_with fail
  refine (impl_doc a c l _ (K1.out _ ?b0) HB.out.1 HB.out.2).mono ?_
  case b0 => repeat (first | exact Below.refl _ _ | refine Below.setCell ?_ (by first | omega | (simp <;> omega)) _ | refine Below.alloc ?_ (by first | omega | (simp <;> omega)) _)
  rintro e w1 ⟨rfl, hb1⟩
  have z1 : w.heap.size + 2 ≤ w1.heap.size := by have := hb1.size; simp at this; omega
  have Q1 : Hid (Below w.heap.size w w1) := by
    refine Below.trans ?_ (hb1.mono (by first | omega | (simp <;> omega)))
    repeat (first | exact Below.refl _ _ | refine Below.setCell ?_ (by first | omega | (simp <;> omega)) _ | refine Below.alloc ?_ (by first | omega | (simp <;> omega)) _)
  have k10 := fun o => hb1.cell (p := ⟨w.heap.size, o, none⟩) (by first | omega | (simp <;> omega))
  have k11 := fun o => hb1.cell (p := ⟨w.heap.size + 1, o, none⟩) (by first | omega | (simp <;> omega))
  have j11 := fun o => hb1.frozen (p := ⟨w.heap.size + 1, o, none⟩) (by first | omega | (simp <;> omega))
  clear hb1
  cases hdb : docB l with
  | false =>
    have HN : Hid (FrR l s de0 1) := .inr (.inl ⟨hls, hdb, rfl, rfl⟩)
    clear hdb
    go_wp2_with fail
    refine bodyPost_ret (v := .tuple #[.agg #[.int .i64 0, .string ⟨#[]⟩, .string ⟨#[]⟩, .slice none 0 0], .int .i64 1]) (by simp [results, Try.results8, go_sem, k11]) rfl ⟨SaysO.zero HN.out, ?_⟩
    repeat (first | exact Q1.out | refine Below.setCell ?_ (by first | omega | (simp <;> omega)) _ | refine Below.alloc ?_ (by first | omega | (simp <;> omega)) _)
  | true =>
  have HDB : Hid (docB l = true) := hdb
  clear hdb
  go_wp2_with fail
  go_loopw [21] (fun i w' => ∃ (k : Nat), k ≤ l.length ∧ i = .int .i64 k ∧ Below w1.heap.size w1 w' ∧ Hid (∀ x ∈ l.take k, isFr s x = false)) (fun i _ => l.length - (intOf i).toNat)
  case atStart => exact ⟨0, by omega, rfl, Below.refl _ _, by simp [Hid]⟩
  case round =>
    obtain ⟨k, hk, rfl, hbw, HA⟩ := hrel
    have hbz := hbw.size
    have kr := fun o => hbw.cell (p := ⟨w.heap.size + 1, o, none⟩) (by first | omega | (simp <;> omega))
    have jr := fun o => hbw.frozen (p := ⟨w.heap.size + 1, o, none⟩) (by first | omega | (simp <;> omega))
    have Qr : Hid (Below w.heap.size w wr) := Q1.out.trans (hbw.mono (by omega))
    by_cases hlt : k < l.length
    case neg =>
      have HN : Hid (FrR l s de0 5) := .inr (.inr (.inl ⟨hls, HDB.out, find_no (by have := HA.out; rwa [List.take_of_length_le (by omega)] at this), rfl, rfl⟩))
      clear hbw
      go_wp2_with fail
      refine bodyPost_ret (v := .tuple #[.agg #[.int .i64 0, .string ⟨#[]⟩, .string ⟨#[]⟩, .slice none 0 0], .int .i64 5]) (by simp [results, Try.results8, go_sem, kr, k11]) rfl ⟨SaysO.zero HN.out, ?_⟩
      repeat (first | exact Qr.out | refine Below.setCell ?_ (by first | omega | (simp <;> omega)) _ | refine Below.alloc ?_ (by first | omega | (simp <;> omega)) _)
    obtain ⟨b, o, a3, c3, ha, _, hbl, d0, d1, d2, d3, r3⟩ := DeRow.cells (K1.out _ Qr.out) k hlt
    subst ha
    have R3 : Hid (∀ W0, Below wr.heap.size wr W0 → SelRow 0 W0.heap.size W0 a3 l[k].sels) := fun W0 hB => SelRow.up r3 hB
    have HX : Hid (DeBd 1048576 l[k]) := HB.out.2 _ (List.getElem_mem hlt)
    have HBW : Hid (Below w1.heap.size w1 wr) := hbw
    clear r3 hbw
    cases h3 : (l[k].k == 3) with
    | false =>
      have HF : Hid (isFr s l[k] = false) := by unfold Hid isFr; rw [h3]; rfl
      go_wp2_with fail
      exact ⟨⟨k + 1, by omega, by go_num, HBW.out.alloc (by omega) _, isFr_take hlt HA.out HF.out⟩, by simp [intOf]; omega⟩
    | true =>
    cases h4 : (l[k].nm.toList == s.toList) with
    | false =>
      have HF : Hid (isFr s l[k] = false) := by unfold Hid isFr; rw [h3, h4]; rfl
      go_wp2_with fail
      exact ⟨⟨k + 1, by omega, by go_num, HBW.out.alloc (by omega) _, isFr_take hlt HA.out HF.out⟩, by simp [intOf]; omega⟩
    | true =>
    have HF : Hid (FrR l s l[k] 0) := .inr (.inr (.inr ⟨hls, HDB.out, find_at hlt HA.out (by unfold isFr; rw [h3, h4]; rfl), rfl⟩))
    go_wp2_with fail
    refine (clone_def l[k] a3 c3 _ (R3.out _ ?b0) HX.out).mono ?_
    case b0 => repeat (first | exact Below.refl _ _ | refine Below.alloc ?_ (by first | omega | (simp <;> omega)) _)
    rintro e w2 ⟨b3, f3, rfl, A3, hb2⟩
    have z2 : wr.heap.size + 1 ≤ w2.heap.size := by have := hb2.size; simpa using this
    have A3 : Hid (SelOwn (w.heap.size + 2) w2.heap.size w2 b3 l[k].sels) := SelOwn.wide A3 (by first | omega | (simp <;> omega)) (Nat.le_refl _)
    have P2 : Below wr.heap.size wr w2 := ((Below.refl _ _).alloc (Nat.le_refl _) _).trans (hb2.mono (by simp))
    have k2 := fun o => P2.cell (p := ⟨w.heap.size + 1, o, none⟩) (show w.heap.size + 1 < wr.heap.size by omega)
    have j2 := fun o => P2.frozen (p := ⟨w.heap.size + 1, o, none⟩) (show w.heap.size + 1 < wr.heap.size by omega)
    have Q2 : Hid (Below w.heap.size w w2) := (Qr.out.alloc (by omega) _).trans (hb2.mono (by first | omega | (simp <;> omega)))
    clear hb2 P2
    go_wp2_with fail
    refine bodyPost_ret (v := .tuple #[deV l[k] b3 f3, .int .i64 0]) (by simp [results, Try.results8, go_sem, k2, kr, k11, deV]) rfl ?_
    have G : ∀ W' : World, W'.heap.size = w2.heap.size → Agree (w.heap.size + 2) w2.heap.size w2 W' → Below w.heap.size w W' → SaysO w.heap.size W' (FrR l s) (.returned (.tuple #[deV l[k] b3 f3, .int .i64 0])) ∧ Below w.heap.size w W' :=
      fun W' hw ha hB => ⟨⟨_, _, _, _, rfl, HF.out, SelOwn.wide (SelOwn.keep A3.out ha) (by omega) (by omega)⟩, hB⟩
    refine G _ (by simp) ?_ ?_
    · intro g h1 h2
      repeat rw [heap_set _ _ _ _ _ (by omega)]
    · repeat (refine Below.setCell ?_ (by first | omega | (simp <;> omega)) _)
      exact Q2.out

set_option maxHeartbeats 4000000 in
set_option maxRecDepth 40000 in
theorem spec_fragment (a : Option Addr) (c : Nat) (l : List De) (s : ByteArray) (w : World) (hr : DeRow 0 w.heap.size w a l) (hl : l.length ≤ 1048576) :
    Calls Try.prog 18 #[.agg #[.slice a l.length c], .string s] w fun e w' => ((l.find? (isFr s) = none ∧ e = .returned (.tuple #[.agg #[.int .i64 0, .string ⟨#[]⟩, .string ⟨#[]⟩, .slice none 0 0], .bool false])) ∨ ∃ x a3 c3, l.find? (isFr s) = some x ∧ e = .returned (.tuple #[deV x a3 c3, .bool true]) ∧ SelRow 0 w.heap.size w a3 x.sels) ∧ Below w.heap.size w w' := by
  have HR : Hid (DeRow 0 w.heap.size w a l) := hr
  clear hr
  go_enter Try.func18, Try.ntmps18
  go_wp2_with fail
  obtain ⟨W, hW⟩ : ∃ W, W = (w.alloc (.cells #[.slice a l.length c] 33)).alloc (.cells #[.int .i64 0, .string ⟨#[]⟩, .string ⟨#[]⟩, .slice none 0 0] 28) := ⟨_, rfl⟩
  rw [← hW]
  have B0 : Below w.heap.size w W := by rw [hW]; exact ((Below.refl _ _).alloc (Nat.le_refl _) _).alloc (by simp) _
  have zW : W.heap.size = w.heap.size + 2 := by rw [hW]; simp
  have kW : ∀ o, W.cell? ⟨w.heap.size, o, none⟩ = (#[.slice a l.length c] : Array Value)[o]? := fun o => by
    rw [hW]
    refine (((Below.refl _ _).alloc (Nat.le_refl _) _).cell (p := ⟨w.heap.size, o, none⟩) (by simp)).trans (row_cell (heap_alloc_new _ _) o)
  have HJ : Hid (W.heap[w.heap.size + 1]? = some (.cells #[.int .i64 0, .string ⟨#[]⟩, .string ⟨#[]⟩, .slice none 0 0] 28 (0, 0))) := by
    unfold Hid
    rw [hW]
    have := heap_alloc_new (w.alloc (.cells #[.slice a l.length c] 33)) (.cells #[.int .i64 0, .string ⟨#[]⟩, .string ⟨#[]⟩, .slice none 0 0] 28)
    simpa using this
  clear hW
  go_loopw [6] (fun i w' => ∃ (k : Nat), k ≤ l.length ∧ i = .int .i64 k ∧ Below W.heap.size W w' ∧ Hid (∀ x ∈ l.take k, isFr s x = false)) (fun i _ => l.length - (intOf i).toNat)
  case atStart => exact ⟨0, by omega, rfl, Below.refl _ _, by simp [Hid]⟩
  case round =>
    obtain ⟨k, hk, rfl, hbw, HA⟩ := hrel
    have hbz := hbw.size
    have ks : wr.cell? ⟨w.heap.size, 0, none⟩ = some (.slice a l.length c) := (hbw.cell (p := ⟨w.heap.size, 0, none⟩) (show w.heap.size < W.heap.size by omega)).trans (kW 0)
    have HJr : Hid (wr.heap[w.heap.size + 1]? = _) := (hbw.block _ (by omega)).trans HJ.out
    have kr := fun o => row_cell HJr.out o
    have jr := fun o => row_frozen HJr.out o
    have Qr : Hid (Below w.heap.size w wr) := B0.trans (hbw.mono (by omega))
    have HBW : Hid _ := hbw
    by_cases hlt : k < l.length
    case neg =>
      have HN : Hid (l.find? (isFr s) = none) := find_no (by have := HA.out; rwa [List.take_of_length_le (by omega)] at this)
      clear hbw
      go_wp2_with fail
      refine bodyPost_ret (v := .tuple #[.agg #[.int .i64 0, .string ⟨#[]⟩, .string ⟨#[]⟩, .slice none 0 0], .bool false]) (by simp [results, Try.results18, go_sem, kr]) rfl ⟨.inl ⟨HN.out, rfl⟩, ?_⟩
      repeat (first | exact Qr.out | refine Below.setCell ?_ (by first | omega | (simp <;> omega)) _ | refine Below.alloc ?_ (by first | omega | (simp <;> omega)) _)
    obtain ⟨b, o, a3, c3, ha, _, hbl, d0, d1, d2, d3, r3⟩ := DeRow.cells (HR.out.keep (Below.agree Qr.out (Nat.le_refl _))) k hlt
    subst ha
    obtain ⟨b', o', a3', c3', ha, _, _, _, _, _, d3', r3'⟩ := DeRow.cells HR.out k hlt
    simp only [Option.some.injEq, Addr.mk.injEq, and_true] at ha
    obtain ⟨rfl, rfl⟩ := ha
    have e3 : a3' = a3 := by
      have := (Qr.out.cell (p := ⟨b, o + k * 4 + 3, none⟩) hbl).symm.trans d3
      rw [d3'] at this
      simp only [Option.some.injEq, Value.slice.injEq] at this
      exact this.1
    subst e3
    have R3 : Hid (SelRow 0 w.heap.size w a3' l[k].sels) := r3'
    clear r3 hbw r3' d3'
    cases h3 : (l[k].k == 3) with
    | false =>
      have HF : Hid (isFr s l[k] = false) := by unfold Hid isFr; rw [h3]; rfl
      go_wp2_with fail
      exact ⟨⟨k + 1, by omega, by go_num, HBW.out, isFr_take hlt HA.out HF.out⟩, by simp [intOf]; omega⟩
    | true =>
    cases h4 : (l[k].nm.toList == s.toList) with
    | false =>
      have HF : Hid (isFr s l[k] = false) := by unfold Hid isFr; rw [h3, h4]; rfl
      go_wp2_with fail
      exact ⟨⟨k + 1, by omega, by go_num, HBW.out, isFr_take hlt HA.out HF.out⟩, by simp [intOf]; omega⟩
    | true =>
    have HF : Hid (l.find? (isFr s) = some l[k]) := find_at hlt HA.out (by unfold isFr; rw [h3, h4]; rfl)
    go_wp2_with fail
    refine bodyPost_ret (v := .tuple #[deV l[k] a3' c3, .bool true]) (by simp [results, Try.results18, go_sem, kr, deV]) rfl ⟨.inr ⟨_, _, _, HF.out, rfl, R3.out⟩, ?_⟩
    repeat (first | exact Qr.out | refine Below.setCell ?_ (by first | omega | (simp <;> omega)) _ | refine Below.alloc ?_ (by first | omega | (simp <;> omega)) _)

set_option maxHeartbeats 4000000 in
set_option maxRecDepth 40000 in
theorem spec_fragOf (a : Option Addr) (c : Nat) (l : List De) (s : ByteArray) (w : World) (hr : DeRow 0 w.heap.size w a l) (hb : DefsBd 1048576 l) (hs : s.size ≤ 1048576) :
    Calls Try.prog 6 #[.agg #[.slice a l.length c], .string s] w fun e w' => SaysR w.heap.size w' (FrR l s) e ∧ Below w.heap.size w w' := by
  have K1 : Hid (∀ W0, Below w.heap.size w W0 → DeRow 0 W0.heap.size W0 a l) := fun W0 hB => DeRow.up hr hB
  have HB : Hid (DefsBd 1048576 l) := hb
  clear hr hb
  by_cases hls : 65536 < s.size
  · have HN : Hid (FrR l s de0 2) := .inl ⟨hls, rfl, rfl⟩
    go_enter Try.func6, Try.ntmps6
    go_wp2_with fail
    refine bodyPost_ret (v := .tuple #[.agg #[.int .i64 0, .string ⟨#[]⟩, .string ⟨#[]⟩, .slice none 0 0], .int .i64 2]) (by simp [results, Try.results6, go_sem]) rfl ⟨SaysR.zero HN.out, ?_⟩
    repeat (first | exact Below.refl _ _ | refine Below.setCell ?_ (by first | omega | (simp <;> omega)) _ | refine Below.alloc ?_ (by first | omega | (simp <;> omega)) _)
  go_enter Try.func6, Try.ntmps6
  go_wp2_with fail
  refine (spec_doc a c l _ (K1.out _ ?b0) HB.out.1 HB.out.2).mono ?_
  case b0 => repeat (first | exact Below.refl _ _ | refine Below.setCell ?_ (by first | omega | (simp <;> omega)) _ | refine Below.alloc ?_ (by first | omega | (simp <;> omega)) _)
  rintro e w1 ⟨rfl, hb1⟩
  have z1 : w.heap.size + 2 ≤ w1.heap.size := by have := hb1.size; simp at this; omega
  have Q1 : Hid (Below w.heap.size w w1) := by
    refine Below.trans ?_ (hb1.mono (by first | omega | (simp <;> omega)))
    repeat (first | exact Below.refl _ _ | refine Below.setCell ?_ (by first | omega | (simp <;> omega)) _ | refine Below.alloc ?_ (by first | omega | (simp <;> omega)) _)
  have k10 := fun o => hb1.cell (p := ⟨w.heap.size, o, none⟩) (by first | omega | (simp <;> omega))
  have k11 := fun o => hb1.cell (p := ⟨w.heap.size + 1, o, none⟩) (by first | omega | (simp <;> omega))
  have j11 := fun o => hb1.frozen (p := ⟨w.heap.size + 1, o, none⟩) (by first | omega | (simp <;> omega))
  clear hb1
  cases hdb : docB l with
  | false =>
    have HN : Hid (FrR l s de0 1) := .inr (.inl ⟨hls, hdb, rfl, rfl⟩)
    clear hdb
    go_wp2_with fail
    refine bodyPost_ret (v := .tuple #[.agg #[.int .i64 0, .string ⟨#[]⟩, .string ⟨#[]⟩, .slice none 0 0], .int .i64 1]) (by simp [results, Try.results6, go_sem, k11]) rfl ⟨SaysR.zero HN.out, ?_⟩
    repeat (first | exact Q1.out | refine Below.setCell ?_ (by first | omega | (simp <;> omega)) _ | refine Below.alloc ?_ (by first | omega | (simp <;> omega)) _)
  | true =>
  have HDB : Hid (docB l = true) := hdb
  clear hdb
  go_wp2_with fail
  refine (spec_fragment a c l s _ (K1.out _ Q1.out) HB.out.1).mono ?_
  rintro e w2 ⟨hf, hb2⟩
  have z2 := hb2.size
  have Q2 : Hid (Below w.heap.size w w2) := Q1.out.trans (hb2.mono (by omega))
  have B2 : Hid (Below w1.heap.size w1 w2) := hb2
  have k21 := fun o => hb2.cell (p := ⟨w.heap.size + 1, o, none⟩) (show w.heap.size + 1 < w1.heap.size by omega)
  have j21 := fun o => hb2.frozen (p := ⟨w.heap.size + 1, o, none⟩) (show w.heap.size + 1 < w1.heap.size by omega)
  clear hb2
  rcases hf with ⟨hf, rfl⟩ | ⟨x, a3, c3, hf, rfl, r3⟩
  · have HN : Hid (FrR l s de0 5) := .inr (.inr (.inl ⟨hls, HDB.out, hf, rfl, rfl⟩))
    clear hf
    have kA := fun ob o => ((Below.refl w2.heap.size w2).alloc (Nat.le_refl _) ob).cell (p := ⟨w.heap.size + 1, o, none⟩) (show w.heap.size + 1 < w2.heap.size by omega)
    have jA := fun ob o => ((Below.refl w2.heap.size w2).alloc (Nat.le_refl _) ob).frozen (p := ⟨w.heap.size + 1, o, none⟩) (show w.heap.size + 1 < w2.heap.size by omega)
    go_wp2_with fail
    refine bodyPost_ret (v := .tuple #[.agg #[.int .i64 0, .string ⟨#[]⟩, .string ⟨#[]⟩, .slice none 0 0], .int .i64 5]) (by simp [results, Try.results6, go_sem, kA, k21, k11]) rfl ⟨SaysR.zero HN.out, ?_⟩
    repeat (first | exact Q2.out | refine Below.setCell ?_ (by first | omega | (simp <;> omega)) _ | refine Below.alloc ?_ (by first | exact Q2.out.size | omega | (simp <;> omega)) _)
  · have HF : Hid (FrR l s x 0) := .inr (.inr (.inr ⟨hls, HDB.out, hf, rfl⟩))
    have HX : Hid (DeBd 1048576 x) := HB.out.2 x (List.mem_of_find?_eq_some hf)
    have R3 : Hid (∀ W0, Below w2.heap.size w2 W0 → SelRow 0 W0.heap.size W0 a3 x.sels) := fun W0 hB => SelRow.up (SelRow.up r3 B2.out) hB
    clear hf r3
    unfold deV
    go_wp2_with fail
    refine (own_def x a3 c3 _ (R3.out _ ?b0) HX.out).mono ?_
    case b0 => repeat (first | exact Below.refl _ _ | refine Below.alloc ?_ (by first | omega | (simp <;> omega)) _)
    rintro e w3 ⟨b3, f3, rfl, A3, hb3⟩
    have z3 : w2.heap.size + 1 ≤ w3.heap.size := by have := hb3.size; simpa using this
    have A3 : Hid (SelRow (w.heap.size + 2) w3.heap.size w3 b3 x.sels) := SelRow.wide A3 (by first | omega | (simp <;> omega)) (Nat.le_refl _)
    have P3 : Below w2.heap.size w2 w3 := ((Below.refl _ _).alloc (Nat.le_refl _) _).trans (hb3.mono (by simp))
    have k31 := fun o => P3.cell (p := ⟨w.heap.size + 1, o, none⟩) (show w.heap.size + 1 < w2.heap.size by omega)
    have j31 := fun o => P3.frozen (p := ⟨w.heap.size + 1, o, none⟩) (show w.heap.size + 1 < w2.heap.size by omega)
    have Q3 : Hid (Below w.heap.size w w3) := Q2.out.trans (P3.mono (by omega))
    clear hb3 P3
    go_wp2_with fail
    refine bodyPost_ret (v := .tuple #[deV x b3 f3, .int .i64 0]) (by simp [results, Try.results6, go_sem, k31, k21, k11, deV]) rfl ?_
    have G : ∀ W' : World, W'.heap.size = w3.heap.size → Agree (w.heap.size + 2) w3.heap.size w3 W' → Below w.heap.size w W' → SaysR w.heap.size W' (FrR l s) (.returned (.tuple #[deV x b3 f3, .int .i64 0])) ∧ Below w.heap.size w W' :=
      fun W' hw ha hB => ⟨⟨_, _, _, _, rfl, HF.out, SelRow.wide (SelRow.keep A3.out ha) (by omega) (by omega)⟩, hB⟩
    refine G _ (by simp) ?_ ?_
    · intro g h1 h2
      repeat rw [heap_set _ _ _ _ _ (by omega)]
    · repeat (refine Below.setCell ?_ (by first | omega | (simp <;> omega)) _)
      exact Q3.out
end Go.Proofs.Ytibmddgmgljnbaa
