/- The fields of a set, inline ones and spreads put in their places: the program's. -/
import Derived.Test.YtkjndghkimnjeaaGreatSchFind
import Derived.Test.YtkjndghkimnjeaaGreatVaMath
import Derived.Test.YtkjndghkimnjeaaGreatVaApp
import Derived.Test.YtkjndghkimnjeaaGreatVaLim
namespace Go.Proofs.YtkjndghkimnjeaaGreat.G
open Go.ChangeShapes Go.WideShapes Go.ChangeAt Go.RowKit Go.Maps
set_option linter.unusedVariables false

abbrev bQu : ByteArray := ⟨#[81, 117, 101, 114, 121]⟩
abbrev bIn : ByteArray := ⟨#[73, 110, 116]⟩
abbrev bTn : ByteArray := ⟨#[95, 95, 116, 121, 112, 101, 110, 97, 109, 101]⟩
def isIn (s : ByteArray) : Bool := s.toList == [73, 110, 116]
def FdOK (ts : List ByteArray) (f : Fd) : Prop := (isIn f.ty = true ∨ seen ts f.ty = true) ∧ f.args.length ≤ 4 ∧ OkN (f.args.map Ag.nm)
def TdOK (ts : List ByteArray) (x : Td) : Prop := 1 ≤ x.fs.length ∧ x.fs.length ≤ 10 ∧ OkN (x.fs.map Fd.nm) ∧ seen (x.fs.map Fd.nm) bTn = false ∧ ∀ f ∈ x.fs, FdOK ts f
def SchOK (l : List Td) : Prop := 1 ≤ l.length ∧ l.length ≤ 8 ∧ seen (l.map Td.nm) bQu = true ∧ seen (l.map Td.nm) bIn = false ∧ OkN (l.map Td.nm) ∧ ∀ x ∈ l, TdOK (l.map Td.nm) x
/-- What a Bool says. -/
def Bl (p : Prop) (b : Bool) : Prop := (b = true ∧ p) ∨ (b = false ∧ ¬ p)
theorem Bl.one {p : Prop} {a b : Bool} (h : Bl p a) (k : Bl p b) : a = b := by
  rcases h with ⟨rfl, h⟩ | ⟨rfl, h⟩ <;> rcases k with ⟨rfl, k⟩ | ⟨rfl, k⟩ <;> first | rfl | exact absurd h k | exact absurd k h
def Says (p : Prop) (e : Ending) : Prop := ∃ b, e = .returned (.bool b) ∧ Bl p b
theorem Says.yes {p : Prop} (h : p) : Says p (.returned (.bool true)) := ⟨_, rfl, .inl ⟨rfl, h⟩⟩
theorem Says.no {p : Prop} (h : ¬ p) : Says p (.returned (.bool false)) := ⟨_, rfl, .inr ⟨rfl, h⟩⟩
theorem size_bQu : bQu.size ≤ maxLen := by decide
theorem size_bIn : bIn.size ≤ maxLen := by decide
theorem size_bTn : bTn.size ≤ maxLen := by decide
theorem Bd_nm {m : Nat} {l : List Fd} (h : ∀ x ∈ l, FdBd m x) : ∀ x ∈ l, x.nm.size ≤ m := fun x hx => (h x hx).1
theorem Bd_nmT {m : Nat} {l : List Td} (h : ∀ x ∈ l, TdBd m x) : ∀ x ∈ l, x.nm.size ≤ m := fun x hx => (h x hx).1

set_option maxHeartbeats 2000000 in
set_option maxRecDepth 40000 in
theorem impl_field (f : Fd) (a3 : Option Addr) (c3 B : Nat) (ts : List ByteArray) (w : World) (hr : AgRow 0 w.heap.size w a3 f.args) (hb : FdBd 1048576 f) (hh : Held w B ts) :
    Calls Tryz.prog 119 #[.agg #[.string f.nm, .slice a3 f.args.length c3, .string f.ty, .bool f.ls, .bool f.bg], .map (some B)] w fun e w' => Says (FdOK ts f) e ∧ Below w.heap.size w w' := by
  obtain ⟨x1, ⟨x2, x3⟩, x4⟩ := hb
  have B0 : Hid (Below w.heap.size w (w.alloc (.cells #[.string f.nm, .slice a3 f.args.length c3, .string f.ty, .bool f.ls, .bool f.bg] 90))) := (Below.refl _ _).alloc (Nat.le_refl _) _
  have K1 : Hid (∀ W0, Below w.heap.size w W0 → AgRow 0 W0.heap.size W0 a3 f.args) := fun W0 hB => AgRow.up hr hB
  have K2 : Hid (∀ W0, Below w.heap.size w W0 → Held W0 B ts) := fun W0 hB => hh.keep hB hh.lt
  have HX : Hid (∀ x ∈ f.args, x.nm.size ≤ 1048576) := x3
  have sx : f.ty.size ≤ maxLen := by unfold maxLen; omega
  clear hr hh x3
  by_cases h4 : 4 < f.args.length
  · have HN : Hid (¬ FdOK ts f) := fun h => by have := h.2.1; omega
    go_enter Tryz.func119, Tryz.ntmps119
    go_wp2_with fail
    go_ret
    exact ⟨Says.no HN.out, B0.out⟩
  cases hi : isIn f.ty
  · have hi2 : (f.ty.toList == [73, 110, 116]) = false := hi
    go_enter Tryz.func119, Tryz.ntmps119
    go_wp2_with fail
    refine (impl_has B ts f.ty _ (K2.out _ B0.out) sx).mono ?_
    cases hs : seen ts f.ty
    · rintro e w1 ⟨rfl, hb1⟩
      have HN : Hid (¬ FdOK ts f) := fun h => by rcases h.1 with h | h <;> simp_all
      go_wp2_with fail
      go_ret
      exact ⟨Says.no HN.out, below_one hb1⟩
    rintro e w1 ⟨rfl, hb1⟩
    have k0 := fun o => hb1.cell (p := ⟨w.heap.size, o, none⟩) (by simp)
    have Q1 : Hid (Below w.heap.size w w1) := below_one hb1
    clear hb1
    go_wp2_with fail
    refine (impl_places_Ag a3 c3 f.args _ (K1.out _ Q1.out) x2 HX.out).mono ?_
    rintro e w2 ⟨hb2, ⟨C, rfl, h1, _, _⟩ | ⟨rfl, h1⟩⟩
    · have HN : Hid (FdOK ts f) := ⟨.inr hs, by omega, h1⟩
      go_wp2_with fail
      go_ret
      exact ⟨Says.yes HN.out, Q1.out.trans (hb2.mono Q1.out.size)⟩
    · have HN : Hid (¬ FdOK ts f) := fun h => h1 h.2.2
      go_wp2_with fail
      go_ret
      exact ⟨Says.no HN.out, Q1.out.trans (hb2.mono Q1.out.size)⟩
  · have hi2 : (f.ty.toList == [73, 110, 116]) = true := hi
    go_enter Tryz.func119, Tryz.ntmps119
    go_wp2_with fail
    refine (impl_places_Ag a3 c3 f.args _ (K1.out _ B0.out) x2 HX.out).mono ?_
    rintro e w2 ⟨hb2, ⟨C, rfl, h1, _, _⟩ | ⟨rfl, h1⟩⟩
    · have HN : Hid (FdOK ts f) := ⟨.inl hi, by omega, h1⟩
      go_wp2_with fail
      go_ret
      exact ⟨Says.yes HN.out, below_one hb2⟩
    · have HN : Hid (¬ FdOK ts f) := fun h => h1 h.2.2
      go_wp2_with fail
      go_ret
      exact ⟨Says.no HN.out, below_one hb2⟩

set_option maxHeartbeats 2000000 in
set_option maxRecDepth 40000 in
theorem impl_type (x : Td) (a3 : Option Addr) (c3 B : Nat) (ts : List ByteArray) (w : World) (hr : FdRow 0 w.heap.size w a3 x.fs) (hb : TdBd 1048576 x) (hh : Held w B ts) :
    Calls Tryz.prog 93 #[.agg #[.string x.nm, .slice a3 x.fs.length c3], .map (some B)] w fun e w' => Says (TdOK ts x) e ∧ Below w.heap.size w w' := by
  obtain ⟨x1, ⟨x2, x3⟩⟩ := hb
  have B0 : Hid (Below w.heap.size w (w.alloc (.cells #[.string x.nm, .slice a3 x.fs.length c3] 93))) := (Below.refl _ _).alloc (Nat.le_refl _) _
  have K1 : Hid (∀ W0, Below w.heap.size w W0 → FdRow 0 W0.heap.size W0 a3 x.fs) := fun W0 hB => FdRow.up hr hB
  have K2 : Hid (∀ W0, Below w.heap.size w W0 → Held W0 B ts) := fun W0 hB => hh.keep hB hh.lt
  have HX : Hid (∀ f ∈ x.fs, FdBd 1048576 f) := x3
  have HR : Hid (FdRow 0 w.heap.size w a3 x.fs) := hr
  clear hr hh x3
  by_cases g1 : x.fs.length < 1
  · have HN : Hid (¬ TdOK ts x) := fun h => by have := h.1; omega
    go_enter Tryz.func93, Tryz.ntmps93
    go_wp2_with fail
    go_ret
    exact ⟨Says.no HN.out, B0.out⟩
  by_cases g2 : 10 < x.fs.length
  · have HN : Hid (¬ TdOK ts x) := fun h => by have := h.2.1; omega
    go_enter Tryz.func93, Tryz.ntmps93
    go_wp2_with fail
    go_ret
    exact ⟨Says.no HN.out, B0.out⟩
  go_enter Tryz.func93, Tryz.ntmps93
  go_wp2_with fail
  refine (impl_places_Fd a3 c3 x.fs _ (K1.out _ B0.out) x2 (Bd_nm HX.out)).mono ?_
  rintro e w1 ⟨hb1, ⟨C, rfl, h1, hC, h2⟩ | ⟨rfl, h1⟩⟩
  case inr =>
    have HN : Hid (¬ TdOK ts x) := fun h => h1 h.2.2.1
    go_wp2_with fail
    go_ret
    exact ⟨Says.no HN.out, below_one hb1⟩
  have k1 := fun o => hb1.cell (p := ⟨w.heap.size, o, none⟩) (by simp)
  have z1 := size_one hb1
  have Q1 : Hid (Below w.heap.size w w1) := below_one hb1
  have H1 : Hid (OkN (x.fs.map Fd.nm)) := h1
  have H2 : Hid (Held w1 C (x.fs.map Fd.nm)) := h2
  clear hb1 h1 h2 hC
  go_wp2_with fail
  refine (impl_has C (x.fs.map Fd.nm) bTn _ H2.out size_bTn).mono ?_
  cases hs : seen (x.fs.map Fd.nm) bTn
  case true =>
    rintro e w2 ⟨rfl, hb2⟩
    have HN : Hid (¬ TdOK ts x) := fun h => by have := h.2.2.2.1; rw [hs] at this; cases this
    go_wp2_with fail
    go_ret
    exact ⟨Says.no HN.out, Q1.out.trans (hb2.mono Q1.out.size)⟩
  rintro e w2 ⟨rfl, hb2⟩
  have k2 := fun o => (hb2.cell (p := ⟨w.heap.size, o, none⟩) (by first | omega | (simp <;> omega))).trans (k1 o)
  have Q2 : Below w.heap.size w w2 := Q1.out.trans (hb2.mono Q1.out.size)
  clear hb2 k1
  go_wp2_with fail
  go_loopw [34] (fun i w' => ∃ (k : Nat), k ≤ x.fs.length ∧ i = .int .i64 k ∧ Below w.heap.size w w' ∧ Hid (∀ f ∈ x.fs.take k, FdOK ts f)) (fun i _ => x.fs.length - (intOf i).toNat)
  case atStart => exact ⟨0, by omega, rfl, Q2, by simp [Hid]⟩
  case round =>
    rename_i wr
    clear k2 Q2
    obtain ⟨k, hk, rfl, hb, HA⟩ := hrel
    by_cases hlt : k < x.fs.length
    · obtain ⟨b, o, a5, c5, ha, _, hbl, d0, d1, d2, d3, d4, r3⟩ := FdRow.cells (FdRow.keep HR.out (agree hb (Nat.le_refl _))) k hlt
      subst ha
      have HY : Hid (FdBd 1048576 x.fs[k]) := HX.out x.fs[k] (List.getElem_mem hlt)
      have K3 : Hid (∀ W0, Below wr.heap.size wr W0 → AgRow 0 W0.heap.size W0 a5 x.fs[k].args) := fun W0 hB => AgRow.up (AgRow.wide r3 (Nat.le_refl _) hb.size) hB
      clear r3
      go_wp2_with fail
      refine Calls.mono (impl_field x.fs[k] a5 c5 B ts _ (K3.out _ ?b0) HY.out (K2.out _ ?b1)) ?_
      case b0 => repeat (first | exact Below.refl _ _ | refine Below.setCell ?_ (by first | omega | (simp <;> omega)) _ | refine Below.alloc ?_ (by first | omega | (simp <;> omega)) _)
      case b1 =>
        refine hb.trans ?_
        repeat (first | exact Below.refl _ _ | refine Below.setCell ?_ (by have := hb.size; first | omega | (simp <;> omega)) _ | refine Below.alloc ?_ (by have := hb.size; first | omega | (simp <;> omega)) _)
      rintro e w3 ⟨⟨bb, rfl, ⟨rfl, hf⟩ | ⟨rfl, hf⟩⟩, hb3⟩
      · skip
        have q3 : Hid (Below w.heap.size w w3) := by
          refine hb.trans (Below.trans ?_ (hb3.mono (by have := hb.size; first | omega | (simp <;> omega))))
          repeat (first | exact Below.refl _ _ | refine Below.setCell ?_ (by have := hb.size; first | omega | (simp <;> omega)) _ | refine Below.alloc ?_ (by have := hb.size; first | omega | (simp <;> omega)) _)
        have HA2 : Hid _ := all_take hlt HA.out hf
        clear hb3
        go_wp2_with fail
        go_roundw
        case rel => exact ⟨k + 1, by omega, by go_num, q3.out, HA2⟩
        case measure => simp [intOf]; omega
      · skip
        have q3 : Hid (Below w.heap.size w w3) := by
          refine hb.trans (Below.trans ?_ (hb3.mono (by have := hb.size; first | omega | (simp <;> omega))))
          repeat (first | exact Below.refl _ _ | refine Below.setCell ?_ (by have := hb.size; first | omega | (simp <;> omega)) _ | refine Below.alloc ?_ (by have := hb.size; first | omega | (simp <;> omega)) _)
        have HN : Hid (¬ TdOK ts x) := fun h => hf (h.2.2.2.2 _ (List.getElem_mem hlt))
        clear hb3
        go_wp2_with fail
        go_ret
        exact ⟨Says.no HN.out, q3.out⟩
    · have HN : Hid (TdOK ts x) := by
        have h9 := HA.out
        rw [List.take_of_length_le (by omega)] at h9
        exact ⟨by omega, by omega, H1.out, hs, h9⟩
      go_wp2_with fail
      go_ret
      exact ⟨Says.yes HN.out, hb⟩

set_option maxHeartbeats 2000000 in
set_option maxRecDepth 40000 in
theorem impl_schema (a : Option Addr) (c : Nat) (l : List Td) (w : World) (hr : TdRow 0 w.heap.size w a l) (hb : TdsBd 1048576 l) :
    Calls Tryz.prog 54 #[.agg #[.slice a l.length c]] w fun e w' => Says (SchOK l) e ∧ Below w.heap.size w w' := by
  obtain ⟨x2, x3⟩ := hb
  have B0 : Hid (Below w.heap.size w (w.alloc (.cells #[.slice a l.length c] 59))) := (Below.refl _ _).alloc (Nat.le_refl _) _
  have K1 : Hid (∀ W0, Below w.heap.size w W0 → TdRow 0 W0.heap.size W0 a l) := fun W0 hB => TdRow.up hr hB
  have HX : Hid (∀ x ∈ l, TdBd 1048576 x) := x3
  have HR : Hid (TdRow 0 w.heap.size w a l) := hr
  clear hr x3
  by_cases g2 : 8 < l.length
  · have HN : Hid (¬ SchOK l) := fun h => by have := h.2.1; omega
    go_enter Tryz.func54, Tryz.ntmps54
    go_wp2_with fail
    go_ret
    exact ⟨Says.no HN.out, B0.out⟩
  go_enter Tryz.func54, Tryz.ntmps54
  go_wp2_with fail
  refine (impl_places_Td a c l _ (K1.out _ B0.out) x2 (Bd_nmT HX.out)).mono ?_
  rintro e w1 ⟨hb1, ⟨C, rfl, h1, hC, h2⟩ | ⟨rfl, h1⟩⟩
  case inr =>
    have HN : Hid (¬ SchOK l) := fun h => h1 h.2.2.2.2.1
    go_wp2_with fail
    go_ret
    exact ⟨Says.no HN.out, below_one hb1⟩
  have k1 := fun o => hb1.cell (p := ⟨w.heap.size, o, none⟩) (by simp)
  have z1 := size_one hb1
  have Q1 : Hid (Below w.heap.size w w1) := below_one hb1
  have H1 : Hid (OkN (l.map Td.nm)) := h1
  have H2 : Hid (Held w1 C (l.map Td.nm)) := h2
  have hC2 : w.heap.size + 1 ≤ C := by simpa using hC
  clear hb1 h1 h2 hC
  go_wp2_with fail
  refine (impl_has C (l.map Td.nm) bQu _ H2.out size_bQu).mono ?_
  cases hq : seen (l.map Td.nm) bQu
  · rintro e w2 ⟨rfl, hb2⟩
    have HN : Hid (¬ SchOK l) := fun h => by have := h.2.2.1; rw [hq] at this; cases this
    go_wp2_with fail
    go_ret
    exact ⟨Says.no HN.out, Q1.out.trans (hb2.mono Q1.out.size)⟩
  rintro e w2 ⟨rfl, hb2⟩
  have k2 := fun o => (hb2.cell (p := ⟨w.heap.size, o, none⟩) (by first | omega | (simp <;> omega))).trans (k1 o)
  have H3 : Hid (Held w2 C (l.map Td.nm)) := H2.out.keep hb2 H2.out.lt
  have Q2 : Hid (Below w.heap.size w w2) := Q1.out.trans (hb2.mono Q1.out.size)
  have z2 : w.heap.size + 1 ≤ w2.heap.size := by have := hb2.size; omega
  clear hb2 k1
  go_wp2_with fail
  refine (impl_has C (l.map Td.nm) bIn _ H3.out size_bIn).mono ?_
  cases hi : seen (l.map Td.nm) bIn
  case true =>
    rintro e w3 ⟨rfl, hb3⟩
    have HN : Hid (¬ SchOK l) := fun h => by have := h.2.2.2.1; rw [hi] at this; cases this
    go_wp2_with fail
    go_ret
    exact ⟨Says.no HN.out, Q2.out.trans (hb3.mono Q2.out.size)⟩
  rintro e w3 ⟨rfl, hb3⟩
  have k3 := fun o => (hb3.cell (p := ⟨w.heap.size, o, none⟩) (by first | omega | (simp <;> omega))).trans (k2 o)
  have H4 : Hid (Held w3 C (l.map Td.nm)) := H3.out.keep hb3 H3.out.lt
  have Q3 : Below w.heap.size w w3 := Q2.out.trans (hb3.mono Q2.out.size)
  clear hb3 k2
  have hCl := H4.out.lt
  go_wp2_with fail
  go_loopw [31] (fun i w' => ∃ (k : Nat), k ≤ l.length ∧ i = .int .i64 k ∧ Below w.heap.size w w' ∧ Hid (Held w' C (l.map Td.nm)) ∧ Hid (∀ x ∈ l.take k, TdOK (l.map Td.nm) x)) (fun i _ => l.length - (intOf i).toNat)
  case atStart => exact ⟨0, by omega, rfl, Q3, H4, by simp [Hid]⟩
  case round =>
    rename_i wr
    clear k3 Q3
    obtain ⟨k, hk, rfl, hb, HC, HA⟩ := hrel
    by_cases hlt : k < l.length
    · obtain ⟨b, o, a5, c5, ha, _, hbl, d0, d1, r3⟩ := TdRow.cells (TdRow.keep HR.out (agree hb (Nat.le_refl _))) k hlt
      subst ha
      have HY : Hid (TdBd 1048576 l[k]) := HX.out l[k] (List.getElem_mem hlt)
      have K3 : Hid (∀ W0, Below wr.heap.size wr W0 → FdRow 0 W0.heap.size W0 a5 l[k].fs) := fun W0 hB => FdRow.up (FdRow.wide r3 (Nat.le_refl _) hb.size) hB
      have K4 : Hid (∀ W0, Below wr.heap.size wr W0 → Held W0 C (l.map Td.nm)) := fun W0 hB => HC.out.keep hB HC.out.lt
      clear r3
      go_wp2_with fail
      refine Calls.mono (impl_type l[k] a5 c5 C (l.map Td.nm) _ (K3.out _ ?b0) HY.out (K4.out _ ?b1)) ?_
      case b0 => repeat (first | exact Below.refl _ _ | refine Below.setCell ?_ (by first | omega | (simp <;> omega)) _ | refine Below.alloc ?_ (by first | omega | (simp <;> omega)) _)
      case b1 => repeat (first | exact Below.refl _ _ | refine Below.setCell ?_ (by first | omega | (simp <;> omega)) _ | refine Below.alloc ?_ (by first | omega | (simp <;> omega)) _)
      rintro e w4 ⟨⟨bb, rfl, ⟨rfl, hf⟩ | ⟨rfl, hf⟩⟩, hb4⟩
      · skip
        have p4 : Below wr.heap.size wr w4 := by
          refine Below.trans ?_ (hb4.mono (by first | omega | (simp <;> omega)))
          repeat (first | exact Below.refl _ _ | refine Below.setCell ?_ (by first | omega | (simp <;> omega)) _ | refine Below.alloc ?_ (by first | omega | (simp <;> omega)) _)
        have HC4 : Hid _ := K4.out _ p4
        have q4 : Hid (Below w.heap.size w w4) := hb.trans (p4.mono hb.size)
        have HA2 : Hid _ := all_take hlt HA.out hf
        clear hb4 p4
        go_wp2_with fail
        go_roundw
        case rel => exact ⟨k + 1, by omega, by go_num, q4.out, HC4, HA2⟩
        case measure => simp [intOf]; omega
      · skip
        have p4 : Below wr.heap.size wr w4 := by
          refine Below.trans ?_ (hb4.mono (by first | omega | (simp <;> omega)))
          repeat (first | exact Below.refl _ _ | refine Below.setCell ?_ (by first | omega | (simp <;> omega)) _ | refine Below.alloc ?_ (by first | omega | (simp <;> omega)) _)
        have q4 : Hid (Below w.heap.size w w4) := hb.trans (p4.mono hb.size)
        have HN : Hid (¬ SchOK l) := fun h => hf (h.2.2.2.2.2 _ (List.getElem_mem hlt))
        clear hb4 p4
        go_wp2_with fail
        go_ret
        exact ⟨Says.no HN.out, q4.out⟩
    · have HN : Hid (SchOK l) := by
        have h9 := HA.out
        rw [List.take_of_length_le (by omega)] at h9
        refine ⟨?_, by omega, hq, hi, H1.out, h9⟩
        cases l with
        | nil => cases hq
        | cons _ _ => simp
      go_wp2_with fail
      go_ret
      exact ⟨Says.yes HN.out, hb⟩
end Go.Proofs.YtkjndghkimnjeaaGreat.G
namespace Go.Proofs.YtkjndghkimnjeaaGreat
open Go.ChangeShapes Go.WideShapes Go.ChangeAt Go.RowKit
set_option linter.unusedVariables false

def isTn (s : ByteArray) : Bool := s.toList == [95, 95, 116, 121, 112, 101, 110, 97, 109, 101]
def fdTn : G.Fd := ⟨G.bTn, [], G.bIn, false, false⟩
def fd0 : G.Fd := ⟨⟨#[]⟩, [], ⟨#[]⟩, false, false⟩
def td0 : G.Td := ⟨⟨#[]⟩, []⟩
def fldOf (t : G.Td) (n : ByteArray) : Option G.Fd := if isTn n = true then some fdTn else t.fs.find? fun f => f.nm.toList == n.toList
def tdIn (S : List G.Td) (n : ByteArray) : Option G.Td := S.find? fun t => t.nm.toList == n.toList
def dirB (x : Di) : Bool := (x.v.k == 2) || (x.v.k == 4)
def frOK (D : List De) (n tn : ByteArray) : Bool := match D.find? (isFr n) with
  | none => false
  | some f => f.on.toList == tn.toList
def inlOK (n tn : ByteArray) : Bool := (n.toList == []) || (n.toList == tn.toList)
def fitB (v : Va) (need : Bool) : Bool := (v.k == 1) || (v.k == 4) || ((v.k == 3) && !need)
def argB (f : G.Fd) (x : Ar) : Bool := f.args.any fun d => (d.nm.toList == x.nm.toList) && fitB x.v d.need
def seenA (l : List Ar) (n : ByteArray) : Bool := l.any fun a => a.nm.toList == n.toList
def argsN (f : G.Fd) : List Ar → List Ar → Bool
  | _, [] => true
  | ahead, x :: l => !seenA ahead x.nm && argB f x && argsN f (ahead ++ [x]) l
def needsB (f : G.Fd) (l : List Ar) : Bool := f.args.all fun d => !d.need || seenA l d.nm
/-- A field's own code. -/
def fldC (f : G.Fd) (args : List Ar) (none : Bool) : Int :=
  if argsN f [] args = false then 10 else if needsB f args = false then 10 else if (G.isIn f.ty != none) = true then 11 else 0
/-- One selection's code, without what is in it. -/
def selC (D : List De) (t : G.Td) (h : Hd) (none : Bool) : Int :=
  if h.dirs.all dirB = false then 10
  else if (h.k == 2) = true then (if frOK D h.nm t.nm = true then 0 else 12)
  else if (h.k == 3) = true then (if inlOK h.nm t.nm = true then 0 else 12)
  else match fldOf t h.nm with
    | Option.none => 9
    | some f => fldC f h.args none
/-- The type of what is in a selection. -/
def inT (S : List G.Td) (t : G.Td) (h : Hd) : G.Td := if (h.k == 1) = true then (match fldOf t h.nm with
    | Option.none => td0
    | some f => (tdIn S f.ty).getD td0) else t
def setC (S : List G.Td) (D : List De) : G.Td → Sels → Int
  | _, .nil => 0
  | t, .cons h sub rest => if selC D t h sub.isNil = 0 then (if setC S D (inT S t h) sub = 0 then setC S D t rest else setC S D (inT S t h) sub) else selC D t h sub.isNil
def tyNm (x : De) : ByteArray := if x.k = 1 then ⟨#[81, 117, 101, 114, 121]⟩ else if x.k = 2 then ⟨#[77, 117, 116, 97, 116, 105, 111, 110]⟩ else x.on
def defC (S : List G.Td) (D : List De) (x : De) : Int := match tdIn S (tyNm x) with
  | none => 12
  | some t => setC S D t x.sels
def docC (S : List G.Td) (D : List De) : List De → Int
  | [] => 0
  | x :: l => if defC S D x = 0 then docC S D l else defC S D x
/-- Each of the fragments by name is the first of its name. -/
theorem frs_find (l : List De) : ∀ x ∈ frsOf l, l.find? (isFr x.nm) = some x := by
  refine foldl_snoc_ind (P := fun l => ∀ x ∈ frsOf l, l.find? (isFr x.nm) = some x) (by simp [frsOf]) ?_ l
  intro l y ih x hx
  rw [frs_snoc] at hx
  rw [List.find?_append]
  unfold addFr at hx
  split at hx
  · rename_i hc
    rcases List.mem_append.1 hx with hx | hx
    · rw [ih x hx]; rfl
    · simp only [List.mem_singleton] at hx
      subst hx
      simp only [Bool.and_eq_true, Bool.not_eq_true'] at hc
      have h0 : l.find? (isFr x.nm) = none := by
        rw [List.find?_eq_none]
        intro z hz hf
        have h1 := frs_any l x.nm
        rw [hc.2] at h1
        have : l.any (isFr x.nm) = true := List.any_eq_true.2 ⟨z, hz, hf⟩
        rw [← h1] at this; cases this
      rw [h0]
      have : isFr x.nm x = true := by unfold isFr; rw [hc.1]; simp
      simp [this]
  · rw [ih x hx]; rfl
theorem frs_none {l : List De} {n : ByteArray} (h : hasNm (frsOf l) n = false) : l.find? (isFr n) = none := by
  rw [List.find?_eq_none]
  intro z hz hf
  rw [frs_any] at h
  have : l.any (isFr n) = true := List.any_eq_true.2 ⟨z, hz, hf⟩
  rw [h] at this; cases this
theorem isFr_same {x : De} {n : ByteArray} (h : (x.nm.toList == n.toList) = true) : isFr x.nm = isFr n := by
  rw [beq_iff_eq] at h
  funext z; unfold isFr; rw [h]
end Go.Proofs.YtkjndghkimnjeaaGreat
namespace Go.Proofs.YtkjndghkimnjeaaGreat
open Go.ChangeShapes Go.WideShapes Go.ChangeAt Go.RowKit Go.Maps
open Go.WideMaps (keyOf_string_mk)
set_option linter.unusedVariables false

theorem wpList_lookup_plain {P : Program} (w : World) {ops : Array Oper} {rest : List Oper} {o : Oper} {a : Act} {Q : Exit → Act → World → Prop} (hg : o.guard = none) (m x : Operand) (t : TypeId) (hop : o.op = Op.lookup t m x false)
    (k e : TypeId) (K : Keyed P k) (ht : P.underlying t = some (.map k e)) {z : Value} (hz : (zeroValue e).run P w = .ok z w) (b n : Nat) (D : DataW Value)
    (hm : a.eval m = .map (some b)) (hown : w.ownsMap P k heldE b n D) (key : Value) (kl : Lit) (hx : a.eval x = key) (hkey : keyOf P k key = some kl) (u : Value) (hu : D.atKey kl (.held z) = .held u)
    (hK : wpList P ops Q rest (a.put o.dst u) w) : wpList P ops Q (o :: rest) a w := by
  refine wpList_plain hg fun K' hK' => ?_
  obtain ⟨es, clock, hb, F, _, rfl⟩ := hown
  unfold Oper.wp
  rcases Maps.fit_look false K ht hz hb F hkey with ⟨hrun, _, hat⟩ | ⟨e0, y, _, _, hrun, hRv, hat, _⟩
  · rw [hat (.held z)] at hu
    simp only [DataW.held.injEq] at hu
    subst hu
    simp [execOp, hop, hm, hx, hrun, Result.andThen]
    exact hK' _ _ hK
  · rw [hat (.held z)] at hu
    simp only [heldE, Option.some.injEq] at hRv
    rw [← hRv] at hu
    simp only [DataW.held.injEq] at hu
    subst hu
    simp [execOp, hop, hm, hx, hrun, Result.andThen]
    exact hK' _ _ hK
theorem fld_def (k : Int) (nm on : ByteArray) (a : Option Addr) (n c : Nat) (w : World) : (Instr.field 78 (.agg #[.int .i64 k, .string nm, .string on, .slice a n c]) 3).run Tryz.prog w = .ok (.slice a n c) w := by kernel_rfl
theorem frS_of {l : List De} {n : ByteArray} {x : De} (hx : x ∈ frsOf l) (he : (x.nm.toList == n.toList) = true) : frS l n = x.sels := by
  unfold frS
  rw [← isFr_same he, frs_find l x hx]
theorem frS_no {l : List De} {n : ByteArray} (h : hasNm (frsOf l) n = false) : frS l n = .nil := by
  unfold frS
  rw [frs_none h]
theorem ownsMap_same {w w' : World} {P : Program} {k : TypeId} {b n : Nat} {D : DataW Value} (h : w.ownsMap P k heldE b n D) (hb : w'.heap[b]? = w.heap[b]?) : w'.ownsMap P k heldE b n D := by
  obtain ⟨es, clock, h1, h2⟩ := h
  exact ⟨es, clock, hb.trans h1, h2⟩
set_option maxHeartbeats 2000000 in
set_option maxRecDepth 40000 in
theorem within_spread (B n : Nat) (D : DataW Value) (x : Hd × Sels) (y : De) (ay : Option Addr) (cy : Nat) (a1 a2 a3 : Option Addr) (c1 c2 c3 : Nat) (w : World) (hown : w.ownsMap Tryz.prog 9 heldE B n D) (hu : D.atKey (.string x.1.nm.toList) (.held (deV de0 .none 0)) = .held (deV y ay cy)) (hs : x.1.nm.size ≤ maxLen) (hk : (x.1.k == 2) = true) :
    Calls Tryz.prog 131 #[.map (some B), .agg #[.int .i64 x.1.k, .string x.1.al, .string x.1.nm, .slice a1 x.1.args.length c1, .slice a2 x.1.dirs.length c2, .slice a3 x.2.len c3]] w fun e w' => e = .returned (.slice ay y.sels.len cy) ∧ Below w.heap.size w w' := by
  have hkey := key_of hs
  obtain ⟨V, hV⟩ : ∃ V, V = w.alloc (.cells #[.int .i64 x.1.k, .string x.1.al, .string x.1.nm, .slice a1 x.1.args.length c1, .slice a2 x.1.dirs.length c2, .slice a3 x.2.len c3] 115) := ⟨_, rfl⟩
  have bV : Below w.heap.size w V := by rw [hV]; exact (Below.refl _ _).alloc (Nat.le_refl _) _
  have c0 : V.heap[w.heap.size]? = some (.cells #[.int .i64 x.1.k, .string x.1.al, .string x.1.nm, .slice a1 x.1.args.length c1, .slice a2 x.1.dirs.length c2, .slice a3 x.2.len c3] 115 (0, 0)) := by rw [hV]; exact heap_alloc_new _ _
  have HOW : Hid (V.ownsMap Tryz.prog 9 heldE B n D) := ownsMap_same hown (bV.block _ (by obtain ⟨_, _, h, _⟩ := hown; exact (Array.getElem?_eq_some_iff.1 h).1))
  have HBV : Hid _ := bV
  have x0 := fun o => row_cell c0 o
  clear hown c0 bV
  unfold deV at hu
  have hfd := fun w => fld_def y.k y.nm y.on ay y.sels.len cy w
  have HU : Hid _ := hu
  have HKEY : Hid _ := hkey
  have hdummy : x.1.nm.size ≤ maxLen := hs
  clear hu hkey hs hdummy
  go_enter Tryz.func131, Tryz.ntmps131
  go_upto_region 1 with fail
  rw [← hV]
  clear hV
  go_wp2_with (first
    | (at_lookup; refine wpList_lookup_plain _ rfl _ _ 145 rfl 9 78 law9 Tryz.underlying145 (zeroDef _) B n D rfl HOW.out _ _ rfl HKEY.out _ HU.out ?_)
    | fail)
  go_ret
  exact ⟨rfl, HBV.out⟩
set_option maxHeartbeats 2000000 in
set_option maxRecDepth 40000 in
theorem within_other (m : Value) (x : Hd × Sels) (a1 a2 a3 : Option Addr) (c1 c2 c3 : Nat) (w : World) (hk : (x.1.k == 2) = false) :
    Calls Tryz.prog 131 #[m, .agg #[.int .i64 x.1.k, .string x.1.al, .string x.1.nm, .slice a1 x.1.args.length c1, .slice a2 x.1.dirs.length c2, .slice a3 x.2.len c3]] w fun e w' => e = .returned (.slice a3 x.2.len c3) ∧ Below w.heap.size w w' := by
  obtain ⟨V, hV⟩ : ∃ V, V = w.alloc (.cells #[.int .i64 x.1.k, .string x.1.al, .string x.1.nm, .slice a1 x.1.args.length c1, .slice a2 x.1.dirs.length c2, .slice a3 x.2.len c3] 115) := ⟨_, rfl⟩
  have bV : Below w.heap.size w V := by rw [hV]; exact (Below.refl _ _).alloc (Nat.le_refl _) _
  have c0 : V.heap[w.heap.size]? = some (.cells #[.int .i64 x.1.k, .string x.1.al, .string x.1.nm, .slice a1 x.1.args.length c1, .slice a2 x.1.dirs.length c2, .slice a3 x.2.len c3] 115 (0, 0)) := by rw [hV]; exact heap_alloc_new _ _
  have HBV : Hid _ := bV
  have x0 := fun o => row_cell c0 o
  clear c0 bV
  go_enter Tryz.func131, Tryz.ntmps131
  go_upto_region 1 with fail
  rw [← hV]
  clear hV
  go_wp2_with fail
  go_ret
  exact ⟨rfl, HBV.out⟩
/-- What stands in a selection: one value, whatever is made meanwhile. -/
theorem within_any (w0 : World) (B : Nat) (l : List De) (x : Hd × Sels) (a1 a2 a3 : Option Addr) (c1 c2 c3 : Nat) (w : World) (hF : FrHeld w0 w B (frsOf l)) (hs : x.1.nm.size ≤ maxLen) (r3 : SelRow 0 w0.heap.size w0 a3 x.2) :
    ∃ ax cx, SelRow 0 w0.heap.size w0 ax (inS l x) ∧ ∀ W, W.heap[B]? = w.heap[B]? → Calls Tryz.prog 131 #[.map (some B), .agg #[.int .i64 x.1.k, .string x.1.al, .string x.1.nm, .slice a1 x.1.args.length c1, .slice a2 x.1.dirs.length c2, .slice a3 x.2.len c3]] W fun e w' => e = .returned (.slice ax (inS l x).len cx) ∧ Below W.heap.size W w' := by
  cases hk : (x.1.k == 2) with
  | false =>
    have e : inS l x = x.2 := by unfold inS; rw [if_neg (by rw [hk]; decide)]
    rw [e]
    exact ⟨a3, c3, r3, fun W _ => within_other _ x a1 a2 a3 c1 c2 c3 W hk⟩
  | true =>
    have e : inS l x = frS l x.1.nm := by unfold inS; rw [if_pos hk]
    obtain ⟨D, n, hown, _, hat⟩ := hF.at_ x.1.nm
    rw [e]
    rcases hat with ⟨h1, h2⟩ | ⟨y, hy, a, c, h3, h4, h5, h6⟩
    · rw [frS_no h1]
      exact ⟨none, 0, .inl rfl, fun W hW => within_spread B n D x de0 none 0 a1 a2 a3 c1 c2 c3 W (ownsMap_same hown hW) h2 hs hk⟩
    · rw [frS_of hy h3]
      exact ⟨a, c, h6, fun W hW => within_spread B n D x y a c a1 a2 a3 c1 c2 c3 W (ownsMap_same hown hW) h5 hs hk⟩
end Go.Proofs.YtkjndghkimnjeaaGreat
namespace Go.Proofs.YtkjndghkimnjeaaGreat
open Go.ChangeShapes Go.WideShapes Go.ChangeAt Go.RowKit Go.Maps
set_option linter.unusedVariables false

theorem Ex.inv {l : List De} {x : Hd × Sels} {r : List (Hd × Sels)} {a : Nat} (h : Ex l (x :: r) a) : ∃ a1 b1, Ex l (toL (inS l x)) a1 ∧ Ex l r b1 ∧ a = 1 + a1 + b1 := by
  cases h with
  | cons h1 h2 => exact ⟨_, _, h1, h2, rfl⟩
theorem Flat.len {l : List De} {s f : List (Hd × Sels)} (h : Flat l s f) : ∀ {a : Nat}, Ex l s a → f.length ≤ a := by
  induction h with
  | nil => intro a _; exact Nat.zero_le _
  | fld h1 h2 ih =>
    intro a ha
    obtain ⟨a1, b1, h3, h4, rfl⟩ := ha.inv
    have := ih h4
    simp; omega
  | oth h1 h2 h3 ih2 ih3 =>
    intro a ha
    obtain ⟨a1, b1, h4, h5, rfl⟩ := ha.inv
    have h6 := ih2 h4
    have h7 := ih3 h5
    rw [List.length_append]; omega
/-- A flat list is told, a list of its own. -/
def FlR (w0 : World) (base : Nat) (l : List De) (s : List (Hd × Sels)) (e : Ending) (w' : World) : Prop := ∃ (f : List (Hd × Sels)) (a' : Option Addr) (c' : Nat), Flat l s f ∧ e = .returned (.slice a' f.length c') ∧ FOwn w0 base 115 w' (.slice a' f.length c') f
/-- What fieldsOf tells. -/
def FieldsP (w0 W0 : World) (B : Nat) (l : List De) (n : Nat) : Prop := ∀ (s : List (Hd × Sels)) (a1 : Option Addr) (c1 : Nat) (w : World), Ex l s n → FRow w0 0 w.heap.size w a1 s → LB s → Below W0.heap.size W0 w →
    Calls Tryz.prog 133 #[.map (some B), .slice a1 s.length c1] w fun e w' => FlR w0 w.heap.size l s e w' ∧ Below w.heap.size w w'
set_option maxHeartbeats 8000000 in
set_option maxRecDepth 40000 in
theorem fields_of (w0 W0 : World) (B : Nat) (l : List De) (hdb : DefsBd 1048576 l) (hF : FrHeld w0 W0 B (frsOf l)) (h00 : Below w0.heap.size w0 W0) (n : Nat) (hn : n ≤ 400) : FieldsP w0 W0 B l n := by
  induction n using Nat.strongRecOn with
  | _ n ih =>
  intro s a1 c1 w hex hr hlb hbw
  have IH : Hid (∀ n', n' < n → FieldsP w0 W0 B l n') := fun n' h => ih n' h (by omega)
  have HDB : Hid (DefsBd 1048576 l) := hdb
  have HLB : Hid (LB s) := hlb
  have HFH : Hid (FrHeld w0 W0 B (frsOf l)) := hF
  have HR : Hid (FRow w0 0 w.heap.size w a1 s) := hr
  have H00 : Hid (Below w0.heap.size w0 W0) := h00
  have HBW : Hid (Below W0.heap.size W0 w) := hbw
  have HEX : Hid (Ex l s n) := hex
  have hsl : s.length ≤ 1048576 := hlb.1
  have hBl : B < W0.heap.size := hF.lt
  clear hr ih hdb hlb hF h00 hbw hex
  go_enter Tryz.func133, Tryz.ntmps133
  go_wp2_with fail
  go_loopw [5, 10] (fun v i w' => ∃ (k r : Nat) (g : List (Hd × Sels)) (a2 : Option Addr) (c2 : Nat), i = .int .i64 k ∧ v = .slice a2 g.length c2 ∧ k ≤ s.length ∧ g.length + r ≤ n ∧ Hid (Below w.heap.size w w') ∧ Hid (FOwn w0 w.heap.size 115 w' (.slice a2 g.length c2) g) ∧ Hid (Ex l (s.drop k) r) ∧ Hid (∀ f, Flat l (s.drop k) f → Flat l s (g ++ f))) (fun _ i _ => s.length - (intOf i).toNat)
  case atStart => exact ⟨0, n, [], none, 0, rfl, rfl, Nat.zero_le _, by simp, Below.refl _ _, FOwn.none _ _ _ _, by simpa [Hid] using HEX.out, fun f h => by simpa using h⟩
  case round =>
    obtain ⟨k, r, g, a2, c2, rfl, rfl, hk, hgr, HB, HO, HER, HT⟩ := hrel
    obtain ⟨wo, rfl⟩ : ∃ z, z = wr := ⟨_, rfl⟩
    by_cases hlt : k < s.length
    case neg =>
      have hlt' : ¬ (k : Int) < s.length := by omega
      have HE : Hid (Flat l s g) := by have := HT.out [] (by rw [List.drop_of_length_le (by omega)]; exact .nil); simpa [Hid] using this
      clear HT
      go_wp2_with fail
      go_ret
      exact ⟨⟨g, a2, c2, HE.out, rfl, HO.out⟩, HB.out⟩
    have hlt' : (k : Int) < s.length := by omega
    have hdr : s.drop k = s[k] :: s.drop (k + 1) := List.drop_eq_getElem_cons hlt
    obtain ⟨b, o, b1, e1, b2, e2, b3, e3, ha, hbl, d0, d1, d2, d3, d4, d5, r1, q1, r2, r3⟩ := FRow.cells (Row.up HR.out HB.out) k hlt
    subst ha
    have HXB : Hid (HdBd 1048576 s[k].1 ∧ s[k].2.len ≤ 1048576 ∧ SelsBd 1048576 s[k].2) := HLB.out.2 _ (List.getElem_mem hlt)
    obtain ⟨x, hx⟩ : ∃ x, x = s[k] := ⟨_, rfl⟩
    rw [← hx] at d0 d1 d2 d3 d4 d5 r1 q1 r2 r3 HXB hdr
    have HR1 : Hid _ := r1
    have HR2 : Hid _ := r2
    have HR3 : Hid _ := r3
    have hex' := HER.out
    rw [hdr] at hex'
    obtain ⟨n1, n2, hx1, hx2, hrn⟩ := hex'.inv
    have HX1 : Hid (Ex l (toL (inS l x)) n1) := hx1
    have HX2 : Hid (Ex l (s.drop (k + 1)) n2) := hx2
    have HT2 : Hid (∀ f, Flat l (x :: s.drop (k + 1)) f → Flat l s (g ++ f)) := by have := HT.out; rwa [hdr] at this
    clear hx1 hx2 hex' HT hdr hx r1 r2 r3 HER
    obtain ⟨V, hV⟩ : ∃ V, V = wo.alloc (.cells #[.int .i64 x.1.k, .string x.1.al, .string x.1.nm, .slice b1 x.1.args.length e1, .slice b2 x.1.dirs.length e2, .slice b3 x.2.len e3] 115) := ⟨_, rfl⟩
    have BV : Below wo.heap.size wo V := by rw [hV]; exact (Below.refl _ _).alloc (Nat.le_refl _) _
    have c0 : V.heap[wo.heap.size]? = some (.cells #[.int .i64 x.1.k, .string x.1.al, .string x.1.nm, .slice b1 x.1.args.length e1, .slice b2 x.1.dirs.length e2, .slice b3 x.2.len e3] 115 (0, 0)) := by rw [hV]; exact heap_alloc_new _ _
    have HBV : Hid (Below w.heap.size w V) := HB.out.trans (BV.mono HB.out.size)
    have HOV : Hid (FOwn w0 w.heap.size 115 V (.slice a2 g.length c2) g) := HO.out.up BV
    have HLO : Hid (∀ q, (Value.slice a2 g.length c2).ownBlock = some q → w.heap.size ≤ q ∧ q < V.heap.size) := HOV.out.lt
    have x0 := fun o => row_cell c0 o
    have hzV := HBV.out.size
    clear BV c0 HO
    go_upto_region 5 with fail
    rw [← hV]
    clear hV d0 d1 d2 d3 d4 d5
    cases hk1 : (x.1.k == 1) with
    | true =>
      have HT3 : Hid (∀ f, Flat l (s.drop (k + 1)) f → Flat l s ((g ++ [x]) ++ f)) := fun f h => by have := HT2.out (x :: f) (.fld hk1 h); simpa using this
      obtain ⟨U, hU⟩ : ∃ U, U = V.alloc (.cells #[.int .i64 x.1.k, .string x.1.al, .string x.1.nm, .slice b1 x.1.args.length e1, .slice b2 x.1.dirs.length e2, .slice b3 x.2.len e3] 115) := ⟨_, rfl⟩
      have BU : Below V.heap.size V U := by rw [hU]; exact (Below.refl _ _).alloc (Nat.le_refl _) _
      have HOU : Hid (FOwn w0 w.heap.size 115 U (.slice a2 g.length c2) g) := HOV.out.up BU
      have HBU : Hid (Below w.heap.size w U) := HBV.out.trans (BU.mono hzV)
      have H1 : Hid (FRow w0 0 U.heap.size U (some ⟨V.heap.size, 0, none⟩) [x]) := by rw [Hid, hU]; exact one_sel V x HR1.out q1 HR2.out HR3.out
      have hzU := HBU.out.size
      clear BU
      go_wp2_with (first | (at_builtin; revert hsl) | fail)
      intro hsl
      rw [← hU]
      refine wpList_append_sels (w0 := w0) rfl _ _ rfl w.heap.size (.slice a2 g.length c2) g [x] rfl HOU.out (some ⟨V.heap.size, 0, none⟩) 1 rfl H1.out (by simp; omega) hzU ?_
      intro a8 c8 w8 ho8 hg8 _
      have O8 : Hid (FOwn w0 w.heap.size 115 w8 (.slice a8 (g.length + 1) c8) (g ++ [x])) := ho8
      have B8 : Hid (Below w.heap.size w w8) := HBU.out.grown hg8 hzU (fun q hq => (HLO.out q hq).1)
      clear ho8 hg8 hU x0
      go_wp2_with fail
      exact ⟨⟨k + 1, n2, g ++ [x], a8, c8, by go_num, by simp, by omega, by simp; omega, B8, by simpa [Hid] using O8.out, HX2, HT3⟩, by simp [intOf]; omega⟩
    | false =>
      have hsx : x.1.nm.size ≤ maxLen := by have := HXB.out.1.2.1; unfold maxLen; omega
      have HWB : Hid (∀ W, Below w.heap.size w W → W.heap[B]? = W0.heap[B]?) := fun W hW => (hW.block _ (by have := HBW.out.size; omega)).trans (HBW.out.block _ hBl)
      obtain ⟨bx, cx, hrx, hwi⟩ := within_any w0 B l x b1 b2 b3 e1 e2 e3 W0 HFH.out hsx HR3.out
      have HWI : Hid _ := hwi V (HWB.out V HBV.out)
      have HRX : Hid (SelRow 0 w0.heap.size w0 bx (inS l x)) := hrx
      have HXL : Hid _ := (LB.inS HDB.out (x := x) HXB.out.2).1
      clear hrx hwi
      go_wp2_with fail
      refine Calls.mono HWI.out ?_
      rintro e w5 ⟨rfl, b5⟩
      have B5 : Hid (Below w.heap.size w w5) := HBV.out.trans (b5.mono hzV)
      have O5 : Hid (FOwn w0 w.heap.size 115 w5 (.slice a2 g.length c2) g) := HOV.out.up b5
      have hq := IH.out n1 (by omega) (toL (inS l x)) bx cx w5 HX1.out (SelRow.fr2 HRX.out (H00.out.trans ((HBW.out.trans (B5.out.mono HBW.out.size)).mono H00.out.size))) HXL.out (HBW.out.trans (B5.out.mono HBW.out.size))
      rw [toL_len] at hq
      have HQ : Hid _ := hq
      clear b5 x0 hq
      go_wp2_with fail
      refine Calls.mono HQ.out ?_
      rintro e w6 ⟨⟨f, a6, c6, hf, rfl, o6⟩, b6⟩
      have B6 : Hid (Below w.heap.size w w6) := B5.out.trans (b6.mono B5.out.size)
      have O6 : Hid (FOwn w0 w.heap.size 115 w6 (.slice a2 g.length c2) g) := O5.out.up b6
      have R6 : Hid (FRow w0 0 w6.heap.size w6 a6 f) := by
        obtain ⟨a9, c9, e9, _, h9⟩ := o6.row
        simp only [Value.slice.injEq] at e9
        rw [e9.1]; exact h9
      have hfl : f.length ≤ n1 := hf.len HX1.out
      have HT3 : Hid (∀ f', Flat l (s.drop (k + 1)) f' → Flat l s ((g ++ f) ++ f')) := fun f' h => by have := HT2.out (f ++ f') (.oth hk1 hf h); simpa using this
      have hz6 := B6.out.size
      clear b6 o6 hf HQ
      go_wp2_with (first | (at_builtin; revert hsl) | fail)
      intro hsl
      refine wpList_append_sels (w0 := w0) rfl _ _ rfl w.heap.size (.slice a2 g.length c2) g f rfl O6.out a6 c6 rfl R6.out (by omega) hz6 ?_
      intro a8 c8 w8 ho8 hg8 _
      have O8 : Hid (FOwn w0 w.heap.size 115 w8 (.slice a8 (g.length + f.length) c8) (g ++ f)) := ho8
      have B8 : Hid (Below w.heap.size w w8) := B6.out.grown hg8 hz6 (fun q hq => (HLO.out q hq).1)
      clear ho8 hg8
      go_wp2_with fail
      exact ⟨⟨k + 1, n2, g ++ f, a8, c8, by go_num, by simp, by omega, by simp; omega, B8, by simpa [Hid] using O8.out, HX2, HT3⟩, by simp [intOf]; omega⟩
end Go.Proofs.YtkjndghkimnjeaaGreat
