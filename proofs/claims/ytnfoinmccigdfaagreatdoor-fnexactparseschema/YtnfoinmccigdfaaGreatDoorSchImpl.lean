/- What a right schema is; the program's test of it. -/
import Derived.Test.YtnfoinmccigdfaaGreatDoorSchFind
namespace Go.Proofs.YtnfoinmccigdfaaGreatDoor.G
open Go.ChangeShapes Go.WideShapes Go.ChangeAt Go.RowKit Go.Maps
set_option linter.unusedVariables false

abbrev bQu : ByteArray := ⟨#[81, 117, 101, 114, 121]⟩
abbrev bIn : ByteArray := ⟨#[73, 110, 116]⟩
abbrev bTn : ByteArray := ⟨#[95, 95, 116, 121, 112, 101, 110, 97, 109, 101]⟩
def isIn (s : ByteArray) : Bool := s.toList == [73, 110, 116]
def FdOK (ts : List ByteArray) (f : Fd) : Prop := (isIn f.ty = true ∨ seen ts f.ty = true) ∧ f.args.length ≤ 4 ∧ OkN (f.args.map Ag.nm)
def TdOK (ts : List ByteArray) (x : Td) : Prop := 1 ≤ x.fs.length ∧ x.fs.length ≤ 10 ∧ OkN (x.fs.map Fd.nm) ∧ seen (x.fs.map Fd.nm) bTn = false ∧ ∀ f ∈ x.fs, FdOK ts f
def SchOK (l : List Td) : Prop := 1 ≤ l.length ∧ l.length ≤ 8 ∧ seen (l.map Td.nm) bQu = true ∧ seen (l.map Td.nm) bIn = false ∧ OkN (l.map Td.nm) ∧ ∀ x ∈ l, TdOK (l.map Td.nm) x
/-- What a Bool says. -/
def Bl (p : Prop) (b : Bool) : Prop := (b = true ∧ p) ∨ (b = false ∧ ¬ p)
theorem Bl.one {p : Prop} {a b : Bool} (h : Bl p a) (k : Bl p b) : a = b := by
  rcases h with ⟨rfl, h⟩ | ⟨rfl, h⟩ <;> rcases k with ⟨rfl, k⟩ | ⟨rfl, k⟩ <;> first | rfl | exact absurd h k | exact absurd k h
def Says (p : Prop) (e : Ending) : Prop := ∃ b, e = .returned (.bool b) ∧ Bl p b
theorem Says.yes {p : Prop} (h : p) : Says p (.returned (.bool true)) := ⟨_, rfl, .inl ⟨rfl, h⟩⟩
theorem Says.no {p : Prop} (h : ¬ p) : Says p (.returned (.bool false)) := ⟨_, rfl, .inr ⟨rfl, h⟩⟩
theorem size_bQu : bQu.size ≤ maxLen := by decide
theorem size_bIn : bIn.size ≤ maxLen := by decide
theorem size_bTn : bTn.size ≤ maxLen := by decide
theorem Bd_nm {m : Nat} {l : List Fd} (h : ∀ x ∈ l, FdBd m x) : ∀ x ∈ l, x.nm.size ≤ m := fun x hx => (h x hx).1
theorem Bd_nmT {m : Nat} {l : List Td} (h : ∀ x ∈ l, TdBd m x) : ∀ x ∈ l, x.nm.size ≤ m := fun x hx => (h x hx).1

set_option maxHeartbeats 2000000 in
set_option maxRecDepth 40000 in
theorem impl_field (f : Fd) (a3 : Option Addr) (c3 B : Nat) (ts : List ByteArray) (w : World) (hr : AgRow 0 w.heap.size w a3 f.args) (hb : FdBd 1048576 f) (hh : Held w B ts) :
    Calls Tryz.prog 54 #[.agg #[.string f.nm, .slice a3 f.args.length c3, .string f.ty, .bool f.ls, .bool f.bg], .map (some B)] w fun e w' => Says (FdOK ts f) e ∧ Below w.heap.size w w' := by
  obtain ⟨x1, ⟨x2, x3⟩, x4⟩ := hb
  have B0 : Hid (Below w.heap.size w (w.alloc (.cells #[.string f.nm, .slice a3 f.args.length c3, .string f.ty, .bool f.ls, .bool f.bg] 53))) := (Below.refl _ _).alloc (Nat.le_refl _) _
  have K1 : Hid (∀ W0, Below w.heap.size w W0 → AgRow 0 W0.heap.size W0 a3 f.args) := fun W0 hB => AgRow.up hr hB
  have K2 : Hid (∀ W0, Below w.heap.size w W0 → Held W0 B ts) := fun W0 hB => hh.keep hB hh.lt
  have HX : Hid (∀ x ∈ f.args, x.nm.size ≤ 1048576) := x3
  have sx : f.ty.size ≤ maxLen := by unfold maxLen; omega
  clear hr hh x3
  by_cases h4 : 4 < f.args.length
  · have HN : Hid (¬ FdOK ts f) := fun h => by have := h.2.1; omega
    go_enter Tryz.func54, Tryz.ntmps54
    go_wp2_with fail
    go_ret
    exact ⟨Says.no HN.out, B0.out⟩
  cases hi : isIn f.ty
  · have hi2 : (f.ty.toList == [73, 110, 116]) = false := hi
    go_enter Tryz.func54, Tryz.ntmps54
    go_wp2_with fail
    refine (impl_has B ts f.ty _ (K2.out _ B0.out) sx).mono ?_
    cases hs : seen ts f.ty
    · rintro e w1 ⟨rfl, hb1⟩
      have HN : Hid (¬ FdOK ts f) := fun h => by rcases h.1 with h | h <;> simp_all
      go_wp2_with fail
      go_ret
      exact ⟨Says.no HN.out, below_one hb1⟩
    rintro e w1 ⟨rfl, hb1⟩
    have k0 := fun o => hb1.cell (p := ⟨w.heap.size, o, none⟩) (by simp)
    have Q1 : Hid (Below w.heap.size w w1) := below_one hb1
    clear hb1
    go_wp2_with fail
    refine (impl_places_Ag a3 c3 f.args _ (K1.out _ Q1.out) x2 HX.out).mono ?_
    rintro e w2 ⟨hb2, ⟨C, rfl, h1, _, _⟩ | ⟨rfl, h1⟩⟩
    · have HN : Hid (FdOK ts f) := ⟨.inr hs, by omega, h1⟩
      go_wp2_with fail
      go_ret
      exact ⟨Says.yes HN.out, Q1.out.trans (hb2.mono Q1.out.size)⟩
    · have HN : Hid (¬ FdOK ts f) := fun h => h1 h.2.2
      go_wp2_with fail
      go_ret
      exact ⟨Says.no HN.out, Q1.out.trans (hb2.mono Q1.out.size)⟩
  · have hi2 : (f.ty.toList == [73, 110, 116]) = true := hi
    go_enter Tryz.func54, Tryz.ntmps54
    go_wp2_with fail
    refine (impl_places_Ag a3 c3 f.args _ (K1.out _ B0.out) x2 HX.out).mono ?_
    rintro e w2 ⟨hb2, ⟨C, rfl, h1, _, _⟩ | ⟨rfl, h1⟩⟩
    · have HN : Hid (FdOK ts f) := ⟨.inl hi, by omega, h1⟩
      go_wp2_with fail
      go_ret
      exact ⟨Says.yes HN.out, below_one hb2⟩
    · have HN : Hid (¬ FdOK ts f) := fun h => h1 h.2.2
      go_wp2_with fail
      go_ret
      exact ⟨Says.no HN.out, below_one hb2⟩

set_option maxHeartbeats 2000000 in
set_option maxRecDepth 40000 in
theorem impl_type (x : Td) (a3 : Option Addr) (c3 B : Nat) (ts : List ByteArray) (w : World) (hr : FdRow 0 w.heap.size w a3 x.fs) (hb : TdBd 1048576 x) (hh : Held w B ts) :
    Calls Tryz.prog 32 #[.agg #[.string x.nm, .slice a3 x.fs.length c3], .map (some B)] w fun e w' => Says (TdOK ts x) e ∧ Below w.heap.size w w' := by
  obtain ⟨x1, ⟨x2, x3⟩⟩ := hb
  have B0 : Hid (Below w.heap.size w (w.alloc (.cells #[.string x.nm, .slice a3 x.fs.length c3] 49))) := (Below.refl _ _).alloc (Nat.le_refl _) _
  have K1 : Hid (∀ W0, Below w.heap.size w W0 → FdRow 0 W0.heap.size W0 a3 x.fs) := fun W0 hB => FdRow.up hr hB
  have K2 : Hid (∀ W0, Below w.heap.size w W0 → Held W0 B ts) := fun W0 hB => hh.keep hB hh.lt
  have HX : Hid (∀ f ∈ x.fs, FdBd 1048576 f) := x3
  have HR : Hid (FdRow 0 w.heap.size w a3 x.fs) := hr
  clear hr hh x3
  by_cases g1 : x.fs.length < 1
  · have HN : Hid (¬ TdOK ts x) := fun h => by have := h.1; omega
    go_enter Tryz.func32, Tryz.ntmps32
    go_wp2_with fail
    go_ret
    exact ⟨Says.no HN.out, B0.out⟩
  by_cases g2 : 10 < x.fs.length
  · have HN : Hid (¬ TdOK ts x) := fun h => by have := h.2.1; omega
    go_enter Tryz.func32, Tryz.ntmps32
    go_wp2_with fail
    go_ret
    exact ⟨Says.no HN.out, B0.out⟩
  go_enter Tryz.func32, Tryz.ntmps32
  go_wp2_with fail
  refine (impl_places_Fd a3 c3 x.fs _ (K1.out _ B0.out) x2 (Bd_nm HX.out)).mono ?_
  rintro e w1 ⟨hb1, ⟨C, rfl, h1, hC, h2⟩ | ⟨rfl, h1⟩⟩
  case inr =>
    have HN : Hid (¬ TdOK ts x) := fun h => h1 h.2.2.1
    go_wp2_with fail
    go_ret
    exact ⟨Says.no HN.out, below_one hb1⟩
  have k1 := fun o => hb1.cell (p := ⟨w.heap.size, o, none⟩) (by simp)
  have z1 := size_one hb1
  have Q1 : Hid (Below w.heap.size w w1) := below_one hb1
  have H1 : Hid (OkN (x.fs.map Fd.nm)) := h1
  have H2 : Hid (Held w1 C (x.fs.map Fd.nm)) := h2
  clear hb1 h1 h2 hC
  go_wp2_with fail
  refine (impl_has C (x.fs.map Fd.nm) bTn _ H2.out size_bTn).mono ?_
  cases hs : seen (x.fs.map Fd.nm) bTn
  case true =>
    rintro e w2 ⟨rfl, hb2⟩
    have HN : Hid (¬ TdOK ts x) := fun h => by have := h.2.2.2.1; rw [hs] at this; cases this
    go_wp2_with fail
    go_ret
    exact ⟨Says.no HN.out, Q1.out.trans (hb2.mono Q1.out.size)⟩
  rintro e w2 ⟨rfl, hb2⟩
  have k2 := fun o => (hb2.cell (p := ⟨w.heap.size, o, none⟩) (by first | omega | (simp <;> omega))).trans (k1 o)
  have Q2 : Below w.heap.size w w2 := Q1.out.trans (hb2.mono Q1.out.size)
  clear hb2 k1
  go_wp2_with fail
  go_loopw [34] (fun i w' => ∃ (k : Nat), k ≤ x.fs.length ∧ i = .int .i64 k ∧ Below w.heap.size w w' ∧ Hid (∀ f ∈ x.fs.take k, FdOK ts f)) (fun i _ => x.fs.length - (intOf i).toNat)
  case atStart => exact ⟨0, by omega, rfl, Q2, by simp [Hid]⟩
  case round =>
    rename_i wr
    clear k2 Q2
    obtain ⟨k, hk, rfl, hb, HA⟩ := hrel
    by_cases hlt : k < x.fs.length
    · obtain ⟨b, o, a5, c5, ha, _, hbl, d0, d1, d2, d3, d4, r3⟩ := FdRow.cells (FdRow.keep HR.out (agree hb (Nat.le_refl _))) k hlt
      subst ha
      have HY : Hid (FdBd 1048576 x.fs[k]) := HX.out x.fs[k] (List.getElem_mem hlt)
      have K3 : Hid (∀ W0, Below wr.heap.size wr W0 → AgRow 0 W0.heap.size W0 a5 x.fs[k].args) := fun W0 hB => AgRow.up (AgRow.wide r3 (Nat.le_refl _) hb.size) hB
      clear r3
      go_wp2_with fail
      refine Calls.mono (impl_field x.fs[k] a5 c5 B ts _ (K3.out _ ?b0) HY.out (K2.out _ ?b1)) ?_
      case b0 => repeat (first | exact Below.refl _ _ | refine Below.setCell ?_ (by first | omega | (simp <;> omega)) _ | refine Below.alloc ?_ (by first | omega | (simp <;> omega)) _)
      case b1 =>
        refine hb.trans ?_
        repeat (first | exact Below.refl _ _ | refine Below.setCell ?_ (by have := hb.size; first | omega | (simp <;> omega)) _ | refine Below.alloc ?_ (by have := hb.size; first | omega | (simp <;> omega)) _)
      rintro e w3 ⟨⟨bb, rfl, ⟨rfl, hf⟩ | ⟨rfl, hf⟩⟩, hb3⟩
      · skip
        have q3 : Hid (Below w.heap.size w w3) := by
          refine hb.trans (Below.trans ?_ (hb3.mono (by have := hb.size; first | omega | (simp <;> omega))))
          repeat (first | exact Below.refl _ _ | refine Below.setCell ?_ (by have := hb.size; first | omega | (simp <;> omega)) _ | refine Below.alloc ?_ (by have := hb.size; first | omega | (simp <;> omega)) _)
        have HA2 : Hid _ := all_take hlt HA.out hf
        clear hb3
        go_wp2_with fail
        go_roundw
        case rel => exact ⟨k + 1, by omega, by go_num, q3.out, HA2⟩
        case measure => simp [intOf]; omega
      · skip
        have q3 : Hid (Below w.heap.size w w3) := by
          refine hb.trans (Below.trans ?_ (hb3.mono (by have := hb.size; first | omega | (simp <;> omega))))
          repeat (first | exact Below.refl _ _ | refine Below.setCell ?_ (by have := hb.size; first | omega | (simp <;> omega)) _ | refine Below.alloc ?_ (by have := hb.size; first | omega | (simp <;> omega)) _)
        have HN : Hid (¬ TdOK ts x) := fun h => hf (h.2.2.2.2 _ (List.getElem_mem hlt))
        clear hb3
        go_wp2_with fail
        go_ret
        exact ⟨Says.no HN.out, q3.out⟩
    · have HN : Hid (TdOK ts x) := by
        have h9 := HA.out
        rw [List.take_of_length_le (by omega)] at h9
        exact ⟨by omega, by omega, H1.out, hs, h9⟩
      go_wp2_with fail
      go_ret
      exact ⟨Says.yes HN.out, hb⟩

set_option maxHeartbeats 2000000 in
set_option maxRecDepth 40000 in
theorem impl_schema (a : Option Addr) (c : Nat) (l : List Td) (w : World) (hr : TdRow 0 w.heap.size w a l) (hb : TdsBd 1048576 l) :
    Calls Tryz.prog 14 #[.agg #[.slice a l.length c]] w fun e w' => Says (SchOK l) e ∧ Below w.heap.size w w' := by
  obtain ⟨x2, x3⟩ := hb
  have B0 : Hid (Below w.heap.size w (w.alloc (.cells #[.slice a l.length c] 24))) := (Below.refl _ _).alloc (Nat.le_refl _) _
  have K1 : Hid (∀ W0, Below w.heap.size w W0 → TdRow 0 W0.heap.size W0 a l) := fun W0 hB => TdRow.up hr hB
  have HX : Hid (∀ x ∈ l, TdBd 1048576 x) := x3
  have HR : Hid (TdRow 0 w.heap.size w a l) := hr
  clear hr x3
  by_cases g2 : 8 < l.length
  · have HN : Hid (¬ SchOK l) := fun h => by have := h.2.1; omega
    go_enter Tryz.func14, Tryz.ntmps14
    go_wp2_with fail
    go_ret
    exact ⟨Says.no HN.out, B0.out⟩
  go_enter Tryz.func14, Tryz.ntmps14
  go_wp2_with fail
  refine (impl_places_Td a c l _ (K1.out _ B0.out) x2 (Bd_nmT HX.out)).mono ?_
  rintro e w1 ⟨hb1, ⟨C, rfl, h1, hC, h2⟩ | ⟨rfl, h1⟩⟩
  case inr =>
    have HN : Hid (¬ SchOK l) := fun h => h1 h.2.2.2.2.1
    go_wp2_with fail
    go_ret
    exact ⟨Says.no HN.out, below_one hb1⟩
  have k1 := fun o => hb1.cell (p := ⟨w.heap.size, o, none⟩) (by simp)
  have z1 := size_one hb1
  have Q1 : Hid (Below w.heap.size w w1) := below_one hb1
  have H1 : Hid (OkN (l.map Td.nm)) := h1
  have H2 : Hid (Held w1 C (l.map Td.nm)) := h2
  have hC2 : w.heap.size + 1 ≤ C := by simpa using hC
  clear hb1 h1 h2 hC
  go_wp2_with fail
  refine (impl_has C (l.map Td.nm) bQu _ H2.out size_bQu).mono ?_
  cases hq : seen (l.map Td.nm) bQu
  · rintro e w2 ⟨rfl, hb2⟩
    have HN : Hid (¬ SchOK l) := fun h => by have := h.2.2.1; rw [hq] at this; cases this
    go_wp2_with fail
    go_ret
    exact ⟨Says.no HN.out, Q1.out.trans (hb2.mono Q1.out.size)⟩
  rintro e w2 ⟨rfl, hb2⟩
  have k2 := fun o => (hb2.cell (p := ⟨w.heap.size, o, none⟩) (by first | omega | (simp <;> omega))).trans (k1 o)
  have H3 : Hid (Held w2 C (l.map Td.nm)) := H2.out.keep hb2 H2.out.lt
  have Q2 : Hid (Below w.heap.size w w2) := Q1.out.trans (hb2.mono Q1.out.size)
  have z2 : w.heap.size + 1 ≤ w2.heap.size := by have := hb2.size; omega
  clear hb2 k1
  go_wp2_with fail
  refine (impl_has C (l.map Td.nm) bIn _ H3.out size_bIn).mono ?_
  cases hi : seen (l.map Td.nm) bIn
  case true =>
    rintro e w3 ⟨rfl, hb3⟩
    have HN : Hid (¬ SchOK l) := fun h => by have := h.2.2.2.1; rw [hi] at this; cases this
    go_wp2_with fail
    go_ret
    exact ⟨Says.no HN.out, Q2.out.trans (hb3.mono Q2.out.size)⟩
  rintro e w3 ⟨rfl, hb3⟩
  have k3 := fun o => (hb3.cell (p := ⟨w.heap.size, o, none⟩) (by first | omega | (simp <;> omega))).trans (k2 o)
  have H4 : Hid (Held w3 C (l.map Td.nm)) := H3.out.keep hb3 H3.out.lt
  have Q3 : Below w.heap.size w w3 := Q2.out.trans (hb3.mono Q2.out.size)
  clear hb3 k2
  have hCl := H4.out.lt
  go_wp2_with fail
  go_loopw [31] (fun i w' => ∃ (k : Nat), k ≤ l.length ∧ i = .int .i64 k ∧ Below w.heap.size w w' ∧ Hid (Held w' C (l.map Td.nm)) ∧ Hid (∀ x ∈ l.take k, TdOK (l.map Td.nm) x)) (fun i _ => l.length - (intOf i).toNat)
  case atStart => exact ⟨0, by omega, rfl, Q3, H4, by simp [Hid]⟩
  case round =>
    rename_i wr
    clear k3 Q3
    obtain ⟨k, hk, rfl, hb, HC, HA⟩ := hrel
    by_cases hlt : k < l.length
    · obtain ⟨b, o, a5, c5, ha, _, hbl, d0, d1, r3⟩ := TdRow.cells (TdRow.keep HR.out (agree hb (Nat.le_refl _))) k hlt
      subst ha
      have HY : Hid (TdBd 1048576 l[k]) := HX.out l[k] (List.getElem_mem hlt)
      have K3 : Hid (∀ W0, Below wr.heap.size wr W0 → FdRow 0 W0.heap.size W0 a5 l[k].fs) := fun W0 hB => FdRow.up (FdRow.wide r3 (Nat.le_refl _) hb.size) hB
      have K4 : Hid (∀ W0, Below wr.heap.size wr W0 → Held W0 C (l.map Td.nm)) := fun W0 hB => HC.out.keep hB HC.out.lt
      clear r3
      go_wp2_with fail
      refine Calls.mono (impl_type l[k] a5 c5 C (l.map Td.nm) _ (K3.out _ ?b0) HY.out (K4.out _ ?b1)) ?_
      case b0 => repeat (first | exact Below.refl _ _ | refine Below.setCell ?_ (by first | omega | (simp <;> omega)) _ | refine Below.alloc ?_ (by first | omega | (simp <;> omega)) _)
      case b1 => repeat (first | exact Below.refl _ _ | refine Below.setCell ?_ (by first | omega | (simp <;> omega)) _ | refine Below.alloc ?_ (by first | omega | (simp <;> omega)) _)
      rintro e w4 ⟨⟨bb, rfl, ⟨rfl, hf⟩ | ⟨rfl, hf⟩⟩, hb4⟩
      · skip
        have p4 : Below wr.heap.size wr w4 := by
          refine Below.trans ?_ (hb4.mono (by first | omega | (simp <;> omega)))
          repeat (first | exact Below.refl _ _ | refine Below.setCell ?_ (by first | omega | (simp <;> omega)) _ | refine Below.alloc ?_ (by first | omega | (simp <;> omega)) _)
        have HC4 : Hid _ := K4.out _ p4
        have q4 : Hid (Below w.heap.size w w4) := hb.trans (p4.mono hb.size)
        have HA2 : Hid _ := all_take hlt HA.out hf
        clear hb4 p4
        go_wp2_with fail
        go_roundw
        case rel => exact ⟨k + 1, by omega, by go_num, q4.out, HC4, HA2⟩
        case measure => simp [intOf]; omega
      · skip
        have p4 : Below wr.heap.size wr w4 := by
          refine Below.trans ?_ (hb4.mono (by first | omega | (simp <;> omega)))
          repeat (first | exact Below.refl _ _ | refine Below.setCell ?_ (by first | omega | (simp <;> omega)) _ | refine Below.alloc ?_ (by first | omega | (simp <;> omega)) _)
        have q4 : Hid (Below w.heap.size w w4) := hb.trans (p4.mono hb.size)
        have HN : Hid (¬ SchOK l) := fun h => hf (h.2.2.2.2.2 _ (List.getElem_mem hlt))
        clear hb4 p4
        go_wp2_with fail
        go_ret
        exact ⟨Says.no HN.out, q4.out⟩
    · have HN : Hid (SchOK l) := by
        have h9 := HA.out
        rw [List.take_of_length_le (by omega)] at h9
        refine ⟨?_, by omega, hq, hi, H1.out, h9⟩
        cases l with
        | nil => cases hq
        | cons _ _ => simp
      go_wp2_with fail
      go_ret
      exact ⟨Says.yes HN.out, hb⟩
end Go.Proofs.YtnfoinmccigdfaaGreatDoor.G
