/- What a value is bound to: both sides. -/
import Derived.Test.YtkjndghkimnjeaaGreatVaLimTwo
import Derived.Test.YtkjndghkimnjeaaGreatVaCycSpec
import Derived.Test.YtkjndghkimnjeaaGreatTySpot
import Derived.Test.YtkjndghkimnjeaaGreatTyTypesSpec
import Derived.Test.YtkjndghkimnjeaaGreatDocOpAny
import Derived.Test.YtkjndghkimnjeaaGreatVaSpr
import Derived.Test.YtkjndghkimnjeaaGreatBnOK
namespace Go.Proofs.YtkjndghkimnjeaaGreat
open Go.ChangeShapes Go.WideShapes Go.ChangeAt Go.RowKit Go.Maps
set_option linter.unusedVariables false

theorem full_find {l : List De} (h : opCode l = 0) : ∀ x ∈ l, (x.k == 3) = true → l.find? (isFr x.nm) = some x := fun x hx h3 => by
  have hfull : ¬ (frsOf l).length + opsN l < l.length := fun hc => by
    unfold opCode at h
    rw [if_pos hc] at h; cases h
  obtain ⟨k, hk, rfl⟩ := List.getElem_of_mem hx
  refine find_at hk (fun y hy => ?_) (by unfold isFr; rw [h3]; simp)
  cases hc : isFr l[k].nm y with
  | false => rfl
  | true => exact absurd (short_at hk h3 (List.any_eq_true.2 ⟨y, hy, hc⟩)) hfull
/-- The first code of the operation, of types, of cycles, of limits, of merging. -/
def ValR (S : List G.Td) (l : List De) (y : Int) : Prop := (opCode l ≠ 0 ∧ y = opCode l) ∨ (opCode l = 0 ∧ ((docC S l l ≠ 0 ∧ y = docC S l l) ∨ (docC S l l = 0 ∧ ((Cyc l ∧ y = 13) ∨ (¬ Cyc l ∧ ∃ z, Lims l l z ∧ ((z ≠ 0 ∧ y = z) ∨ (z = 0 ∧ MrgC l y)))))))
theorem ValR.one {S : List G.Td} {l : List De} {y y' : Int} (h : ValR S l y) (h' : ValR S l y') : y = y' := by
  rcases h with ⟨h1, rfl⟩ | ⟨h1, h⟩ <;> rcases h' with ⟨g1, rfl⟩ | ⟨g1, h'⟩
  · rfl
  · exact absurd g1 h1
  · exact absurd h1 g1
  rcases h with ⟨h2, rfl⟩ | ⟨h2, h⟩ <;> rcases h' with ⟨g2, rfl⟩ | ⟨g2, h'⟩
  · rfl
  · exact absurd g2 h2
  · exact absurd h2 g2
  rcases h with ⟨h3, rfl⟩ | ⟨h3, z, hz, h⟩ <;> rcases h' with ⟨g3, rfl⟩ | ⟨g3, z', hz', h'⟩
  · rfl
  · exact absurd h3 g3
  · exact absurd g3 h3
  obtain rfl := hz.det hz'
  rcases h with ⟨h4, rfl⟩ | ⟨h4, h⟩ <;> rcases h' with ⟨g4, rfl⟩ | ⟨g4, h'⟩
  · rfl
  · exact absurd g4 h4
  · exact absurd h4 g4
  exact h.one h'
set_option maxHeartbeats 8000000 in
set_option maxRecDepth 40000 in
theorem spec_valAll (S : List G.Td) (D : List De) (aS : Option Addr) (cS : Nat) (aD : Option Addr) (cD : Nat) (w : World) (hSOK : G.SchOK S) (hSB : G.TdsBd 1048576 S) (hDB : DefsBd 1048576 D) (hdoc : docB D = true) (hsd : Sd w aS S aD D) :
    Calls Tryz.prog 23 #[.agg #[.slice aS S.length cS], .agg #[.slice aD D.length cD]] w fun e w' => (∃ y, e = .returned (.int .i64 y) ∧ ValR S D y) ∧ Below w.heap.size w w' := by
  obtain ⟨V, hV⟩ : ∃ V, V = (w.alloc (.cells #[.slice aS S.length cS] 59)).alloc (.cells #[.slice aD D.length cD] 33) := ⟨_, rfl⟩
  have bV : Below w.heap.size w V := by
    rw [hV]
    repeat (first | exact Below.refl _ _ | refine Below.alloc ?_ (by first | omega | (simp <;> omega)) _)
  have c0 : V.heap[w.heap.size]? = some (.cells #[.slice aS S.length cS] 59 (0, 0)) := by
    rw [hV, Below.heap_alloc _ _ _ (by simp)]; exact heap_alloc_new _ _
  have c1 : V.heap[w.heap.size + 1]? = some (.cells #[.slice aD D.length cD] 33 (0, 0)) := by
    rw [hV]
    have := heap_alloc_new (w.alloc (.cells #[.slice aS S.length cS] 59)) (.cells #[.slice aD D.length cD] 33)
    simpa using this
  have z0 := (Array.getElem?_eq_some_iff.1 c0).1
  have z1 := (Array.getElem?_eq_some_iff.1 c1).1
  have T : Hid (∀ W, Below V.heap.size V W → W.heap[w.heap.size]? = some (.cells #[.slice aS S.length cS] 59 (0, 0)) ∧ W.heap[w.heap.size + 1]? = some (.cells #[.slice aD D.length cD] 33 (0, 0)) ∧ Sd W aS S aD D ∧ Below w.heap.size w W) := fun W hW =>
    have hw := bV.trans (hW.mono bV.size)
    ⟨(hW.block _ z0).trans c0, (hW.block _ z1).trans c1, hsd.up hw, hw⟩
  have HSOK : Hid _ := hSOK
  have HSB : Hid (G.TdsBd 1048576 S) := hSB
  have HDB : Hid (DefsBd 1048576 D) := hDB
  have HDOC : Hid (docB D = true) := hdoc
  have x1 := fun o => row_cell c1 o
  clear hSOK hSB hDB hdoc hsd c0 c1 bV z0 z1
  go_enter Tryz.func23, Tryz.ntmps23
  go_upto_region 1 with fail
  rw [← hV]
  clear hV
  go_wp2_with fail
  refine (spec_op_any aD cD D _ (T.out _ (Below.refl _ _)).2.2.1.rd HDB.out).mono ?_
  rintro e w1 ⟨⟨dx, yo, a3, c3, rfl, hop, _⟩, b1⟩
  have HYO : Hid (yo = opCode D) := hop.code
  obtain ⟨U, hU⟩ : ∃ U, U = w1.alloc (.cells #[.int .i64 dx.k, .string dx.nm, .string dx.on, .slice a3 dx.sels.len c3] 78) := ⟨_, rfl⟩
  have BU : Below w1.heap.size w1 U := by rw [hU]; exact (Below.refl _ _).alloc (Nat.le_refl _) _
  have Q1 : Hid (Below V.heap.size V U) := b1.trans (BU.mono b1.size)
  have T1 : Hid _ := T.out _ Q1.out
  clear hop b1 BU x1
  unfold deV
  go_upto_region 2 with fail
  rw [← hU]
  clear hU
  by_cases hy0 : yo = 0
  case neg =>
    have hyb : (yo != 0) = true := by simpa using hy0
    have HE : Hid (ValR S D yo) := .inl ⟨by rw [← HYO.out]; exact hy0, HYO.out⟩
    clear hy0
    go_wp2_with fail
    go_ret
    exact ⟨⟨yo, rfl, HE.out⟩, T1.out.2.2.2⟩
  subst hy0
  have HOP : Hid (opCode D = 0) := HYO.out.symm
  have x0 := fun o => row_cell T1.out.1 o
  have x1 := fun o => row_cell T1.out.2.1 o
  have hq := spec_types S D aS cS aD cD U HSOK.out HSB.out HDB.out HDOC.out T1.out.2.2.1
  have HQ : Hid _ := hq
  clear hq
  go_wp2_with fail
  refine Calls.mono HQ.out ?_
  rintro e w2 ⟨rfl, b2⟩
  have Q2 : Hid (Below V.heap.size V w2) := Q1.out.trans (b2.mono Q1.out.size)
  have T2 : Hid _ := T.out _ Q2.out
  clear b2 x0 x1 HQ
  generalize hDC : docC S D D = dc
  have HDC : Hid (docC S D D = dc) := hDC
  clear hDC
  by_cases hd0 : dc = 0
  case neg =>
    have hyb : (dc != 0) = true := by simpa using hd0
    have HE : Hid (ValR S D dc) := .inr ⟨HOP.out, .inl ⟨by rw [HDC.out]; exact hd0, HDC.out.symm⟩⟩
    clear hd0
    go_wp2_with fail
    go_ret
    exact ⟨⟨dc, rfl, HE.out⟩, T2.out.2.2.2⟩
  subst hd0
  have x1 := fun o => row_cell T2.out.2.1 o
  have hds := doc_size HDOC.out
  have HQ : Hid _ := spec_cycle aD cD D w2 T2.out.2.2.1.rd HDB.out (full_find HOP.out) (fun x hx => by have := sizeL_mem hx; omega) (by have := allSp_len D; omega)
  clear hds
  go_wp2_with fail
  refine Calls.mono HQ.out ?_
  rintro e w3 ⟨⟨bc, rfl, hbc⟩, b3⟩
  have Q3 : Hid (Below V.heap.size V w3) := Q2.out.trans (b3.mono Q2.out.size)
  have T3 : Hid _ := T.out _ Q3.out
  clear b3 x1 HQ
  cases bc with
  | true =>
    have HE : Hid (ValR S D 13) := .inr ⟨HOP.out, .inr ⟨HDC.out, .inl ⟨hbc.1 rfl, rfl⟩⟩⟩
    clear hbc
    go_wp2_with fail
    go_ret
    exact ⟨⟨13, rfl, HE.out⟩, T3.out.2.2.2⟩
  | false =>
  have HNC : Hid (¬ Cyc D) := fun h => by have := hbc.2 h; cases this
  clear hbc
  have x1 := fun o => row_cell T3.out.2.1 o
  have HQ : Hid _ := spec_limits aD cD D w3 T3.out.2.2.1.rd HDB.out
  go_wp2_with fail
  refine Calls.mono HQ.out ?_
  rintro e w4 ⟨⟨z, rfl, hz⟩, b4⟩
  have Q4 : Hid (Below V.heap.size V w4) := Q3.out.trans (b4.mono Q3.out.size)
  have T4 : Hid _ := T.out _ Q4.out
  have HZ : Hid (Lims D D z) := hz
  clear b4 x1 HQ hz
  by_cases hz0 : z = 0
  case neg =>
    have hyb : (z != 0) = true := by simpa using hz0
    have HE : Hid (ValR S D z) := .inr ⟨HOP.out, .inr ⟨HDC.out, .inr ⟨HNC.out, z, HZ.out, .inl ⟨hz0, rfl⟩⟩⟩⟩
    clear hz0
    go_wp2_with fail
    go_ret
    exact ⟨⟨z, rfl, HE.out⟩, T4.out.2.2.2⟩
  subst hz0
  have x1 := fun o => row_cell T4.out.2.1 o
  have HQ : Hid _ := spec_merges aD cD D w4 T4.out.2.2.1.rd HDB.out (doc_kinds HDOC.out) (docC_args (doc_size HDOC.out).2 HDC.out) (fun x hx => by obtain ⟨n, h1, h2⟩ := HZ.out.ex rfl x hx; exact ⟨n, h1, h2⟩)
  go_wp2_with fail
  refine Calls.mono HQ.out ?_
  rintro e w5 ⟨⟨y, rfl, hy⟩, b5⟩
  have HE : Hid (ValR S D y) := .inr ⟨HOP.out, .inr ⟨HDC.out, .inr ⟨HNC.out, 0, HZ.out, .inr ⟨rfl, hy⟩⟩⟩⟩
  have G5 : Hid (Below w.heap.size w w5) := T4.out.2.2.2.trans (b5.mono T4.out.2.2.2.size)
  clear hy b5 x1 HQ
  go_wp2_with fail
  go_ret
  exact ⟨⟨y, rfl, HE.out⟩, G5.out⟩
/-- What Validate tells. -/
def VlR (S : List G.Td) (D : List De) (x y : Int) : Prop := (¬ G.SchOK S ∧ x = 0 ∧ y = 1) ∨ (G.SchOK S ∧ docB D = false ∧ x = 0 ∧ y = 1) ∨ (G.SchOK S ∧ docB D = true ∧ ValR S D x ∧ y = 0)
theorem VlR.one {S : List G.Td} {D : List De} {x y x' y' : Int} (h : VlR S D x y) (h' : VlR S D x' y') : x = x' ∧ y = y' := by
  rcases h with ⟨h1, rfl, rfl⟩ | ⟨h1, h2, rfl, rfl⟩ | ⟨h1, h2, h3, rfl⟩ <;> rcases h' with ⟨g1, rfl, rfl⟩ | ⟨g1, g2, rfl, rfl⟩ | ⟨g1, g2, g3, rfl⟩
  · exact ⟨rfl, rfl⟩
  · exact absurd g1 h1
  · exact absurd g1 h1
  · exact absurd h1 g1
  · exact ⟨rfl, rfl⟩
  · rw [h2] at g2; cases g2
  · exact absurd h1 g1
  · rw [h2] at g2; cases g2
  · exact ⟨h3.one g3, rfl⟩
end Go.Proofs.YtkjndghkimnjeaaGreat
namespace Go.Proofs.YtkjndghkimnjeaaGreat
open Go.ChangeShapes Go.WideShapes Go.ChangeAt Go.RowKit Go.Maps
set_option linter.unusedVariables false

set_option maxHeartbeats 2000000 in
theorem types_clo (a : Option Addr) (c : Nat) (S : List G.Td) (a' : Option Addr) (c' : Nat) (D : List De) (B : Nat) (w : World) (hS : G.TdRow 0 w.heap.size w a S) (hO : G.OkN (S.map G.Td.nm)) (hB : G.TdsBd 1048576 S) (hD : DeRow 0 w.heap.size w a' D) (hb : DefsBd 1048576 D) (hdoc : docB D = true)
    (hbx : w.heap[B]? = some (.cells #[.slice a S.length c] 59 (0, 0))) :
    Calls Tryz.prog 55 #[.agg #[.slice a' D.length c'], .pointer (some ⟨B, 0, none⟩)] w fun e w' => e = .returned (.int .i64 (docC S D D)) ∧ Below w.heap.size w w' := by
  obtain ⟨V, hV⟩ : ∃ V, V = w.alloc (.cells #[.slice a' D.length c'] 33) := ⟨_, rfl⟩
  have BV : Below w.heap.size w V := by rw [hV]; exact (Below.refl _ _).alloc (Nat.le_refl _) _
  have c0 : V.heap[w.heap.size]? = some (.cells #[.slice a' D.length c'] 33 (0, 0)) := by rw [hV]; exact heap_alloc_new _ _
  have x0 := fun o => row_cell c0 o
  have xB := fun o => row_cell ((BV.block B (Array.getElem?_eq_some_iff.1 hbx).1).trans hbx) o
  obtain ⟨X, HX⟩ : ∃ X, Hid (X = docC S D D) := ⟨_, rfl⟩
  have hq := types_fault a c S a' c' D V (G.TdRow.up hS BV) hO hB (DeRow.up hD BV) hb hdoc
  rw [← HX.out] at hq
  rw [← HX.out]
  have HQ : Hid _ := hq
  have HBV : Hid _ := BV
  clear hS hO hB hD hb hdoc hbx c0 BV hq
  go_enter Tryz.func55, Tryz.ntmps55
  go_upto_region 1 with fail
  rw [← hV]
  clear hV
  go_wp2_with fail
  refine Calls.mono HQ.out ?_
  rintro e w1 ⟨rfl, b1⟩
  have B1 : Hid (Below w.heap.size w w1) := HBV.out.trans (b1.mono HBV.out.size)
  clear b1 x0 xB HQ
  go_wp2_with fail
  go_ret
  exact ⟨rfl, B1.out⟩
/-- The five rules' codes. -/
def VaR (S : List G.Td) (D : List De) : Nat → Int → Prop
  | 0 => fun y => y = opCode D
  | 1 => fun y => y = docC S D D
  | 2 => fun y => CycC D y
  | 3 => fun y => Lims D D y
  | _ => fun y => MrgC D y
def vaG : Nat → Nat
  | 0 => 58
  | 1 => 55
  | 2 => 59
  | 3 => 60
  | _ => 61
def vaC (B : Nat) : Nat → Array Value
  | 1 => #[.pointer (some ⟨B, 0, none⟩)]
  | _ => #[]
theorem FsR.val {S : List G.Td} {D : List De} {y : Int} (h : FsR (VaR S D) 5 y) : ValR S D y := by
  rcases h with ⟨rfl, h⟩ | ⟨hy, i, hi, h1, h2⟩
  · have e0 : 0 = opCode D := h 0 (by omega)
    have e1 : 0 = docC S D D := h 1 (by omega)
    have e2 : CycC D 0 := h 2 (by omega)
    have e3 : Lims D D 0 := h 3 (by omega)
    have e4 : MrgC D 0 := h 4 (by omega)
    have e2' : ¬ Cyc D := by rcases e2 with ⟨h, _⟩ | ⟨_, h⟩; exact absurd h (by decide); exact h
    exact .inr ⟨e0.symm, .inr ⟨e1.symm, .inr ⟨e2', 0, e3, .inr ⟨rfl, e4⟩⟩⟩⟩
  · have hcase : i = 0 ∨ i = 1 ∨ i = 2 ∨ i = 3 ∨ i = 4 := by omega
    rcases hcase with rfl | rfl | rfl | rfl | rfl
    · have e0 : y = opCode D := h1
      exact .inl ⟨by rw [← e0]; exact hy, e0⟩
    · have e0 : 0 = opCode D := h2 0 (by omega)
      have e1 : y = docC S D D := h1
      exact .inr ⟨e0.symm, .inl ⟨by rw [← e1]; exact hy, e1⟩⟩
    · have e0 : 0 = opCode D := h2 0 (by omega)
      have e1 : 0 = docC S D D := h2 1 (by omega)
      have e2 : CycC D y := h1
      rcases e2 with ⟨h, h'⟩ | ⟨h, _⟩
      · exact .inr ⟨e0.symm, .inr ⟨e1.symm, .inl ⟨h', h⟩⟩⟩
      · exact absurd h hy
    · have e0 : 0 = opCode D := h2 0 (by omega)
      have e1 : 0 = docC S D D := h2 1 (by omega)
      have e2 : CycC D 0 := h2 2 (by omega)
      have e3 : Lims D D y := h1
      have e2' : ¬ Cyc D := by rcases e2 with ⟨h, _⟩ | ⟨_, h⟩; exact absurd h (by decide); exact h
      exact .inr ⟨e0.symm, .inr ⟨e1.symm, .inr ⟨e2', y, e3, .inl ⟨hy, rfl⟩⟩⟩⟩
    · have e0 : 0 = opCode D := h2 0 (by omega)
      have e1 : 0 = docC S D D := h2 1 (by omega)
      have e2 : CycC D 0 := h2 2 (by omega)
      have e3 : Lims D D 0 := h2 3 (by omega)
      have e4 : MrgC D y := h1
      have e2' : ¬ Cyc D := by rcases e2 with ⟨h, _⟩ | ⟨_, h⟩; exact absurd h (by decide); exact h
      exact .inr ⟨e0.symm, .inr ⟨e1.symm, .inr ⟨e2', 0, e3, .inr ⟨rfl, e4⟩⟩⟩⟩
theorem vaG_in : ∀ i, i < 5 → ∀ args w, (callFunc (vaG i) args).run Tryz.prog w = .ok (.enter (vaG i) args) w := fun i hi => by
  have hcase : i = 0 ∨ i = 1 ∨ i = 2 ∨ i = 3 ∨ i = 4 := by omega
  rcases hcase with rfl | rfl | rfl | rfl | rfl
  · exact enters_of Tryz.func58 (by kernel_rfl) rfl
  · exact enters_of Tryz.func55 (by kernel_rfl) rfl
  · exact enters_of Tryz.func59 (by kernel_rfl) rfl
  · exact enters_of Tryz.func60 (by kernel_rfl) rfl
  · exact enters_of Tryz.func61 (by kernel_rfl) rfl
theorem va_rules (a : Option Addr) (c : Nat) (S : List G.Td) (a' : Option Addr) (c' : Nat) (D : List De) (B : Nat) (w : World) (hS : G.TdRow 0 w.heap.size w a S) (hO : G.OkN (S.map G.Td.nm)) (hB : G.TdsBd 1048576 S) (hD : DeRow 0 w.heap.size w a' D) (hb : DefsBd 1048576 D) (hdoc : docB D = true)
    (hbx : w.heap[B]? = some (.cells #[.slice a S.length c] 59 (0, 0))) :
    ∀ i, i < 5 → (∀ j, j < i → VaR S D j 0) → ∀ W, Below w.heap.size w W → Calls Tryz.prog (vaG i) (#[.agg #[.slice a' D.length c']] ++ vaC B i) W fun e w' => (∃ y, e = .returned (.int .i64 y) ∧ VaR S D i y) ∧ Below W.heap.size W w' := fun i hi hz W hW => by
  have hcase : i = 0 ∨ i = 1 ∨ i = 2 ∨ i = 3 ∨ i = 4 := by omega
  have hDW := DeRow.up hD hW
  rcases hcase with rfl | rfl | rfl | rfl | rfl
  · refine Calls.mono (impl_opFault a' c' D W hDW hb) ?_
    rintro e w' ⟨rfl, h⟩
    exact ⟨⟨_, rfl, rfl⟩, h⟩
  · refine Calls.mono (types_clo a c S a' c' D B W (G.TdRow.up hS hW) hO hB hDW hb hdoc ((hW.block B (Array.getElem?_eq_some_iff.1 hbx).1).trans hbx)) ?_
    rintro e w' ⟨rfl, h⟩
    exact ⟨⟨_, rfl, rfl⟩, h⟩
  · exact cycle_fault a' c' D W hDW hb
  · exact limits_fault a' c' D W hDW hb
  · have e3 : Lims D D 0 := hz 3 (by omega)
    exact merge_fault a' c' D W hDW hb (e3.ex rfl)
set_option maxHeartbeats 4000000 in
set_option maxRecDepth 40000 in
theorem impl_validate (a : Option Addr) (c : Nat) (S : List G.Td) (a' : Option Addr) (c' : Nat) (D : List De) (w : World) (hS : G.TdRow 0 w.heap.size w a S) (hB : G.TdsBd 1048576 S) (hD : DeRow 0 w.heap.size w a' D) (hb : DefsBd 1048576 D) :
    Calls Tryz.prog 30 #[.agg #[.slice a S.length c], .agg #[.slice a' D.length c']] w fun e w' => SaysC (VlR S D) e ∧ Below w.heap.size w w' := by
  have HS : Hid (∀ W0, Below w.heap.size w W0 → G.TdRow 0 W0.heap.size W0 a S) := fun W0 hB => G.TdRow.up hS hB
  have HB : Hid (G.TdsBd 1048576 S) := hB
  have K1 : Hid (∀ W0, Below w.heap.size w W0 → DeRow 0 W0.heap.size W0 a' D) := fun W0 hB => DeRow.up hD hB
  have HD : Hid (DefsBd 1048576 D) := hb
  clear hS hB hD hb
  go_enter Tryz.func30, Tryz.ntmps30
  go_wp2_with fail
  obtain ⟨W, hW⟩ : ∃ W, W = (w.alloc (.cells #[.slice a S.length c] 59)).alloc (.cells #[.slice a' D.length c'] 33) := ⟨_, rfl⟩
  rw [← hW]
  have zW : W.heap.size = w.heap.size + 2 := by rw [hW]; simp
  have BW : Hid (Below w.heap.size w W) := by rw [hW]; exact ((Below.refl _ _).alloc (Nat.le_refl _) _).alloc (by simp) _
  have A0 : Hid (W.heap[w.heap.size]? = some (.cells #[.slice a S.length c] 59 (0, 0))) := by rw [Hid, hW, Below.heap_alloc _ _ _ (by simp)]; exact heap_alloc_new _ _
  have A1 : Hid (W.heap[w.heap.size + 1]? = some (.cells #[.slice a' D.length c'] 33 (0, 0))) := by
    rw [Hid, hW]
    have := heap_alloc_new (w.alloc (.cells #[.slice a S.length c] 59)) (.cells #[.slice a' D.length c'] 33)
    simpa using this
  clear hW
  refine (G.impl_schema a c S _ (HS.out _ BW.out) HB.out).mono ?_
  rintro e w1 ⟨⟨b, rfl, hbl⟩, hb1⟩
  have z1 := hb1.size
  have Q1 : Hid (Below w.heap.size w w1) := BW.out.trans (hb1.mono (by omega))
  have A01 : Hid (w1.heap[w.heap.size]? = some (.cells #[.slice a S.length c] 59 (0, 0))) := (hb1.block _ (by omega)).trans A0.out
  have A11 : Hid (w1.heap[w.heap.size + 1]? = some (.cells #[.slice a' D.length c'] 33 (0, 0))) := (hb1.block _ (by omega)).trans A1.out
  have c1 := row_cell A11.out 0
  clear hb1
  rcases hbl with ⟨rfl, hp⟩ | ⟨rfl, hp⟩
  case inr =>
    have HN : Hid (VlR S D 0 1) := .inl ⟨hp, rfl, rfl⟩
    clear hp
    go_wp2_with fail
    go_ret2
    exact ⟨⟨_, _, rfl, HN.out⟩, Q1.out⟩
  have HOK : Hid (G.SchOK S) := hp
  clear hp
  go_wp2_with fail
  refine (impl_doc a' c' D _ (K1.out _ Q1.out) HD.out.1 HD.out.2).mono ?_
  rintro e w2 ⟨rfl, hb2⟩
  have z2 := hb2.size
  have Q2 : Hid (Below w.heap.size w w2) := Q1.out.trans (hb2.mono (by omega))
  have A02 : Hid (w2.heap[w.heap.size]? = some (.cells #[.slice a S.length c] 59 (0, 0))) := (hb2.block w.heap.size (by omega)).trans A01.out
  have c21 := row_cell ((hb2.block (w.heap.size + 1) (by omega)).trans A11.out) 0
  clear hb2 c1
  cases hdb : docB D with
  | false =>
    have HN : Hid (VlR S D 0 1) := .inr (.inl ⟨HOK.out, hdb, rfl, rfl⟩)
    clear hdb
    go_wp2_with fail
    go_ret2
    exact ⟨⟨_, _, rfl, HN.out⟩, Q2.out⟩
  | true =>
    have HDB : Hid (docB D = true) := hdb
    clear hdb
    obtain ⟨V, hV⟩ : ∃ V, V = w2.alloc (.cells #[.func (.func 58) #[] #[], .func (.func 55) #[] #[.pointer (some ⟨w.heap.size, 0, none⟩)], .func (.func 59) #[] #[], .func (.func 60) #[] #[], .func (.func 61) #[] #[]] 154) := ⟨_, rfl⟩
    have BV : Below w2.heap.size w2 V := by rw [hV]; exact (Below.refl _ _).alloc (Nat.le_refl _) _
    have cV : V.heap[w2.heap.size]? = some (.cells #[.func (.func 58) #[] #[], .func (.func 55) #[] #[.pointer (some ⟨w.heap.size, 0, none⟩)], .func (.func 59) #[] #[], .func (.func 60) #[] #[], .func (.func 61) #[] #[]] 154 (0, 0)) := by rw [hV]; exact heap_alloc_new _ _
    have QV : Hid (Below w.heap.size w V) := Q2.out.trans (BV.mono (by omega))
    have hq := first_fault (.agg #[.slice a' D.length c']) ⟨_, _, _, rfl⟩ vaG (vaC w.heap.size) 5 (by omega) (VaR S D) w2.heap.size 5 V (fun i hi => by
      have hcase : i = 0 ∨ i = 1 ∨ i = 2 ∨ i = 3 ∨ i = 4 := by omega
      rcases hcase with rfl | rfl | rfl | rfl | rfl <;> exact row_cell cV _) (Array.getElem?_eq_some_iff.1 cV).1 vaG_in (va_rules a c S a' c' D w.heap.size V (HS.out _ QV.out) HOK.out.2.2.2.2.1 HB.out (K1.out _ QV.out) HD.out HDB.out ((BV.block _ (by omega)).trans A02.out))
    have HQ : Hid _ := hq
    clear hq BV cV
    go_wp2_with fail
    rw [← hV]
    clear hV
    refine Calls.mono HQ.out ?_
    rintro e w3 ⟨⟨y, rfl, hy⟩, hb3⟩
    have HN : Hid (VlR S D y 0) := .inr (.inr ⟨HOK.out, HDB.out, hy.val, rfl⟩)
    have Q3 : Hid (Below w.heap.size w w3) := QV.out.trans (hb3.mono QV.out.size)
    clear hb3 c21 hy HQ
    go_wp2_with fail
    go_ret2
    exact ⟨⟨_, _, rfl, HN.out⟩, Q3.out⟩
end Go.Proofs.YtkjndghkimnjeaaGreat
namespace Go.Proofs.YtkjndghkimnjeaaGreat
open Go.ChangeShapes Go.WideShapes Go.ChangeAt Go.RowKit
set_option linter.unusedVariables false

def va0 : Va := ⟨0, 0, ⟨#[]⟩⟩
/-- What a name is bound to, and whether it is. -/
def lk : List Ar → ByteArray → Va × Bool
  | [], _ => (va0, false)
  | x :: l, t => if (x.nm.toList == t.toList) = true then (x.v, true) else lk l t
def bval (v : Va) (l : List Ar) : Va × Bool := if v.k = 4 then lk l v.t else (v, true)
theorem bval_not {v : Va} {l : List Ar} (h : ¬ v.k = 4) : bval v l = (v, true) := if_neg h
theorem bval_var {v : Va} {l : List Ar} (h : v.k = 4) : bval v l = lk l v.t := if_pos h
theorem lk_yes {l : List Ar} {k : Nat} (hk : k < l.length) {t : ByteArray} (h : (l[k].nm.toList == t.toList) = true) : lk (l.drop k) t = (l[k].v, true) := by
  rw [List.drop_eq_getElem_cons hk]; simp only [lk]; rw [if_pos h]
theorem lk_no {l : List Ar} {k : Nat} (hk : k < l.length) {t : ByteArray} (h : (l[k].nm.toList == t.toList) = false) : lk (l.drop k) t = lk (l.drop (k + 1)) t := by
  rw [List.drop_eq_getElem_cons hk]; simp only [lk]; rw [if_neg (by rw [h]; exact Bool.noConfusion)]
theorem lk_end {l : List Ar} {k : Nat} (hk : ¬ k < l.length) {t : ByteArray} : lk (l.drop k) t = (va0, false) := by
  rw [List.drop_of_length_le (by omega)]; rfl
theorem lk_bd {m : Nat} {t : ByteArray} : ∀ {l : List Ar} {u : Va} {b : Bool}, (∀ x ∈ l, ArBd m x) → lk l t = (u, b) → u.t.size ≤ m
  | [], u, b, _, h => by
    simp only [lk, Prod.mk.injEq] at h
    obtain ⟨rfl, rfl⟩ := h
    exact Nat.zero_le _
  | x :: l, u, b, ht, h => by
    simp only [lk] at h
    split at h
    · simp only [Prod.mk.injEq] at h
      obtain ⟨rfl, rfl⟩ := h
      exact (ht x (List.mem_cons_self ..)).2
    · exact lk_bd (fun y hy => ht y (List.mem_cons_of_mem _ hy)) h
theorem bval_bd {m : Nat} {v u : Va} {b : Bool} {l : List Ar} (hv : v.t.size ≤ m) (ht : ∀ x ∈ l, ArBd m x) (h : bval v l = (u, b)) : u.t.size ≤ m := by
  by_cases h4 : v.k = 4
  · rw [bval_var h4] at h; exact lk_bd ht h
  · rw [bval_not h4] at h
    simp only [Prod.mk.injEq] at h
    obtain ⟨rfl, rfl⟩ := h
    exact hv

set_option maxHeartbeats 2000000 in
set_option maxRecDepth 20000 in
theorem spec_value (v : Va) (a : Option Addr) (c : Nat) (l : List Ar) (u : Va) (b : Bool) (w : World) (hr : ArRow 0 w.heap.size w a l) (hl : l.length ≤ 1048576) (hu : bval v l = (u, b)) :
    Calls Tryz.prog 83 #[.agg #[.int .i64 v.k, .int .i64 v.n, .string v.t], .slice a l.length c] w fun e w' => e = .returned (.tuple #[.agg #[.int .i64 u.k, .int .i64 u.n, .string u.t], .bool b]) ∧ Below w.heap.size w w' := by
  obtain ⟨k0, n0, t0⟩ := v
  have HR : Hid (ArRow 0 w.heap.size w a l) := hr
  clear hr
  by_cases h4 : k0 = 4
  case neg =>
    have g4 : (k0 == 4) = false := by rw [beq_eq_false_iff_ne]; exact h4
    rw [bval_not h4] at hu
    simp only [Prod.mk.injEq] at hu
    obtain ⟨rfl, rfl⟩ := hu
    simp only
    clear h4
    go_enter Tryz.func83, Tryz.ntmps83
    go_wp2_with fail
    refine bodyPost_ret (v := .tuple #[.agg #[.int .i64 k0, .int .i64 n0, .string t0], .bool true]) (by simp [results, Tryz.results83, go_sem]) rfl ⟨rfl, ?_⟩
    repeat (first | exact Below.refl _ _ | refine Below.setCell ?_ (by first | omega | (simp <;> omega)) _ | refine Below.alloc ?_ (by first | omega | (simp <;> omega)) _)
  subst h4
  rw [bval_var rfl] at hu
  have HU : Hid (lk l t0 = (u, b)) := hu
  clear hu
  simp only
  go_enter Tryz.func83, Tryz.ntmps83
  go_wp2_with fail
  obtain ⟨W, hW⟩ : ∃ W, W = (w.alloc (.cells #[.int .i64 4, .int .i64 n0, .string t0] 62)).alloc (.cells #[.int .i64 0, .int .i64 0, .string ⟨#[]⟩] 62) := ⟨_, rfl⟩
  rw [← hW]
  have zW : W.heap.size = w.heap.size + 2 := by rw [hW]; simp
  have B0 : Hid (Below w.heap.size w W) := by rw [hW]; exact ((Below.refl _ _).alloc (Nat.le_refl _) _).alloc (by simp) _
  have A0 : Hid (W.heap[w.heap.size]? = some (.cells #[.int .i64 4, .int .i64 n0, .string t0] 62 (0, 0))) := by rw [Hid, hW, Below.heap_alloc _ _ _ (by simp)]; exact heap_alloc_new _ _
  have A1 : Hid (W.heap[w.heap.size + 1]? = some (.cells #[.int .i64 0, .int .i64 0, .string ⟨#[]⟩] 62 (0, 0))) := by
    rw [Hid, hW]
    have := heap_alloc_new (w.alloc (.cells #[.int .i64 4, .int .i64 n0, .string t0] 62)) (.cells #[.int .i64 0, .int .i64 0, .string ⟨#[]⟩] 62)
    simpa using this
  clear hW
  go_loopw [6] (fun i w' => ∃ (k : Nat), k ≤ l.length ∧ i = .int .i64 k ∧ Below W.heap.size W w' ∧ Hid (lk (l.drop k) t0 = (u, b))) (fun i _ => l.length - (intOf i).toNat)
  case atStart => exact ⟨0, by omega, rfl, Below.refl _ _, HU⟩
  case round =>
    obtain ⟨k, hk, rfl, hb, HK⟩ := hrel
    have HBR : Hid _ := hb
    have QR : Hid (Below w.heap.size w wr) := B0.out.trans (hb.mono (by omega))
    have zr := hb.size
    have r0 : wr.heap[w.heap.size]? = _ := (hb.block w.heap.size (by omega)).trans A0.out
    have r1 : wr.heap[w.heap.size + 1]? = _ := (hb.block (w.heap.size + 1) (by omega)).trans A1.out
    have q0 := fun o => row_cell r0 o
    have q1 := fun o => row_cell r1 o
    have f1 := fun o => row_frozen r1 o
    have p0 := fun ob o => (((Below.refl wr.heap.size wr).alloc (Nat.le_refl _) ob).cell (p := ⟨w.heap.size, o, none⟩) (show w.heap.size < wr.heap.size by omega)).trans (q0 o)
    have p1 := fun ob o => (((Below.refl wr.heap.size wr).alloc (Nat.le_refl _) ob).cell (p := ⟨w.heap.size + 1, o, none⟩) (show w.heap.size + 1 < wr.heap.size by omega)).trans (q1 o)
    have g1 := fun ob o => (((Below.refl wr.heap.size wr).alloc (Nat.le_refl _) ob).frozen (p := ⟨w.heap.size + 1, o, none⟩) (show w.heap.size + 1 < wr.heap.size by omega)).trans (f1 o)
    clear hb r0 r1
    by_cases hlt : k < l.length
    case neg =>
      have hz := HK.out
      rw [lk_end hlt] at hz
      simp only [Prod.mk.injEq] at hz
      obtain ⟨rfl, rfl⟩ := hz
      go_wp2_with fail
      refine bodyPost_ret (v := .tuple #[.agg #[.int .i64 0, .int .i64 0, .string ⟨#[]⟩], .bool false]) (by simp [results, Tryz.results83, go_sem, q1]) rfl ⟨rfl, ?_⟩
      repeat (first | exact QR.out | refine Below.setCell ?_ (by first | omega | (simp <;> omega)) _ | refine Below.alloc ?_ (by first | omega | (simp <;> omega)) _)
    obtain ⟨b5, o5, ha, _, hbl, d0, d1, d2, d3⟩ := (HR.out.keep (Below.agree QR.out (Nat.le_refl _))).cells_ar k hlt
    subst ha
    cases h5 : (l[k].nm.toList == t0.toList) with
    | false =>
      have HF : Hid (lk (l.drop (k + 1)) t0 = (u, b)) := by rw [Hid, ← lk_no hlt h5]; exact HK.out
      clear HK
      · skip
        go_wp2_with fail
        go_quiet (fail)
        go_wp2_with fail
        go_roundw
        case rel => exact ⟨k + 1, by omega, by go_num, HBR.out.trans (by exact ⟨rfl, rfl, rfl, Nat.le_refl _, fun _ _ => rfl⟩), HF⟩
        case measure => simp [intOf]; omega
    | true =>
      have hz := HK.out
      rw [lk_yes hlt h5] at hz
      simp only [Prod.mk.injEq] at hz
      obtain ⟨rfl, rfl⟩ := hz
      · skip
        go_wp2_with fail
        go_quiet (fail)
        go_wp2_with fail
        refine bodyPost_ret (v := .tuple #[.agg #[.int .i64 l[k].v.k, .int .i64 l[k].v.n, .string l[k].v.t], .bool true]) (by simp [results, Tryz.results83, go_sem, q1]) rfl ⟨rfl, ?_⟩
        repeat (first | exact QR.out | exact QR.out.trans (by exact ⟨rfl, rfl, rfl, Nat.le_refl _, fun _ _ => rfl⟩) | refine Below.setCell ?_ (by first | omega | (simp <;> omega)) _ | refine Below.alloc ?_ (by first | omega | (simp <;> omega)) _)

set_option maxHeartbeats 2000000 in
set_option maxRecDepth 20000 in
theorem impl_bound (v : Va) (a : Option Addr) (c : Nat) (l : List Ar) (u : Va) (b : Bool) (w : World) (hr : ArRow 0 w.heap.size w a l) (hl : l.length ≤ 1048576) (hu : bval v l = (u, b)) :
    Calls Tryz.prog 102 #[.agg #[.int .i64 v.k, .int .i64 v.n, .string v.t], .slice a l.length c] w fun e w' => e = .returned (.tuple #[.agg #[.int .i64 u.k, .int .i64 u.n, .string u.t], .bool b]) ∧ Below w.heap.size w w' := by
  obtain ⟨k0, n0, t0⟩ := v
  have HR : Hid (ArRow 0 w.heap.size w a l) := hr
  clear hr
  by_cases h4 : k0 = 4
  case neg =>
    have g4 : (k0 == 4) = false := by rw [beq_eq_false_iff_ne]; exact h4
    rw [bval_not h4] at hu
    simp only [Prod.mk.injEq] at hu
    obtain ⟨rfl, rfl⟩ := hu
    simp only
    clear h4
    go_enter Tryz.func102, Tryz.ntmps102
    go_wp2_with fail
    refine bodyPost_ret (v := .tuple #[.agg #[.int .i64 k0, .int .i64 n0, .string t0], .bool true]) (by simp [results, Tryz.results102, go_sem]) rfl ⟨rfl, ?_⟩
    repeat (first | exact Below.refl _ _ | refine Below.setCell ?_ (by first | omega | (simp <;> omega)) _ | refine Below.alloc ?_ (by first | omega | (simp <;> omega)) _)
  subst h4
  rw [bval_var rfl] at hu
  have HU : Hid (lk l t0 = (u, b)) := hu
  clear hu
  simp only
  go_enter Tryz.func102, Tryz.ntmps102
  go_wp2_with fail
  obtain ⟨W, hW⟩ : ∃ W, W = (w.alloc (.cells #[.int .i64 4, .int .i64 n0, .string t0] 62)).alloc (.cells #[.int .i64 0, .int .i64 0, .string ⟨#[]⟩] 62) := ⟨_, rfl⟩
  rw [← hW]
  have zW : W.heap.size = w.heap.size + 2 := by rw [hW]; simp
  have B0 : Hid (Below w.heap.size w W) := by rw [hW]; exact ((Below.refl _ _).alloc (Nat.le_refl _) _).alloc (by simp) _
  have A0 : Hid (W.heap[w.heap.size]? = some (.cells #[.int .i64 4, .int .i64 n0, .string t0] 62 (0, 0))) := by rw [Hid, hW, Below.heap_alloc _ _ _ (by simp)]; exact heap_alloc_new _ _
  have A1 : Hid (W.heap[w.heap.size + 1]? = some (.cells #[.int .i64 0, .int .i64 0, .string ⟨#[]⟩] 62 (0, 0))) := by
    rw [Hid, hW]
    have := heap_alloc_new (w.alloc (.cells #[.int .i64 4, .int .i64 n0, .string t0] 62)) (.cells #[.int .i64 0, .int .i64 0, .string ⟨#[]⟩] 62)
    simpa using this
  clear hW
  go_loopw [14] (fun i w' => ∃ (k : Nat), k ≤ l.length ∧ i = .int .i64 k ∧ Below W.heap.size W w' ∧ Hid (lk (l.drop k) t0 = (u, b))) (fun i _ => l.length - (intOf i).toNat)
  case atStart => exact ⟨0, by omega, rfl, Below.refl _ _, HU⟩
  case round =>
    obtain ⟨k, hk, rfl, hb, HK⟩ := hrel
    have HBR : Hid _ := hb
    have QR : Hid (Below w.heap.size w wr) := B0.out.trans (hb.mono (by omega))
    have zr := hb.size
    have r0 : wr.heap[w.heap.size]? = _ := (hb.block w.heap.size (by omega)).trans A0.out
    have r1 : wr.heap[w.heap.size + 1]? = _ := (hb.block (w.heap.size + 1) (by omega)).trans A1.out
    have q0 := fun o => row_cell r0 o
    have q1 := fun o => row_cell r1 o
    have f1 := fun o => row_frozen r1 o
    have p0 := fun ob o => (((Below.refl wr.heap.size wr).alloc (Nat.le_refl _) ob).cell (p := ⟨w.heap.size, o, none⟩) (show w.heap.size < wr.heap.size by omega)).trans (q0 o)
    have p1 := fun ob o => (((Below.refl wr.heap.size wr).alloc (Nat.le_refl _) ob).cell (p := ⟨w.heap.size + 1, o, none⟩) (show w.heap.size + 1 < wr.heap.size by omega)).trans (q1 o)
    have g1 := fun ob o => (((Below.refl wr.heap.size wr).alloc (Nat.le_refl _) ob).frozen (p := ⟨w.heap.size + 1, o, none⟩) (show w.heap.size + 1 < wr.heap.size by omega)).trans (f1 o)
    clear hb r0 r1
    by_cases hlt : k < l.length
    case neg =>
      have hz := HK.out
      rw [lk_end hlt] at hz
      simp only [Prod.mk.injEq] at hz
      obtain ⟨rfl, rfl⟩ := hz
      go_wp2_with fail
      refine bodyPost_ret (v := .tuple #[.agg #[.int .i64 0, .int .i64 0, .string ⟨#[]⟩], .bool false]) (by simp [results, Tryz.results102, go_sem, q1]) rfl ⟨rfl, ?_⟩
      repeat (first | exact QR.out | refine Below.setCell ?_ (by first | omega | (simp <;> omega)) _ | refine Below.alloc ?_ (by first | omega | (simp <;> omega)) _)
    obtain ⟨b5, o5, ha, _, hbl, d0, d1, d2, d3⟩ := (HR.out.keep (Below.agree QR.out (Nat.le_refl _))).cells_ar k hlt
    subst ha
    cases h5 : (l[k].nm.toList == t0.toList) with
    | false =>
      have HF : Hid (lk (l.drop (k + 1)) t0 = (u, b)) := by rw [Hid, ← lk_no hlt h5]; exact HK.out
      clear HK
      · skip
        go_wp2_with fail
        refine ⟨⟨k + 1, by omega, by go_num, ?_, HF⟩, by simp [intOf]; omega⟩
        repeat (first | exact HBR.out | refine Below.setCell ?_ (by first | omega | (simp <;> omega)) _ | refine Below.alloc ?_ (by first | omega | (simp <;> omega)) _)
    | true =>
      have hz := HK.out
      rw [lk_yes hlt h5] at hz
      simp only [Prod.mk.injEq] at hz
      obtain ⟨rfl, rfl⟩ := hz
      · skip
        go_wp2_with fail
        refine bodyPost_ret (v := .tuple #[.agg #[.int .i64 l[k].v.k, .int .i64 l[k].v.n, .string l[k].v.t], .bool true]) (by simp [results, Tryz.results102, go_sem, p1]) rfl ⟨rfl, ?_⟩
        repeat (first | exact QR.out | exact QR.out.trans (by exact ⟨rfl, rfl, rfl, Nat.le_refl _, fun _ _ => rfl⟩) | refine Below.setCell ?_ (by first | omega | (simp <;> omega)) _ | refine Below.alloc ?_ (by first | omega | (simp <;> omega)) _)

/-- What ValueOf tells. -/
def valOf (v : Va) (l : List Ar) : Va × Int :=
  if 4096 < l.length then (va0, 2)
  else if !(valB v && bindB l) then (va0, 1)
  else if (bval v l).2 = true then ((bval v l).1, 0) else (va0, 14)

end Go.Proofs.YtkjndghkimnjeaaGreat
