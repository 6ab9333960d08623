/- OpOf, both sides. -/
import Derived.Test.YtibmddgmgljnbaaDocOp
import Derived.Deep.QuietTactic
namespace Go.Proofs.Ytibmddgmgljnbaa
open Go.ChangeShapes Go.WideShapes Go.ChangeAt Go.RowKit Go.Maps
set_option linter.unusedVariables false

set_option maxHeartbeats 4000000 in
set_option maxRecDepth 40000 in
theorem impl_opOf (a : Option Addr) (c : Nat) (l : List De) (w : World) (hr : DeRow 0 w.heap.size w a l) (hb : DefsBd 1048576 l) :
    Calls Try.prog 15 #[.agg #[.slice a l.length c]] w fun e w' => SaysO w.heap.size w' (OpR l) e ∧ Below w.heap.size w w' := by
  have K1 : Hid (∀ W0, Below w.heap.size w W0 → DeRow 0 W0.heap.size W0 a l) := fun W0 hB => DeRow.up hr hB
  have HB : Hid (DefsBd 1048576 l) := hb
  have hl : l.length ≤ 1048576 := hb.1
  clear hr hb
  go_enter Try.func15, Try.ntmps15
  go_wp2_with fail
  refine (impl_doc a c l _ (K1.out _ ?b0) HB.out.1 HB.out.2).mono ?_
  case b0 => repeat (first | exact Below.refl _ _ | refine Below.setCell ?_ (by first | omega | (simp <;> omega)) _ | refine Below.alloc ?_ (by first | omega | (simp <;> omega)) _)
  rintro e w1 ⟨rfl, hb1⟩
  have z1 : w.heap.size + 2 ≤ w1.heap.size := by have := hb1.size; simp at this; omega
  have Q1 : Hid (Below w.heap.size w w1) := by
    refine Below.trans ?_ (hb1.mono (by first | omega | (simp <;> omega)))
    repeat (first | exact Below.refl _ _ | refine Below.setCell ?_ (by first | omega | (simp <;> omega)) _ | refine Below.alloc ?_ (by first | omega | (simp <;> omega)) _)
  have k10 := fun o => hb1.cell (p := ⟨w.heap.size, o, none⟩) (by first | omega | (simp <;> omega))
  have k11 := fun o => hb1.cell (p := ⟨w.heap.size + 1, o, none⟩) (by first | omega | (simp <;> omega))
  have j11 := fun o => hb1.frozen (p := ⟨w.heap.size + 1, o, none⟩) (by first | omega | (simp <;> omega))
  clear hb1
  cases hdb : docB l with
  | false =>
    have HN : Hid (OpR l de0 1) := .inl ⟨hdb, rfl, rfl⟩
    clear hdb
    go_wp2_with fail
    refine bodyPost_ret (v := .tuple #[.agg #[.int .i64 0, .string ⟨#[]⟩, .string ⟨#[]⟩, .slice none 0 0], .int .i64 1]) (by simp [results, Try.results15, go_sem, k11]) rfl ⟨SaysO.zero HN.out, ?_⟩
    repeat (first | exact Q1.out | refine Below.setCell ?_ (by first | omega | (simp <;> omega)) _ | refine Below.alloc ?_ (by first | omega | (simp <;> omega)) _)
  | true =>
  have HDB : Hid (docB l = true) := hdb
  clear hdb
  go_wp2_with fail
  refine (op_place a c l _ (K1.out _ Q1.out) HB.out).mono ?_
  rintro e w2 ⟨p, y, rfl, hp, hb2⟩
  have z2 := hb2.size
  have Q2 : Hid (Below w.heap.size w w2) := Q1.out.trans (hb2.mono (by omega))
  have k20 := fun o => hb2.cell (p := ⟨w.heap.size, o, none⟩) (show w.heap.size < w1.heap.size by omega)
  have k21 := fun o => hb2.cell (p := ⟨w.heap.size + 1, o, none⟩) (show w.heap.size + 1 < w1.heap.size by omega)
  have j21 := fun o => hb2.frozen (p := ⟨w.heap.size + 1, o, none⟩) (show w.heap.size + 1 < w1.heap.size by omega)
  clear hb2
  rcases hp with ⟨p1, rfl, rfl⟩ | ⟨p1, ⟨p2, rfl, rfl⟩ | ⟨p2, rfl, rfl⟩ | ⟨p2, rfl, j, hj, rfl, pj⟩⟩
  · have HN : Hid (OpR l de0 19) := .inr ⟨HDB.out, .inl ⟨p1, rfl, rfl⟩⟩
    clear p1
    go_wp2_with fail
    refine bodyPost_ret (v := .tuple #[.agg #[.int .i64 0, .string ⟨#[]⟩, .string ⟨#[]⟩, .slice none 0 0], .int .i64 19]) (by simp [results, Try.results15, go_sem, k21, k11]) rfl ⟨SaysO.zero HN.out, ?_⟩
    repeat (first | exact Q2.out | refine Below.setCell ?_ (by first | omega | (simp <;> omega)) _ | refine Below.alloc ?_ (by first | omega | (simp <;> omega)) _)
  · have HN : Hid (OpR l de0 5) := .inr ⟨HDB.out, .inr ⟨p1, .inl ⟨p2, rfl, rfl⟩⟩⟩
    clear p1 p2
    go_wp2_with fail
    refine bodyPost_ret (v := .tuple #[.agg #[.int .i64 0, .string ⟨#[]⟩, .string ⟨#[]⟩, .slice none 0 0], .int .i64 5]) (by simp [results, Try.results15, go_sem, k21, k11]) rfl ⟨SaysO.zero HN.out, ?_⟩
    repeat (first | exact Q2.out | refine Below.setCell ?_ (by first | omega | (simp <;> omega)) _ | refine Below.alloc ?_ (by first | omega | (simp <;> omega)) _)
  · have HN : Hid (OpR l de0 6) := .inr ⟨HDB.out, .inr ⟨p1, .inr (.inl ⟨p2, rfl, rfl⟩)⟩⟩
    clear p1 p2
    go_wp2_with fail
    refine bodyPost_ret (v := .tuple #[.agg #[.int .i64 0, .string ⟨#[]⟩, .string ⟨#[]⟩, .slice none 0 0], .int .i64 6]) (by simp [results, Try.results15, go_sem, k21, k11]) rfl ⟨SaysO.zero HN.out, ?_⟩
    repeat (first | exact Q2.out | refine Below.setCell ?_ (by first | omega | (simp <;> omega)) _ | refine Below.alloc ?_ (by first | omega | (simp <;> omega)) _)
  have HF : Hid (OpR l l[j] 0) := .inr ⟨HDB.out, .inr ⟨p1, .inr (.inr ⟨p2, pj, rfl⟩)⟩⟩
  have HX : Hid (DeBd 1048576 l[j]) := HB.out.2 _ (List.getElem_mem hj)
  clear p1 p2 pj
  obtain ⟨b, o, a3, c3, ha, _, hbl, d0, d1, d2, d3, r3⟩ := DeRow.cells (K1.out _ Q2.out) j hj
  subst ha
  have R3 : Hid (SelRow 0 w2.heap.size w2 a3 l[j].sels) := r3
  clear r3
  go_wp2_with fail
  refine (clone_def l[j] a3 c3 _ R3.out HX.out).mono ?_
  rintro e w3 ⟨b3, f3, rfl, A3, hb3⟩
  have z3 := hb3.size
  have A3 : Hid (SelOwn (w.heap.size + 2) w3.heap.size w3 b3 l[j].sels) := SelOwn.wide A3 (by first | omega | (simp <;> omega)) (Nat.le_refl _)
  have k31 := fun o => hb3.cell (p := ⟨w.heap.size + 1, o, none⟩) (show w.heap.size + 1 < w2.heap.size by omega)
  have j31 := fun o => hb3.frozen (p := ⟨w.heap.size + 1, o, none⟩) (show w.heap.size + 1 < w2.heap.size by omega)
  have Q3 : Hid (Below w.heap.size w w3) := Q2.out.trans (hb3.mono (by omega))
  clear hb3
  go_wp2_with fail
  refine bodyPost_ret (v := .tuple #[deV l[j] b3 f3, .int .i64 0]) (by simp [results, Try.results15, go_sem, k31, k21, k11, deV]) rfl ?_
  have G : ∀ W' : World, W'.heap.size = w3.heap.size → Agree (w.heap.size + 2) w3.heap.size w3 W' → Below w.heap.size w W' → SaysO w.heap.size W' (OpR l) (.returned (.tuple #[deV l[j] b3 f3, .int .i64 0])) ∧ Below w.heap.size w W' :=
    fun W' hw ha hB => ⟨⟨_, _, _, _, rfl, HF.out, SelOwn.wide (SelOwn.keep A3.out ha) (by omega) (by omega)⟩, hB⟩
  refine G _ (by simp) ?_ ?_
  · intro g h1 h2
    repeat rw [heap_set _ _ _ _ _ (by omega)]
  · repeat (refine Below.setCell ?_ (by first | omega | (simp <;> omega)) _)
    exact Q3.out
end Go.Proofs.Ytibmddgmgljnbaa
