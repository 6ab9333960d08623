/- The program's reader of schemas: an argument. -/
import Derived.Test.YtnfoinmccigdfaaGreatDoorRdImpl
import Derived.Test.YtnfoinmccigdfaaGreatDoorSchRows
namespace Go.Proofs.YtnfoinmccigdfaaGreatDoor
open Go.ChangeShapes Go.WideShapes Go.ChangeAt Go.RowKit
set_option linter.unusedVariables false

/-- An argument of a field at a place, and the place behind it. -/
def pAg (l : List Tk) (i : Nat) : Option (G.Ag × Nat) :=
  if (nmI l i).toList = [] then none
  else if tkE (nxT l (i + 1)) ⟨4, 0, ⟨#[58]⟩⟩ = false then none
  else if (nmI l (i + 1 + 1)).toList ≠ (⟨#[73, 110, 116]⟩ : ByteArray).toList then none
  else some (⟨nmI l i, tkE (nxT l (i + 1 + 1 + 1)) ⟨4, 0, ⟨#[33]⟩⟩⟩, adv (tkE (nxT l (i + 1 + 1 + 1)) ⟨4, 0, ⟨#[33]⟩⟩) (i + 1 + 1 + 1))
/-- What a reader tells: what is read, its place behind it; or a fault of form. -/
def ReadIs {α : Type} (val : α → Value) (T : TypeId) (ex : Array Value) (L : Nat) (a : Option Addr) (c : Nat) (l : List Tk) (r : Option (α × Nat)) (w : World) (e : Ending) (w' : World) : Prop :=
  ((∃ x j, r = some (x, j) ∧ e = .returned (val x) ∧ RdSt T ex w' L a c l j) ∨ (r = none ∧ badF e)) ∧ w.grownBy w' (some L)
def agV (x : G.Ag) : Value := .agg #[.string x.nm, .bool x.need]
theorem results_argDef (tmps : Array Value) (W : World) (N : Nat) (cs : Array Value) (h2 : tmps.getD 2 undef = .pointer (some ⟨N, 0, none⟩)) (hrow : W.heap[N]? = some (.cells cs 79 (0, 0))) (hsz : cs.size = 2) :
    (results Tryz.f89 tmps).run Tryz.prog W = .ok (.agg cs) W := by
  have c39 : (Tryz.prog.info? 79).map (·.size) = some 2 := by kernel_rfl
  exact results_cell_row Tryz.results89 tmps W N 79 cs (0, 0) _ h2 hrow Tryz.underlying79 rfl (by rw [hsz]; exact c39)
theorem grown_keeps {w w' : World} {L N : Nat} {o : Option Obj} (h : w.heap[N]? = o) (hN : N < w.heap.size) (hg : w.grownBy w' (some L)) (hne : N ≠ L) : w'.heap[N]? = o := (hg.block N hN (by intro e; simp only [Option.some.injEq] at e; exact hne e)).trans h
set_option maxHeartbeats 4000000 in
theorem sp_argDef (ex : Array Value) (L c i : Nat) (a : Option Addr) (l : List Tk) (w : World) (h : RdSt 37 ex w L a c l i) (hl : l.length ≤ 1048576) :
    Calls Tryz.prog 89 #[.pointer (some ⟨L, 0, none⟩)] w (ReadIs agV 37 ex L a c l (pAg l i) w) := by
  obtain ⟨P, HP⟩ : ∃ P, Hid (P = pAg l i) := ⟨_, rfl⟩
  rw [← HP.out]
  obtain ⟨V, hV⟩ : ∃ V, V = w.alloc (.cells #[.string ⟨#[]⟩, .bool false] 79) := ⟨_, rfl⟩
  have BV : Below w.heap.size w V := by rw [hV]; exact (Below.refl _ _).alloc (Nat.le_refl _) _
  have cV : V.heap[w.heap.size]? = some (.cells #[.string ⟨#[]⟩, .bool false] 79 (0, 0)) := by rw [hV]; exact heap_alloc_new _ _
  have zV : w.heap.size < V.heap.size := by rw [hV]; simp
  have hLw := h.lt
  have HQ : Hid _ := rd_name 37 ex L c i a l V (h.below BV) hl
  have GV : Hid (w.grownBy V (some L)) := grown_below (grown_refl w _) BV
  have HCV : Hid _ := cV
  clear h BV cV
  go_enter Tryz.func89, Tryz.ntmps89
  go_upto_region 1 with fail
  rw [← hV]
  clear hV
  go_wp2_with fail
  refine Calls.mono HQ.out ?_
  rintro e w1 ⟨⟨hn, rfl, s1⟩ | ⟨hn, rfl⟩, g1⟩
  case inr =>
    have HE : Hid (P = none) := by rw [Hid, HP.out]; unfold pAg; rw [if_pos hn]
    have G1 : Hid (w.grownBy w1 (some L)) := grown_trans GV.out g1
    clear g1 HQ hn
    go_wp2_with fail
    exact ⟨rfl, .inr ⟨HE.out, rfl⟩, G1.out⟩
  have z1 := g1.size
  have C1 : Hid (w1.heap[w.heap.size]? = some (.cells #[.string ⟨#[]⟩, .bool false] 79 (0, 0))) := grown_keeps HCV.out zV g1 (by omega)
  have G1 : Hid (w.grownBy w1 (some L)) := grown_trans GV.out g1
  have HN1 : Hid ((nmI l i).toList ≠ []) := hn
  obtain ⟨nm, hnm⟩ : ∃ z, z = nmI l i := ⟨_, rfl⟩
  have HNM : Hid (nm = nmI l i) := hnm
  rw [← hnm]
  obtain ⟨U, hU⟩ : ∃ U, U = w1.alloc (.cells #[.string nm, .bool false] 79) := ⟨_, rfl⟩
  have BU : Below w1.heap.size w1 U := by rw [hU]; exact (Below.refl _ _).alloc (Nat.le_refl _) _
  have cU : U.heap[w1.heap.size]? = some (.cells #[.string nm, .bool false] 79 (0, 0)) := by rw [hU]; exact heap_alloc_new _ _
  have zU : w1.heap.size < U.heap.size := by rw [hU]; simp
  have hL1 := s1.lt
  have HQ2 : Hid _ := rd_mustPass 37 ex L c (i + 1) a l ⟨#[58]⟩ U (s1.below BU) hl
  have GU : Hid (w.grownBy U (some L)) := grown_below G1.out BU
  have C1U : Hid (U.heap[w.heap.size]? = some (.cells #[.string ⟨#[]⟩, .bool false] 79 (0, 0))) := (BU.block _ (by omega)).trans C1.out
  have CU : Hid _ := cU
  clear hn s1 g1 HQ HCV GV C1 G1 hnm BU cU
  go_upto_region 2 with fail
  rw [← hU]
  clear hU
  go_wp2_with fail
  refine Calls.mono HQ2.out ?_
  rintro e w2 ⟨⟨hm, rfl, s2⟩ | ⟨hm, rfl⟩, g2⟩
  case inr =>
    have HE : Hid (P = none) := by rw [Hid, HP.out]; unfold pAg; rw [if_neg HN1.out, if_pos hm]
    have G2 : Hid (w.grownBy w2 (some L)) := grown_trans GU.out g2
    clear g2 HQ2 hm
    go_wp2_with fail
    exact ⟨rfl, .inr ⟨HE.out, rfl⟩, G2.out⟩
  have z2 := g2.size
  have HM : Hid (tkE (nxT l (i + 1)) ⟨4, 0, ⟨#[58]⟩⟩ = true) := hm
  have HQ3 : Hid _ := rd_word 37 ex L c (i + 1 + 1) a l ⟨#[73, 110, 116]⟩ w2 s2 hl (by rw [ByteArray.toList_eq]; simp)
  have G2 : Hid (w.grownBy w2 (some L)) := grown_trans GU.out g2
  have C2 : Hid (w2.heap[w.heap.size]? = some (.cells #[.string ⟨#[]⟩, .bool false] 79 (0, 0))) := grown_keeps C1U.out (by omega) g2 (by omega)
  have D2 : Hid (w2.heap[w1.heap.size]? = some (.cells #[.string nm, .bool false] 79 (0, 0))) := grown_keeps CU.out zU g2 (by omega)
  clear hm s2 g2 HQ2 GU C1U CU
  go_wp2_with fail
  refine Calls.mono HQ3.out ?_
  rintro e w3 ⟨⟨hw, rfl, s3⟩ | ⟨hw, rfl⟩, g3⟩
  case inr =>
    have HE : Hid (P = none) := by rw [Hid, HP.out]; unfold pAg; rw [if_neg HN1.out, if_neg (by rw [HM.out]; decide), if_pos hw]
    have G3 : Hid (w.grownBy w3 (some L)) := grown_trans G2.out g3
    clear g3 HQ3 hw
    go_wp2_with fail
    exact ⟨rfl, .inr ⟨HE.out, rfl⟩, G3.out⟩
  have z3 := g3.size
  have HW : Hid ((nmI l (i + 1 + 1)).toList = (⟨#[73, 110, 116]⟩ : ByteArray).toList) := hw
  have HQ4 : Hid _ := rd_passes 37 ex L c (i + 1 + 1 + 1) a l ⟨#[33]⟩ w3 s3 hl
  have G3 : Hid (w.grownBy w3 (some L)) := grown_trans G2.out g3
  have C3 : Hid (w3.heap[w.heap.size]? = some (.cells #[.string ⟨#[]⟩, .bool false] 79 (0, 0))) := grown_keeps C2.out (by omega) g3 (by omega)
  have D3 : Hid (w3.heap[w1.heap.size]? = some (.cells #[.string nm, .bool false] 79 (0, 0))) := grown_keeps D2.out (by omega) g3 (by omega)
  clear hw s3 g3 HQ3 G2 C2 D2
  go_wp2_with fail
  refine Calls.mono HQ4.out ?_
  rintro e w4 ⟨rfl, s4, g4⟩
  have HE : Hid (P = some (⟨nm, tkE (nxT l (i + 1 + 1 + 1)) ⟨4, 0, ⟨#[33]⟩⟩⟩, adv (tkE (nxT l (i + 1 + 1 + 1)) ⟨4, 0, ⟨#[33]⟩⟩) (i + 1 + 1 + 1))) := by
    rw [Hid, HP.out]; unfold pAg
    rw [if_neg HN1.out, if_neg (by rw [HM.out]; decide), if_neg (by rw [HW.out]; simp), HNM.out]
  have G4 : Hid (w.grownBy w4 (some L)) := grown_trans G3.out g4
  have C4 : Hid (w4.heap[w.heap.size]? = some (.cells #[.string ⟨#[]⟩, .bool false] 79 (0, 0))) := grown_keeps C3.out (by omega) g4 (by omega)
  have D4 : Hid (w4.heap[w1.heap.size]? = some (.cells #[.string nm, .bool false] 79 (0, 0))) := grown_keeps D3.out (by omega) g4 (by omega)
  have HS4 : Hid _ := s4
  generalize tkE (nxT l (i + 1 + 1 + 1)) ⟨4, 0, ⟨#[33]⟩⟩ = r at *
  clear s4 g4 HQ4 G3 C3 D3
  obtain ⟨X, hX⟩ : ∃ X : World, X = w4.setCell ⟨w1.heap.size, 1, none⟩ (.bool r) := ⟨_, rfl⟩
  have DX := row_set D4.out 1 (.bool r)
  have CX := (heap_setCell_other w4 ⟨w1.heap.size, 1, none⟩ w.heap.size (.bool r) (by show w.heap.size ≠ w1.heap.size; omega)).trans C4.out
  rw [← hX] at DX CX
  have SX : Hid (RdSt 37 ex X L a c l (adv r (i + 1 + 1 + 1))) := HS4.out.keep fun g hg => by rw [hX]; exact heap_setCell_other _ _ _ _ (by show g ≠ w1.heap.size; omega)
  have GX : Hid (w.grownBy X (some L)) := by rw [Hid, hX]; exact grown_new G4.out (by omega) _
  have y4 := fun o => row_cell D4.out o
  have f4 := fun o => row_frozen D4.out o
  go_upto_region 5 with fail
  rw [← hX]
  clear hX y4 f4 HS4 G4 C4 D4
  have xA := fun o => row_cell DX o
  have xR := fun o => row_cell CX o
  have fR := fun o => row_frozen CX o
  have HCX : Hid _ := CX
  clear DX CX
  go_wp2_with fail
  refine bodyPost_ret (v := .agg #[.string nm, .bool r]) (results_argDef _ _ w.heap.size _ rfl (row_set (row_set HCX.out 0 (.string nm)) 1 (.bool r)) rfl) rfl ⟨.inl ⟨_, _, HE.out, rfl, ?_⟩, ?_⟩
  · refine SX.out.keep fun g hg => ?_
    rw [heap_setCell_other _ _ _ _ (by show g ≠ w.heap.size; omega), heap_setCell_other _ _ _ _ (by show g ≠ w.heap.size; omega)]
  · exact grown_new (grown_new GX.out (Nat.le_refl _) _) (Nat.le_refl _) _
end Go.Proofs.YtnfoinmccigdfaaGreatDoor
