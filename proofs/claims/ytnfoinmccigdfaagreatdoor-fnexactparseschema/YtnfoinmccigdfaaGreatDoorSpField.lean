/- The program's reader of schemas: a field. -/
import Derived.Test.YtnfoinmccigdfaaGreatDoorSpArgs
namespace Go.Proofs.YtnfoinmccigdfaaGreatDoor
open Go.ChangeShapes Go.WideShapes Go.ChangeAt Go.RowKit
set_option linter.unusedVariables false

/-- A field from the mark behind its name and arguments on. -/
def pFdT (nm : ByteArray) (args : List G.Ag) (l : List Tk) (j : Nat) : Option (G.Fd × Nat) :=
  if tkE (nxT l j) ⟨4, 0, ⟨#[58]⟩⟩ = false then none
  else if (nmI l (adv (tkE (nxT l (j + 1)) ⟨4, 0, ⟨#[91]⟩⟩) (j + 1))).toList = [] then none
  else if tkE (nxT l (j + 1)) ⟨4, 0, ⟨#[91]⟩⟩ = true then
    (if tkE (nxT l (adv true (j + 1) + 1)) ⟨4, 0, ⟨#[93]⟩⟩ = false then none
     else some (⟨nm, args, nmI l (adv true (j + 1)), true, tkE (nxT l (adv true (j + 1) + 1 + 1)) ⟨4, 0, ⟨#[33]⟩⟩⟩, adv (tkE (nxT l (adv true (j + 1) + 1 + 1)) ⟨4, 0, ⟨#[33]⟩⟩) (adv true (j + 1) + 1 + 1)))
  else some (⟨nm, args, nmI l (adv false (j + 1)), false, tkE (nxT l (adv false (j + 1) + 1)) ⟨4, 0, ⟨#[33]⟩⟩⟩, adv (tkE (nxT l (adv false (j + 1) + 1)) ⟨4, 0, ⟨#[33]⟩⟩) (adv false (j + 1) + 1))
def FdR (l : List Tk) (i : Nat) (r : Option (G.Fd × Nat)) : Prop := ((nmI l i).toList = [] ∧ r = none) ∨ ((nmI l i).toList ≠ [] ∧ ((tkE (nxT l (i + 1)) ⟨4, 0, ⟨#[40]⟩⟩ = false ∧ r = pFdT (nmI l i) [] l (i + 1)) ∨ (tkE (nxT l (i + 1)) ⟨4, 0, ⟨#[40]⟩⟩ = true ∧ ∃ ra, AgsR l (i + 1 + 1) ra ∧ ((ra = none ∧ r = none) ∨ ∃ args j, ra = some (args, j) ∧ r = pFdT (nmI l i) args l j))))
theorem FdR.det {l : List Tk} {i : Nat} {r r' : Option (G.Fd × Nat)} (h : FdR l i r) (h' : FdR l i r') : r = r' := by
  rcases h with ⟨h1, rfl⟩ | ⟨h1, h2⟩ <;> rcases h' with ⟨g1, rfl⟩ | ⟨g1, g2⟩
  · rfl
  · exact absurd h1 g1
  · exact absurd g1 h1
  · rcases h2 with ⟨h2, rfl⟩ | ⟨h2, ra, h3, h4⟩ <;> rcases g2 with ⟨g2, rfl⟩ | ⟨g2, ra', g3, g4⟩
    · rfl
    · rw [h2] at g2; cases g2
    · rw [h2] at g2; cases g2
    · obtain rfl := h3.det g3
      rcases h4 with ⟨rfl, rfl⟩ | ⟨args, j, rfl, rfl⟩ <;> rcases g4 with ⟨e, rfl⟩ | ⟨args', j', e, rfl⟩
      · rfl
      · cases e
      · cases e
      · cases e; rfl
abbrev fdZ : Array Value := #[.string ⟨#[]⟩, .slice none 0 0, .string ⟨#[]⟩, .bool false, .bool false]
/-- A field while it is read: the reader, the answer's cell, the field's own, its arguments' row. -/
structure FdS (ex : Array Value) (w : World) (L R A : Nat) (a : Option Addr) (c : Nat) (l : List Tk) (j : Nat) (args : List G.Ag) (av : Value) (cs : Array Value) (W : World) : Prop where
  rd : RdSt 37 ex W L a c l j
  r : W.heap[R]? = some (.cells fdZ 53 (0, 0))
  bx : W.heap[A]? = some (.cells cs 53 (0, 0))
  gr : w.grownBy W (some L)
  own : W.ownsRow w.heap.size 79 2 av args.length (agVs args)
  hL : L < w.heap.size
  hR : w.heap.size ≤ R
  hA : R < A
theorem FdS.call {ex : Array Value} {w : World} {L R A c j j' : Nat} {a : Option Addr} {l : List Tk} {args : List G.Ag} {av : Value} {cs : Array Value} {W W' : World} (h : FdS ex w L R A a c l j args av cs W) (hr : RdSt 37 ex W' L a c l j') (hg : W.grownBy W' (some L)) : FdS ex w L R A a c l j' args av cs W' :=
  ⟨hr, grown_keeps h.r (Array.getElem?_eq_some_iff.1 h.r).1 hg (by have := h.hL; have := h.hR; omega), grown_keeps h.bx (Array.getElem?_eq_some_iff.1 h.bx).1 hg (by have := h.hL; have := h.hR; have := h.hA; omega), grown_trans h.gr hg, own_grown h.own hg h.hL, h.hL, h.hR, h.hA⟩
theorem FdS.put {ex : Array Value} {w : World} {L R A c j : Nat} {a : Option Addr} {l : List Tk} {args : List G.Ag} {av : Value} {cs : Array Value} {W : World} (h : FdS ex w L R A a c l j args av cs W) (o : Nat) (v : Value) : FdS ex w L R A a c l j args av (cs.setIfInBounds o v) (W.setCell ⟨A, o, none⟩ v) := by
  have h1 := h.hL
  have h2 := h.hR
  have h3 := h.hA
  refine ⟨h.rd.keep fun g hg => heap_setCell_other _ _ _ _ (by show g ≠ A; omega), ?_, row_set h.bx o v, grown_new h.gr (by omega) _, ?_, h1, h2, h3⟩
  · rw [heap_setCell_other _ _ _ _ (by show R ≠ A; omega)]; exact h.r
  · refine ⟨h.own.1, ?_⟩
    rcases h.own.2 with h0 | ⟨g, cap, cur, rfl, q1, q2, q3⟩
    · exact .inl h0
    · refine .inr ⟨g, cap, cur, rfl, q1, ?_, q3⟩
      rw [heap_setCell_other _ _ _ _ (by
        show g ≠ A
        intro e
        rw [e, h.bx] at q2
        simp at q2)]
      exact q2
def fdV (x : G.Fd) (av : Value) : Value := .agg #[.string x.nm, av, .string x.ty, .bool x.ls, .bool x.bg]
/-- A field is told, its arguments a row of its own. -/
def FdIs (ex : Array Value) (L : Nat) (a : Option Addr) (c : Nat) (l : List Tk) (i : Nat) (w : World) (e : Ending) (w' : World) : Prop :=
  (∃ r, FdR l i r ∧ ((∃ x j av, r = some (x, j) ∧ e = .returned (fdV x av) ∧ w'.ownsRow w.heap.size 79 2 av x.args.length (agVs x.args) ∧ RdSt 37 ex w' L a c l j) ∨ (r = none ∧ badF e))) ∧ w.grownBy w' (some L)
theorem results_fieldDef (tmps : Array Value) (W : World) (N : Nat) (cs : Array Value) (h2 : tmps.getD 2 undef = .pointer (some ⟨N, 0, none⟩)) (hrow : W.heap[N]? = some (.cells cs 53 (0, 0))) (hsz : cs.size = 5) :
    (results Tryz.f50 tmps).run Tryz.prog W = .ok (.agg cs) W := by
  have c39 : (Tryz.prog.info? 53).map (·.size) = some 5 := by kernel_rfl
  exact results_cell_row Tryz.results50 tmps W N 53 cs (0, 0) _ h2 hrow Tryz.underlying53 rfl (by rw [hsz]; exact c39)
set_option maxHeartbeats 8000000 in
theorem sp_fieldDef (ex : Array Value) (L c i : Nat) (a : Option Addr) (l : List Tk) (w : World) (h : RdSt 37 ex w L a c l i) (hl : l.length ≤ 1048576) :
    Calls Tryz.prog 50 #[.pointer (some ⟨L, 0, none⟩)] w (FdIs ex L a c l i w) := by
  obtain ⟨V, hV⟩ : ∃ V, V = w.alloc (.cells fdZ 53) := ⟨_, rfl⟩
  have BV : Below w.heap.size w V := by rw [hV]; exact (Below.refl _ _).alloc (Nat.le_refl _) _
  have cV : V.heap[w.heap.size]? = some (.cells fdZ 53 (0, 0)) := by rw [hV]; exact heap_alloc_new _ _
  have zV : w.heap.size < V.heap.size := by rw [hV]; simp
  have hLw := h.lt
  have HQ : Hid _ := rd_name 37 ex L c i a l V (h.below BV) hl
  have GV : Hid (w.grownBy V (some L)) := grown_below (grown_refl w _) BV
  have HCV : Hid _ := cV
  clear h BV cV
  go_enter Tryz.func50, Tryz.ntmps50
  go_upto_region 1 with fail
  rw [← hV]
  clear hV
  go_wp2_with fail
  refine Calls.mono HQ.out ?_
  rintro e w1 ⟨⟨hn, rfl, s1⟩ | ⟨hn, rfl⟩, g1⟩
  case inr =>
    have HE : Hid (FdR l i none) := .inl ⟨hn, rfl⟩
    have G1 : Hid (w.grownBy w1 (some L)) := grown_trans GV.out g1
    clear g1 HQ hn
    go_wp2_with fail
    exact ⟨rfl, ⟨none, HE.out, .inr ⟨rfl, rfl⟩⟩, G1.out⟩
  have z1 := g1.size
  have HN1 : Hid ((nmI l i).toList ≠ []) := hn
  obtain ⟨nm, hnm⟩ : ∃ z, z = nmI l i := ⟨_, rfl⟩
  have HNM : Hid (nm = nmI l i) := hnm
  rw [← hnm]
  obtain ⟨U, hU⟩ : ∃ U, U = w1.alloc (.cells #[.string nm, .slice none 0 0, .string ⟨#[]⟩, .bool false, .bool false] 53) := ⟨_, rfl⟩
  have BU : Below w1.heap.size w1 U := by rw [hU]; exact (Below.refl _ _).alloc (Nat.le_refl _) _
  have F0 : Hid (FdS ex w L w.heap.size w1.heap.size a c l (i + 1) [] (.slice none 0 0) #[.string nm, .slice none 0 0, .string ⟨#[]⟩, .bool false, .bool false] U) := by
    refine ⟨s1.below BU, (BU.block _ (by omega)).trans (grown_keeps HCV.out zV g1 (by omega)), by rw [hU]; exact heap_alloc_new _ _, grown_below (grown_trans GV.out g1) BU, ⟨rfl, .inl ⟨rfl, rfl⟩⟩, hLw, Nat.le_refl _, by omega⟩
  have HQ2 : Hid _ := rd_passes 37 ex L c (i + 1) a l ⟨#[40]⟩ U F0.out.rd hl
  obtain ⟨r0, HR0⟩ : ∃ r, Hid (r = tkE (nxT l (i + 1)) ⟨4, 0, ⟨#[40]⟩⟩) := ⟨_, rfl⟩
  rw [← HR0.out] at HQ2
  obtain ⟨A, hA⟩ : ∃ z, z = w1.heap.size := ⟨_, rfl⟩
  rw [← hA] at F0
  clear hn s1 g1 HQ HCV GV hnm BU
  go_upto_region 2 with fail
  rw [← hU]
  rw [← hA]
  clear hU hA
  go_wp2_with fail
  refine Calls.mono HQ2.out ?_
  rintro e w2 ⟨rfl, s2, g2⟩
  have F2 : Hid _ := F0.out.call s2 g2
  clear s2 g2 HQ2 F0
  cases r0 with
  | true =>
    have HQA : Hid _ := sp_argDefs ex L c (i + 1 + 1) a l w2 F2.out.rd hl
    go_wp2_with fail
    refine Calls.mono HQA.out ?_
    rintro e w3 ⟨⟨ra, hra, ⟨args, j1, aA, cA, rfl, rfl, oA, sA⟩ | ⟨rfl, rfl⟩⟩, gA⟩
    case inr =>
      have HE : Hid (FdR l i none) := .inr ⟨HN1.out, .inr ⟨HR0.out.symm, none, hra, .inl ⟨rfl, rfl⟩⟩⟩
      have G3 : Hid (w.grownBy w3 (some L)) := grown_trans F2.out.gr gA
      clear gA HQA hra
      go_wp2_with fail
      exact ⟨rfl, ⟨none, HE.out, .inr ⟨rfl, rfl⟩⟩, G3.out⟩
    have F3 : FdS ex w L w.heap.size A a c l j1 [] (.slice none 0 0) #[.string nm, .slice none 0 0, .string ⟨#[]⟩, .bool false, .bool false] w3 := F2.out.call sA gA
    have HEND : Hid (∀ r, r = pFdT nm args l j1 → FdR l i r) := fun r hr => .inr ⟨HN1.out, .inr ⟨HR0.out.symm, _, hra, .inr ⟨args, j1, rfl, by rw [hr, HNM.out]⟩⟩⟩
    have z2 := F2.out.gr.size
    have FO : Hid (FdS ex w L w.heap.size A a c l j1 args (.slice aA args.length cA) #[.string nm, .slice none 0 0, .string ⟨#[]⟩, .bool false, .bool false] w3) := ⟨F3.rd, F3.r, F3.bx, F3.gr, own_base oA z2, F3.hL, F3.hR, F3.hA⟩
    obtain ⟨W, hW⟩ : ∃ X : World, X = w3.setCell ⟨A, 1, none⟩ (.slice aA args.length cA) := ⟨_, rfl⟩
    have FW0 : FdS ex w L w.heap.size A a c l j1 args (.slice aA args.length cA) #[.string nm, .slice aA args.length cA, .string ⟨#[]⟩, .bool false, .bool false] W := by rw [hW]; exact FO.out.put 1 _
    have y3 := fun o => row_cell FO.out.bx o
    have f3 := fun o => row_frozen FO.out.bx o
    clear hra oA sA gA HQA F3 F2 HR0
    go_upto_region 4 with fail
    rw [← hW]
    clear hW y3 f3 FO
    have FW : Hid _ := FW0
    clear FW0
    have HQ3 : Hid _ := rd_mustPass 37 ex L c j1 a l ⟨#[58]⟩ W FW.out.rd hl
    go_wp2_with fail
    refine Calls.mono HQ3.out ?_
    rintro e w4 ⟨⟨hm, rfl, s4⟩ | ⟨hm, rfl⟩, g4⟩
    case inr =>
      have HE : Hid (FdR l i none) := HEND.out none (by unfold pFdT; rw [if_pos hm])
      have G4 : Hid (w.grownBy w4 (some L)) := grown_trans FW.out.gr g4
      clear g4 HQ3 hm
      go_wp2_with fail
      exact ⟨rfl, ⟨none, HE.out, .inr ⟨rfl, rfl⟩⟩, G4.out⟩
    have HM : Hid (tkE (nxT l j1) ⟨4, 0, ⟨#[58]⟩⟩ = true) := hm
    have F4 : Hid _ := FW.out.call s4 g4
    clear hm s4 g4 HQ3 FW
    have HQ4 : Hid _ := rd_passes 37 ex L c (j1 + 1) a l ⟨#[91]⟩ w4 F4.out.rd hl
    obtain ⟨r1, HR1⟩ : ∃ r, Hid (r = tkE (nxT l (j1 + 1)) ⟨4, 0, ⟨#[91]⟩⟩) := ⟨_, rfl⟩
    rw [← HR1.out] at HQ4
    go_wp2_with fail
    refine Calls.mono HQ4.out ?_
    rintro e w5 ⟨rfl, s5, g5⟩
    have F5 : Hid _ := F4.out.call s5 g5
    clear s5 g5 HQ4 F4
    obtain ⟨X5, hX5⟩ : ∃ X : World, X = w5.setCell ⟨A, 3, none⟩ (.bool r1) := ⟨_, rfl⟩
    have F6 : Hid (FdS ex w L w.heap.size A a c l (adv r1 (j1 + 1)) args (.slice aA args.length cA) #[.string nm, .slice aA args.length cA, .string ⟨#[]⟩, .bool r1, .bool false] X5) := by rw [Hid, hX5]; exact F5.out.put 3 (.bool r1)
    have y5 := fun o => row_cell F5.out.bx o
    have f5 := fun o => row_frozen F5.out.bx o
    go_upto_region 6 with fail
    rw [← hX5]
    clear hX5 y5 f5 F5
    have HQ6 : Hid _ := rd_name 37 ex L c (adv r1 (j1 + 1)) a l X5 F6.out.rd hl
    go_wp2_with fail
    refine Calls.mono HQ6.out ?_
    rintro e w7 ⟨⟨hn, rfl, s7⟩ | ⟨hn, rfl⟩, g7⟩
    case inr =>
      have HE : Hid (FdR l i none) := HEND.out none (by unfold pFdT; rw [if_neg (by rw [HM.out]; decide), ← HR1.out, if_pos hn])
      have G7 : Hid (w.grownBy w7 (some L)) := grown_trans F6.out.gr g7
      clear g7 HQ6 hn
      go_wp2_with fail
      exact ⟨rfl, ⟨none, HE.out, .inr ⟨rfl, rfl⟩⟩, G7.out⟩
    have F7 : Hid _ := F6.out.call s7 g7
    have HNT : Hid ((nmI l (adv r1 (j1 + 1))).toList ≠ []) := hn
    obtain ⟨ty, hty⟩ : ∃ z, z = nmI l (adv r1 (j1 + 1)) := ⟨_, rfl⟩
    have HTY : Hid (ty = nmI l (adv r1 (j1 + 1))) := hty
    rw [← hty]
    clear hn s7 g7 HQ6 F6 hty
    obtain ⟨X7, hX7⟩ : ∃ X : World, X = w7.setCell ⟨A, 2, none⟩ (.string ty) := ⟨_, rfl⟩
    have F8 : Hid (FdS ex w L w.heap.size A a c l (adv r1 (j1 + 1) + 1) args (.slice aA args.length cA) #[.string nm, .slice aA args.length cA, .string ty, .bool r1, .bool false] X7) := by rw [Hid, hX7]; exact F7.out.put 2 (.string ty)
    have y7 := fun o => row_cell F7.out.bx o
    have f7 := fun o => row_frozen F7.out.bx o
    go_upto_region 7 with fail
    rw [← hX7]
    clear hX7 y7 f7 F7
    have y8 := fun o => row_cell F8.out.bx o
    cases r1 with
    | true =>
      have HQ8 : Hid _ := rd_mustPass 37 ex L c (adv true (j1 + 1) + 1) a l ⟨#[93]⟩ X7 F8.out.rd hl
      go_wp2_with fail
      refine Calls.mono HQ8.out ?_
      rintro e w9 ⟨⟨hm, rfl, s9⟩ | ⟨hm, rfl⟩, g9⟩
      case inr =>
        have HE : Hid (FdR l i none) := HEND.out none (by unfold pFdT; rw [if_neg (by rw [HM.out]; decide), ← HR1.out, if_neg HNT.out, if_pos rfl, if_pos hm])
        have G9 : Hid (w.grownBy w9 (some L)) := grown_trans F8.out.gr g9
        clear g9 HQ8 hm y8
        go_wp2_with fail
        exact ⟨rfl, ⟨none, HE.out, .inr ⟨rfl, rfl⟩⟩, G9.out⟩
      have F9 : Hid _ := F8.out.call s9 g9
      have HEQ : Hid (∀ r2, r2 = tkE (nxT l (adv true (j1 + 1) + 1 + 1)) ⟨4, 0, ⟨#[33]⟩⟩ → FdR l i (some (⟨nm, args, ty, true, r2⟩, adv r2 (adv true (j1 + 1) + 1 + 1)))) := fun r2 hr2 => HEND.out _ (by unfold pFdT; rw [if_neg (by rw [HM.out]; decide), ← HR1.out, if_neg HNT.out, if_pos rfl, if_neg (by rw [hm]; decide), ← hr2, HTY.out])
      clear hm s9 g9 HQ8 F8 y8 HEND HM HR1 HNT HTY
      obtain ⟨j9, hj9⟩ : ∃ z, z = adv true (j1 + 1) + 1 + 1 := ⟨_, rfl⟩
      rw [← hj9] at F9 HEQ
      have HQ9 : Hid _ := rd_passes 37 ex L c j9 a l ⟨#[33]⟩ w9 F9.out.rd hl
      obtain ⟨r2, HR2⟩ : ∃ r, Hid (r = tkE (nxT l j9) ⟨4, 0, ⟨#[33]⟩⟩) := ⟨_, rfl⟩
      rw [← HR2.out] at HQ9
      go_wp2_with fail
      refine Calls.mono HQ9.out ?_
      rintro e wa ⟨rfl, sa, ga⟩
      have Fa : Hid _ := F9.out.call sa ga
      have HE : Hid _ := HEQ.out r2 (by rw [HR2.out])
      clear sa ga HQ9 F9 HEQ HR2
      obtain ⟨Xa, hXa⟩ : ∃ X : World, X = wa.setCell ⟨A, 4, none⟩ (.bool r2) := ⟨_, rfl⟩
      have Fb : Hid (FdS ex w L w.heap.size A a c l (adv r2 j9) args (.slice aA args.length cA) #[.string nm, .slice aA args.length cA, .string ty, .bool true, .bool r2] Xa) := by rw [Hid, hXa]; exact Fa.out.put 4 (.bool r2)
      have ya := fun o => row_cell Fa.out.bx o
      have fa := fun o => row_frozen Fa.out.bx o
      go_upto_region 10 with fail
      rw [← hXa]
      clear hXa ya fa Fa
      have yA := fun o => row_cell Fb.out.bx o
      have yR := fun o => row_cell Fb.out.r o
      have fR := fun o => row_frozen Fb.out.r o
      have hLR := Fb.out.hL
      have hRA := Fb.out.hA
      go_wp2_with fail
      refine bodyPost_ret (v := .agg #[.string nm, .slice aA args.length cA, .string ty, .bool true, .bool r2]) (results_fieldDef _ _ w.heap.size _ rfl (row_set (row_set (row_set (row_set (row_set Fb.out.r 0 (.string nm)) 1 (.slice aA args.length cA)) 2 (.string ty)) 3 (.bool true)) 4 (.bool r2)) rfl) rfl ⟨⟨_, HE.out, .inl ⟨_, _, .slice aA args.length cA, rfl, rfl, ?_, ?_⟩⟩, ?_⟩
      · refine ⟨Fb.out.own.1, ?_⟩
        rcases Fb.out.own.2 with h0 | ⟨g, cap, cur, e0, q1, q2, q3⟩
        · exact .inl h0
        · refine .inr ⟨g, cap, cur, e0, q1, ?_, q3⟩
          have hne : g ≠ w.heap.size := by
            intro e
            rw [e, Fb.out.r] at q2
            simp at q2
          repeat rw [heap_setCell_other _ _ _ _ hne]
          exact q2
      · refine Fb.out.rd.keep fun g hg => ?_
        have hne : g ≠ w.heap.size := by omega
        repeat rw [heap_setCell_other _ _ _ _ hne]
      · repeat (refine grown_new ?_ (Nat.le_refl _) _)
        exact Fb.out.gr
    | false =>
      have F9 := F8
      obtain ⟨w9, hw9⟩ : ∃ z, z = X7 := ⟨_, rfl⟩
      rw [← hw9] at F9
      have HEQ : Hid (∀ r2, r2 = tkE (nxT l (adv false (j1 + 1) + 1)) ⟨4, 0, ⟨#[33]⟩⟩ → FdR l i (some (⟨nm, args, ty, false, r2⟩, adv r2 (adv false (j1 + 1) + 1)))) := fun r2 hr2 => HEND.out _ (by unfold pFdT; rw [if_neg (by rw [HM.out]; decide), ← HR1.out, if_neg HNT.out, if_neg (by decide), ← hr2, HTY.out])
      clear HEND HM HR1 HNT HTY F8
      obtain ⟨j9, hj9⟩ : ∃ z, z = adv false (j1 + 1) + 1 := ⟨_, rfl⟩
      rw [← hj9] at F9 HEQ
      go_upto_region 9 with fail
      rw [← hw9]
      clear y8 hw9
      have HQ9 : Hid _ := rd_passes 37 ex L c j9 a l ⟨#[33]⟩ w9 F9.out.rd hl
      obtain ⟨r2, HR2⟩ : ∃ r, Hid (r = tkE (nxT l j9) ⟨4, 0, ⟨#[33]⟩⟩) := ⟨_, rfl⟩
      rw [← HR2.out] at HQ9
      go_wp2_with fail
      refine Calls.mono HQ9.out ?_
      rintro e wa ⟨rfl, sa, ga⟩
      have Fa : Hid _ := F9.out.call sa ga
      have HE : Hid _ := HEQ.out r2 (by rw [HR2.out])
      clear sa ga HQ9 F9 HEQ HR2
      obtain ⟨Xa, hXa⟩ : ∃ X : World, X = wa.setCell ⟨A, 4, none⟩ (.bool r2) := ⟨_, rfl⟩
      have Fb : Hid (FdS ex w L w.heap.size A a c l (adv r2 j9) args (.slice aA args.length cA) #[.string nm, .slice aA args.length cA, .string ty, .bool false, .bool r2] Xa) := by rw [Hid, hXa]; exact Fa.out.put 4 (.bool r2)
      have ya := fun o => row_cell Fa.out.bx o
      have fa := fun o => row_frozen Fa.out.bx o
      go_upto_region 10 with fail
      rw [← hXa]
      clear hXa ya fa Fa
      have yA := fun o => row_cell Fb.out.bx o
      have yR := fun o => row_cell Fb.out.r o
      have fR := fun o => row_frozen Fb.out.r o
      have hLR := Fb.out.hL
      have hRA := Fb.out.hA
      go_wp2_with fail
      refine bodyPost_ret (v := .agg #[.string nm, .slice aA args.length cA, .string ty, .bool false, .bool r2]) (results_fieldDef _ _ w.heap.size _ rfl (row_set (row_set (row_set (row_set (row_set Fb.out.r 0 (.string nm)) 1 (.slice aA args.length cA)) 2 (.string ty)) 3 (.bool false)) 4 (.bool r2)) rfl) rfl ⟨⟨_, HE.out, .inl ⟨_, _, .slice aA args.length cA, rfl, rfl, ?_, ?_⟩⟩, ?_⟩
      · refine ⟨Fb.out.own.1, ?_⟩
        rcases Fb.out.own.2 with h0 | ⟨g, cap, cur, e0, q1, q2, q3⟩
        · exact .inl h0
        · refine .inr ⟨g, cap, cur, e0, q1, ?_, q3⟩
          have hne : g ≠ w.heap.size := by
            intro e
            rw [e, Fb.out.r] at q2
            simp at q2
          repeat rw [heap_setCell_other _ _ _ _ hne]
          exact q2
      · refine Fb.out.rd.keep fun g hg => ?_
        have hne : g ≠ w.heap.size := by omega
        repeat rw [heap_setCell_other _ _ _ _ hne]
      · repeat (refine grown_new ?_ (Nat.le_refl _) _)
        exact Fb.out.gr
  | false =>
    have HEND : Hid (∀ r, r = pFdT nm [] l (i + 1) → FdR l i r) := fun r hr => .inr ⟨HN1.out, .inl ⟨HR0.out.symm, by rw [hr, HNM.out]⟩⟩
    obtain ⟨W, hW⟩ : ∃ X : World, X = w2 := ⟨_, rfl⟩
    have FW0 : FdS ex w L w.heap.size A a c l (i + 1) [] (.slice none ([] : List G.Ag).length 0) #[.string nm, .slice none ([] : List G.Ag).length 0, .string ⟨#[]⟩, .bool false, .bool false] W := by rw [hW]; exact F2.out
    clear F2 HR0
    go_upto_region 4 with fail
    rw [← hW]
    clear hW
    obtain ⟨j1, hj1⟩ : ∃ z, z = i + 1 := ⟨_, rfl⟩
    obtain ⟨args, hargs⟩ : ∃ z : List G.Ag, z = [] := ⟨_, rfl⟩
    rw [← hj1, ← hargs] at HEND
    rw [← hj1, ← hargs] at FW0
    obtain ⟨aA, haA⟩ : ∃ z : Option Addr, z = none := ⟨_, rfl⟩
    obtain ⟨cA, hcA⟩ : ∃ z : Nat, z = 0 := ⟨_, rfl⟩
    have FW : Hid (FdS ex w L w.heap.size A a c l j1 args (.slice aA args.length cA) #[.string nm, .slice aA args.length cA, .string ⟨#[]⟩, .bool false, .bool false] W) := by rw [haA, hcA]; exact FW0
    clear FW0 haA hcA hargs hj1
    have HQ3 : Hid _ := rd_mustPass 37 ex L c j1 a l ⟨#[58]⟩ W FW.out.rd hl
    go_wp2_with fail
    refine Calls.mono HQ3.out ?_
    rintro e w4 ⟨⟨hm, rfl, s4⟩ | ⟨hm, rfl⟩, g4⟩
    case inr =>
      have HE : Hid (FdR l i none) := HEND.out none (by unfold pFdT; rw [if_pos hm])
      have G4 : Hid (w.grownBy w4 (some L)) := grown_trans FW.out.gr g4
      clear g4 HQ3 hm
      go_wp2_with fail
      exact ⟨rfl, ⟨none, HE.out, .inr ⟨rfl, rfl⟩⟩, G4.out⟩
    have HM : Hid (tkE (nxT l j1) ⟨4, 0, ⟨#[58]⟩⟩ = true) := hm
    have F4 : Hid _ := FW.out.call s4 g4
    clear hm s4 g4 HQ3 FW
    have HQ4 : Hid _ := rd_passes 37 ex L c (j1 + 1) a l ⟨#[91]⟩ w4 F4.out.rd hl
    obtain ⟨r1, HR1⟩ : ∃ r, Hid (r = tkE (nxT l (j1 + 1)) ⟨4, 0, ⟨#[91]⟩⟩) := ⟨_, rfl⟩
    rw [← HR1.out] at HQ4
    go_wp2_with fail
    refine Calls.mono HQ4.out ?_
    rintro e w5 ⟨rfl, s5, g5⟩
    have F5 : Hid _ := F4.out.call s5 g5
    clear s5 g5 HQ4 F4
    obtain ⟨X5, hX5⟩ : ∃ X : World, X = w5.setCell ⟨A, 3, none⟩ (.bool r1) := ⟨_, rfl⟩
    have F6 : Hid (FdS ex w L w.heap.size A a c l (adv r1 (j1 + 1)) args (.slice aA args.length cA) #[.string nm, .slice aA args.length cA, .string ⟨#[]⟩, .bool r1, .bool false] X5) := by rw [Hid, hX5]; exact F5.out.put 3 (.bool r1)
    have y5 := fun o => row_cell F5.out.bx o
    have f5 := fun o => row_frozen F5.out.bx o
    go_upto_region 6 with fail
    rw [← hX5]
    clear hX5 y5 f5 F5
    have HQ6 : Hid _ := rd_name 37 ex L c (adv r1 (j1 + 1)) a l X5 F6.out.rd hl
    go_wp2_with fail
    refine Calls.mono HQ6.out ?_
    rintro e w7 ⟨⟨hn, rfl, s7⟩ | ⟨hn, rfl⟩, g7⟩
    case inr =>
      have HE : Hid (FdR l i none) := HEND.out none (by unfold pFdT; rw [if_neg (by rw [HM.out]; decide), ← HR1.out, if_pos hn])
      have G7 : Hid (w.grownBy w7 (some L)) := grown_trans F6.out.gr g7
      clear g7 HQ6 hn
      go_wp2_with fail
      exact ⟨rfl, ⟨none, HE.out, .inr ⟨rfl, rfl⟩⟩, G7.out⟩
    have F7 : Hid _ := F6.out.call s7 g7
    have HNT : Hid ((nmI l (adv r1 (j1 + 1))).toList ≠ []) := hn
    obtain ⟨ty, hty⟩ : ∃ z, z = nmI l (adv r1 (j1 + 1)) := ⟨_, rfl⟩
    have HTY : Hid (ty = nmI l (adv r1 (j1 + 1))) := hty
    rw [← hty]
    clear hn s7 g7 HQ6 F6 hty
    obtain ⟨X7, hX7⟩ : ∃ X : World, X = w7.setCell ⟨A, 2, none⟩ (.string ty) := ⟨_, rfl⟩
    have F8 : Hid (FdS ex w L w.heap.size A a c l (adv r1 (j1 + 1) + 1) args (.slice aA args.length cA) #[.string nm, .slice aA args.length cA, .string ty, .bool r1, .bool false] X7) := by rw [Hid, hX7]; exact F7.out.put 2 (.string ty)
    have y7 := fun o => row_cell F7.out.bx o
    have f7 := fun o => row_frozen F7.out.bx o
    go_upto_region 7 with fail
    rw [← hX7]
    clear hX7 y7 f7 F7
    have y8 := fun o => row_cell F8.out.bx o
    cases r1 with
    | true =>
      have HQ8 : Hid _ := rd_mustPass 37 ex L c (adv true (j1 + 1) + 1) a l ⟨#[93]⟩ X7 F8.out.rd hl
      go_wp2_with fail
      refine Calls.mono HQ8.out ?_
      rintro e w9 ⟨⟨hm, rfl, s9⟩ | ⟨hm, rfl⟩, g9⟩
      case inr =>
        have HE : Hid (FdR l i none) := HEND.out none (by unfold pFdT; rw [if_neg (by rw [HM.out]; decide), ← HR1.out, if_neg HNT.out, if_pos rfl, if_pos hm])
        have G9 : Hid (w.grownBy w9 (some L)) := grown_trans F8.out.gr g9
        clear g9 HQ8 hm y8
        go_wp2_with fail
        exact ⟨rfl, ⟨none, HE.out, .inr ⟨rfl, rfl⟩⟩, G9.out⟩
      have F9 : Hid _ := F8.out.call s9 g9
      have HEQ : Hid (∀ r2, r2 = tkE (nxT l (adv true (j1 + 1) + 1 + 1)) ⟨4, 0, ⟨#[33]⟩⟩ → FdR l i (some (⟨nm, args, ty, true, r2⟩, adv r2 (adv true (j1 + 1) + 1 + 1)))) := fun r2 hr2 => HEND.out _ (by unfold pFdT; rw [if_neg (by rw [HM.out]; decide), ← HR1.out, if_neg HNT.out, if_pos rfl, if_neg (by rw [hm]; decide), ← hr2, HTY.out])
      clear hm s9 g9 HQ8 F8 y8 HEND HM HR1 HNT HTY
      obtain ⟨j9, hj9⟩ : ∃ z, z = adv true (j1 + 1) + 1 + 1 := ⟨_, rfl⟩
      rw [← hj9] at F9 HEQ
      have HQ9 : Hid _ := rd_passes 37 ex L c j9 a l ⟨#[33]⟩ w9 F9.out.rd hl
      obtain ⟨r2, HR2⟩ : ∃ r, Hid (r = tkE (nxT l j9) ⟨4, 0, ⟨#[33]⟩⟩) := ⟨_, rfl⟩
      rw [← HR2.out] at HQ9
      go_wp2_with fail
      refine Calls.mono HQ9.out ?_
      rintro e wa ⟨rfl, sa, ga⟩
      have Fa : Hid _ := F9.out.call sa ga
      have HE : Hid _ := HEQ.out r2 (by rw [HR2.out])
      clear sa ga HQ9 F9 HEQ HR2
      obtain ⟨Xa, hXa⟩ : ∃ X : World, X = wa.setCell ⟨A, 4, none⟩ (.bool r2) := ⟨_, rfl⟩
      have Fb : Hid (FdS ex w L w.heap.size A a c l (adv r2 j9) args (.slice aA args.length cA) #[.string nm, .slice aA args.length cA, .string ty, .bool true, .bool r2] Xa) := by rw [Hid, hXa]; exact Fa.out.put 4 (.bool r2)
      have ya := fun o => row_cell Fa.out.bx o
      have fa := fun o => row_frozen Fa.out.bx o
      go_upto_region 10 with fail
      rw [← hXa]
      clear hXa ya fa Fa
      have yA := fun o => row_cell Fb.out.bx o
      have yR := fun o => row_cell Fb.out.r o
      have fR := fun o => row_frozen Fb.out.r o
      have hLR := Fb.out.hL
      have hRA := Fb.out.hA
      go_wp2_with fail
      refine bodyPost_ret (v := .agg #[.string nm, .slice aA args.length cA, .string ty, .bool true, .bool r2]) (results_fieldDef _ _ w.heap.size _ rfl (row_set (row_set (row_set (row_set (row_set Fb.out.r 0 (.string nm)) 1 (.slice aA args.length cA)) 2 (.string ty)) 3 (.bool true)) 4 (.bool r2)) rfl) rfl ⟨⟨_, HE.out, .inl ⟨_, _, .slice aA args.length cA, rfl, rfl, ?_, ?_⟩⟩, ?_⟩
      · refine ⟨Fb.out.own.1, ?_⟩
        rcases Fb.out.own.2 with h0 | ⟨g, cap, cur, e0, q1, q2, q3⟩
        · exact .inl h0
        · refine .inr ⟨g, cap, cur, e0, q1, ?_, q3⟩
          have hne : g ≠ w.heap.size := by
            intro e
            rw [e, Fb.out.r] at q2
            simp at q2
          repeat rw [heap_setCell_other _ _ _ _ hne]
          exact q2
      · refine Fb.out.rd.keep fun g hg => ?_
        have hne : g ≠ w.heap.size := by omega
        repeat rw [heap_setCell_other _ _ _ _ hne]
      · repeat (refine grown_new ?_ (Nat.le_refl _) _)
        exact Fb.out.gr
    | false =>
      have F9 := F8
      obtain ⟨w9, hw9⟩ : ∃ z, z = X7 := ⟨_, rfl⟩
      rw [← hw9] at F9
      have HEQ : Hid (∀ r2, r2 = tkE (nxT l (adv false (j1 + 1) + 1)) ⟨4, 0, ⟨#[33]⟩⟩ → FdR l i (some (⟨nm, args, ty, false, r2⟩, adv r2 (adv false (j1 + 1) + 1)))) := fun r2 hr2 => HEND.out _ (by unfold pFdT; rw [if_neg (by rw [HM.out]; decide), ← HR1.out, if_neg HNT.out, if_neg (by decide), ← hr2, HTY.out])
      clear HEND HM HR1 HNT HTY F8
      obtain ⟨j9, hj9⟩ : ∃ z, z = adv false (j1 + 1) + 1 := ⟨_, rfl⟩
      rw [← hj9] at F9 HEQ
      go_upto_region 9 with fail
      rw [← hw9]
      clear y8 hw9
      have HQ9 : Hid _ := rd_passes 37 ex L c j9 a l ⟨#[33]⟩ w9 F9.out.rd hl
      obtain ⟨r2, HR2⟩ : ∃ r, Hid (r = tkE (nxT l j9) ⟨4, 0, ⟨#[33]⟩⟩) := ⟨_, rfl⟩
      rw [← HR2.out] at HQ9
      go_wp2_with fail
      refine Calls.mono HQ9.out ?_
      rintro e wa ⟨rfl, sa, ga⟩
      have Fa : Hid _ := F9.out.call sa ga
      have HE : Hid _ := HEQ.out r2 (by rw [HR2.out])
      clear sa ga HQ9 F9 HEQ HR2
      obtain ⟨Xa, hXa⟩ : ∃ X : World, X = wa.setCell ⟨A, 4, none⟩ (.bool r2) := ⟨_, rfl⟩
      have Fb : Hid (FdS ex w L w.heap.size A a c l (adv r2 j9) args (.slice aA args.length cA) #[.string nm, .slice aA args.length cA, .string ty, .bool false, .bool r2] Xa) := by rw [Hid, hXa]; exact Fa.out.put 4 (.bool r2)
      have ya := fun o => row_cell Fa.out.bx o
      have fa := fun o => row_frozen Fa.out.bx o
      go_upto_region 10 with fail
      rw [← hXa]
      clear hXa ya fa Fa
      have yA := fun o => row_cell Fb.out.bx o
      have yR := fun o => row_cell Fb.out.r o
      have fR := fun o => row_frozen Fb.out.r o
      have hLR := Fb.out.hL
      have hRA := Fb.out.hA
      go_wp2_with fail
      refine bodyPost_ret (v := .agg #[.string nm, .slice aA args.length cA, .string ty, .bool false, .bool r2]) (results_fieldDef _ _ w.heap.size _ rfl (row_set (row_set (row_set (row_set (row_set Fb.out.r 0 (.string nm)) 1 (.slice aA args.length cA)) 2 (.string ty)) 3 (.bool false)) 4 (.bool r2)) rfl) rfl ⟨⟨_, HE.out, .inl ⟨_, _, .slice aA args.length cA, rfl, rfl, ?_, ?_⟩⟩, ?_⟩
      · refine ⟨Fb.out.own.1, ?_⟩
        rcases Fb.out.own.2 with h0 | ⟨g, cap, cur, e0, q1, q2, q3⟩
        · exact .inl h0
        · refine .inr ⟨g, cap, cur, e0, q1, ?_, q3⟩
          have hne : g ≠ w.heap.size := by
            intro e
            rw [e, Fb.out.r] at q2
            simp at q2
          repeat rw [heap_setCell_other _ _ _ _ hne]
          exact q2
      · refine Fb.out.rd.keep fun g hg => ?_
        have hne : g ≠ w.heap.size := by omega
        repeat rw [heap_setCell_other _ _ _ _ hne]
      · repeat (refine grown_new ?_ (Nat.le_refl _) _)
        exact Fb.out.gr
end Go.Proofs.YtnfoinmccigdfaaGreatDoor
