/- What is told of a document and its variables ahead of a run, on both sides. -/
import Derived.Test.YtkjndghkimnjeaaGreatBnVal
import Derived.Test.YtkjndghkimnjeaaGreatGOwn
import Derived.Test.YtkjndghkimnjeaaGreatPlainSpec
import Derived.Test.YtkjndghkimnjeaaGreatPlainImplTwo
import Derived.Test.YtkjndghkimnjeaaGreatPlainBd
import Derived.Deep.RegionWith
import Derived.Deep.CutRange
namespace Go.Proofs.YtkjndghkimnjeaaGreat
open Go.ChangeShapes Go.WideShapes Go.ChangeAt Go.RowKit Go.Maps
set_option linter.unusedVariables false

/-- The code of a document and its bindings. -/
def AkR (D : List De) (L : List Ar) (y : Int) : Prop := ((docB D && bindB L) = false ∧ y = 1) ∨ ((docB D && bindB L) = true ∧ ∃ x, ValR G.PL D x ∧ ((x ≠ 0 ∧ y = x) ∨ (x = 0 ∧ y = st (fitD L D) 0)))
theorem AkR.one {D : List De} {L : List Ar} {y y' : Int} (h : AkR D L y) (h' : AkR D L y') : y = y' := by
  rcases h with ⟨h1, rfl⟩ | ⟨h1, x, h2, h3⟩ <;> rcases h' with ⟨g1, rfl⟩ | ⟨g1, x', g2, g3⟩
  · rfl
  · rw [h1] at g1; cases g1
  · rw [h1] at g1; cases g1
  · obtain rfl := h2.one g2
    rcases h3 with ⟨h3, rfl⟩ | ⟨h3, rfl⟩ <;> rcases g3 with ⟨g3, rfl⟩ | ⟨g3, rfl⟩
    · rfl
    · exact absurd g3 h3
    · exact absurd h3 g3
    · rfl
def okNB (ns : List ByteArray) : Bool := (List.range ns.length).all fun j => match ns[j]? with
  | some x => nameB x && !G.seen (ns.take j) x
  | none => true
theorem okNB_ok {ns : List ByteArray} (h : okNB ns = true) : G.OkN ns := fun j hj => by
  unfold okNB at h
  rw [List.all_eq_true] at h
  have := h j (List.mem_range.2 hj)
  rw [List.getElem?_eq_getElem hj] at this
  simpa using this
def fdB (ts : List ByteArray) (f : G.Fd) : Bool := (G.isIn f.ty || G.seen ts f.ty) && decide (f.args.length ≤ 4) && okNB (f.args.map G.Ag.nm)
def tdB (ts : List ByteArray) (x : G.Td) : Bool := decide (1 ≤ x.fs.length) && decide (x.fs.length ≤ 10) && okNB (x.fs.map G.Fd.nm) && !G.seen (x.fs.map G.Fd.nm) G.bTn && x.fs.all (fdB ts)
def schBB (l : List G.Td) : Bool := decide (1 ≤ l.length) && decide (l.length ≤ 8) && G.seen (l.map G.Td.nm) G.bQu && !G.seen (l.map G.Td.nm) G.bIn && okNB (l.map G.Td.nm) && l.all (tdB (l.map G.Td.nm))
theorem schBB_ok {l : List G.Td} (h : schBB l = true) : G.SchOK l := by
  unfold schBB at h
  simp only [Bool.and_eq_true, decide_eq_true_eq, Bool.not_eq_true', List.all_eq_true] at h
  obtain ⟨⟨⟨⟨⟨h1, h2⟩, h3⟩, h4⟩, h5⟩, h6⟩ := h
  refine ⟨h1, h2, h3, h4, okNB_ok h5, fun x hx => ?_⟩
  have h7 := h6 x hx
  unfold tdB at h7
  simp only [Bool.and_eq_true, decide_eq_true_eq, Bool.not_eq_true', List.all_eq_true] at h7
  obtain ⟨⟨⟨⟨g1, g2⟩, g3⟩, g4⟩, g5⟩ := h7
  refine ⟨g1, g2, okNB_ok g3, g4, fun f hf => ?_⟩
  have h8 := g5 f hf
  unfold fdB at h8
  simp only [Bool.and_eq_true, decide_eq_true_eq, Bool.or_eq_true] at h8
  exact ⟨h8.1.1, h8.1.2, okNB_ok h8.2⟩
theorem pl_ok : G.SchOK G.PL := schBB_ok (by kernel_rfl)
set_option maxHeartbeats 4000000 in
set_option maxRecDepth 40000 in
theorem spec_ask (a' : Option Addr) (c' : Nat) (D : List De) (a : Option Addr) (c : Nat) (L : List Ar) (w : World) (hD : DeRow 0 w.heap.size w a' D) (hb : DefsBd 1048576 D) (hr : ArRow 0 w.heap.size w a L) (hl : L.length ≤ 1048576) (ht : ∀ x ∈ L, ArBd 1048576 x) :
    Calls Tryz.prog 12 #[.agg #[.slice a' D.length c'], .slice a L.length c] w fun e w' => (∃ y, e = .returned (.int .i64 y) ∧ AkR D L y) ∧ Below w.heap.size w w' := by
  obtain ⟨V, hV⟩ : ∃ V, V = w.alloc (.cells #[.slice a' D.length c'] 33) := ⟨_, rfl⟩
  have BV : Below w.heap.size w V := by rw [hV]; exact (Below.refl _ _).alloc (Nat.le_refl _) _
  have c0 : V.heap[w.heap.size]? = some (.cells #[.slice a' D.length c'] 33 (0, 0)) := by rw [hV]; exact heap_alloc_new _ _
  have z0 := (Array.getElem?_eq_some_iff.1 c0).1
  have T : Hid (∀ W, Below V.heap.size V W → W.heap[w.heap.size]? = some (.cells #[.slice a' D.length c'] 33 (0, 0)) ∧ DeRow 0 W.heap.size W a' D ∧ ArRow 0 W.heap.size W a L ∧ Below w.heap.size w W) := fun W hW =>
    have hw := BV.trans (hW.mono BV.size)
    ⟨(hW.block _ z0).trans c0, DeRow.up hD hw, Row.up hr hw, hw⟩
  have HB : Hid (DefsBd 1048576 D) := hb
  have HT : Hid (∀ x ∈ L, ArBd 1048576 x) := ht
  have x0 := fun o => row_cell c0 o
  have T0 : Hid _ := T.out V (Below.refl _ _)
  clear hD hb hr ht c0 BV
  go_enter Tryz.func12, Tryz.ntmps12
  go_upto_region 1 with fail
  rw [← hV]
  clear hV
  go_wp2_with fail
  refine (spec_doc a' c' D _ T0.out.2.1 HB.out.1 HB.out.2).mono ?_
  rintro e w1 ⟨rfl, p1⟩
  have Q1 : Hid (Below V.heap.size V w1) := p1
  have T1 : Hid _ := T.out w1 p1
  clear p1 x0 T0
  cases hdb : docB D with
  | false =>
    have HE : Hid (AkR D L 1) := .inl ⟨by rw [hdb]; rfl, rfl⟩
    go_wp2_with fail
    go_ret
    exact ⟨⟨1, rfl, HE.out⟩, T1.out.2.2.2⟩
  | true =>
  have HDB : Hid (docB D = true) := hdb
  clear hdb
  have x1 := fun o => row_cell T1.out.1 o
  go_wp2_with fail
  refine (spec_binds a c L _ T1.out.2.2.1 hl HT.out).mono ?_
  rintro e w2 ⟨rfl, p2⟩
  have Q2 : Hid (Below V.heap.size V w2) := Q1.out.trans (p2.mono Q1.out.size)
  have T2 : Hid _ := T.out w2 Q2.out
  clear p2 x1 T1
  cases hbb : bindB L with
  | false =>
    have HE : Hid (AkR D L 1) := .inl ⟨by rw [hbb, Bool.and_false], rfl⟩
    clear hbb
    go_wp2_with fail
    go_ret
    exact ⟨⟨1, rfl, HE.out⟩, T2.out.2.2.2⟩
  | true =>
  have HBB : Hid ((docB D && bindB L) = true) := by rw [Hid, HDB.out, hbb]; rfl
  clear hbb
  have x2 := fun o => row_cell T2.out.1 o
  go_upto_region 3 with fail
  go_cut [5] from 14 to 16 (fun v wx => ∃ y, v = .int .i64 y ∧ Hid (ValR G.PL D y) ∧ Hid (Below V.heap.size V wx))
  case first =>
    go_region_with (first
      | (go_at_call 24
         refine Calls.mono (G.spec_plain _) ?_
         rintro e w3 ⟨aP, cP, rfl, rP, p3⟩
         have Q3 : Hid (Below V.heap.size V w3) := Q2.out.drew.trans (p3.mono Q2.out.drew.size)
         have T3 : Hid _ := T.out w3 Q3.out
         have RP : Hid (G.TdRow 0 w3.heap.size w3 aP G.PL) := rP
         have x3 := fun o => row_cell T3.out.1 o
         clear p3 rP)
      | (go_at_call 23
         refine Calls.mono (spec_valAll G.PL D aP cP a' c' _ pl_ok G.PL_bd HB.out HDB.out ⟨RP.out, T3.out.2.1⟩) ?_
         rintro e w4 ⟨⟨y, rfl, hy⟩, p4⟩
         have HY : Hid (ValR G.PL D y) := hy
         have Q4 : Hid (Below V.heap.size V w4) := Q3.out.trans (p4.mono Q3.out.size)
         clear p4 hy))
    all_goals (try go_wp2_with fail)
    all_goals go_meet
    all_goals exact ⟨y, rfl, HY, Q4⟩
  obtain ⟨y, rfl, HY, Q4⟩ := hcut
  obtain ⟨w4, rfl⟩ : ∃ z, z = wc := ⟨_, rfl⟩
  have T4 : Hid _ := T.out w4 Q4.out
  clear x2 T2
  have x4 := fun o => row_cell T4.out.1 o
  by_cases hz : y = 0
  · subst hz
    have HQ : Hid _ := spec_fits a' c' D a c L w4 T4.out.2.1 HB.out T4.out.2.2.1 hl
    have HE : Hid (AkR D L (st (fitD L D) 0)) := .inr ⟨HBB.out, 0, HY.out, .inr ⟨rfl, rfl⟩⟩
    go_wp2_with fail
    refine Calls.mono HQ.out ?_
    rintro e w5 ⟨rfl, p5⟩
    have T5 : Hid _ := T.out w5 (Q4.out.trans (p5.mono Q4.out.size))
    generalize st (fitD L D) 0 = z at *
    clear p5 x4 HQ
    go_wp2_with fail
    go_ret
    exact ⟨⟨z, rfl, HE.out⟩, T5.out.2.2.2⟩
  · have hz' : (y != 0) = true := by simpa using hz
    have HE : Hid (AkR D L y) := .inr ⟨HBB.out, y, HY.out, .inl ⟨hz, rfl⟩⟩
    clear hz
    go_wp2_with fail
    go_ret
    exact ⟨⟨y, rfl, HE.out⟩, T4.out.2.2.2⟩
set_option maxHeartbeats 4000000 in
set_option maxRecDepth 40000 in
theorem impl_ask (a' : Option Addr) (c' : Nat) (D : List De) (a : Option Addr) (c : Nat) (L : List Ar) (w : World) (hD : DeRow 0 w.heap.size w a' D) (hb : DefsBd 1048576 D) (hr : ArRow 0 w.heap.size w a L) (hl : L.length ≤ 1048576) (ht : ∀ x ∈ L, ArBd 1048576 x) (hM : L.length ≤ 4096 ∨ bindB L = false) :
    Calls Tryz.prog 16 #[.agg #[.slice a' D.length c'], .slice a L.length c] w fun e w' => (∃ y, e = .returned (.int .i64 y) ∧ AkR D L y) ∧ Below w.heap.size w w' := by
  obtain ⟨V, hV⟩ : ∃ V, V = w.alloc (.cells #[.slice a' D.length c'] 33) := ⟨_, rfl⟩
  have BV : Below w.heap.size w V := by rw [hV]; exact (Below.refl _ _).alloc (Nat.le_refl _) _
  have c0 : V.heap[w.heap.size]? = some (.cells #[.slice a' D.length c'] 33 (0, 0)) := by rw [hV]; exact heap_alloc_new _ _
  have z0 := (Array.getElem?_eq_some_iff.1 c0).1
  have T : Hid (∀ W, Below V.heap.size V W → W.heap[w.heap.size]? = some (.cells #[.slice a' D.length c'] 33 (0, 0)) ∧ DeRow 0 W.heap.size W a' D ∧ ArRow 0 W.heap.size W a L ∧ Below w.heap.size w W) := fun W hW =>
    have hw := BV.trans (hW.mono BV.size)
    ⟨(hW.block _ z0).trans c0, DeRow.up hD hw, Row.up hr hw, hw⟩
  have HB : Hid (DefsBd 1048576 D) := hb
  have HT : Hid (∀ x ∈ L, ArBd 1048576 x) := ht
  have HM : Hid (L.length ≤ 4096 ∨ bindB L = false) := hM
  have x0 := fun o => row_cell c0 o
  have T0 : Hid _ := T.out V (Below.refl _ _)
  clear hD hb hr ht c0 BV hM
  go_enter Tryz.func16, Tryz.ntmps16
  go_upto_region 1 with fail
  rw [← hV]
  clear hV
  go_wp2_with fail
  refine (impl_doc a' c' D _ T0.out.2.1 HB.out.1 HB.out.2).mono ?_
  rintro e w1 ⟨rfl, p1⟩
  have Q1 : Hid (Below V.heap.size V w1) := p1
  have T1 : Hid _ := T.out w1 p1
  clear p1 x0 T0
  cases hdb : docB D with
  | false =>
    have HE : Hid (AkR D L 1) := .inl ⟨by rw [hdb]; rfl, rfl⟩
    go_wp2_with fail
    go_ret
    exact ⟨⟨1, rfl, HE.out⟩, T1.out.2.2.2⟩
  | true =>
  have HDB : Hid (docB D = true) := hdb
  clear hdb
  have x1 := fun o => row_cell T1.out.1 o
  go_wp2_with fail
  refine (impl_binds a c L _ T1.out.2.2.1 hl HT.out).mono ?_
  rintro e w2 ⟨rfl, p2⟩
  have Q2 : Hid (Below V.heap.size V w2) := Q1.out.trans (p2.mono Q1.out.size)
  have T2 : Hid _ := T.out w2 Q2.out
  clear p2 x1 T1
  cases hbb : bindB L with
  | false =>
    have HE : Hid (AkR D L 1) := .inl ⟨by rw [hbb, Bool.and_false], rfl⟩
    clear hbb
    go_wp2_with fail
    go_ret
    exact ⟨⟨1, rfl, HE.out⟩, T2.out.2.2.2⟩
  | true =>
  have HBB : Hid ((docB D && bindB L) = true) := by rw [Hid, HDB.out, hbb]; rfl
  have HVF : Hid (varsFit D L = (st (fitD L D) 0, 0)) := by
    have h4 : ¬ 4096 < L.length := by
      rcases HM.out with h | h
      · omega
      · rw [hbb] at h; cases h
    unfold Hid varsFit
    rw [if_neg h4, HBB.out]
    rfl
  clear hbb
  have x2 := fun o => row_cell T2.out.1 o
  go_upto_region 3 with fail
  go_cut [5, 6] from 17 to 22 (fun v v2 wx => ∃ y y2, v = .int .i64 y ∧ v2 = .int .i64 y2 ∧ Hid (ValR G.PL D y) ∧ Hid (Below V.heap.size V wx))
  case first =>
    go_region_with (first
      | (go_at_call 31
         refine Calls.mono (G.impl_plain _) ?_
         rintro e w3 ⟨aP, cP, rfl, rP, p3⟩
         have Q3 : Hid (Below V.heap.size V w3) := Q2.out.drew.trans (p3.mono Q2.out.drew.size)
         have T3 : Hid _ := T.out w3 Q3.out
         have RP : Hid (G.TdRow 0 w3.heap.size w3 aP G.PL) := G.TdRow.wide rP.row (Nat.zero_le _) (Nat.le_refl _)
         have x3 := fun o => row_cell T3.out.1 o
         clear p3 rP)
      | (go_at_call 30
         refine Calls.mono (impl_validate aP cP G.PL a' c' D _ RP.out G.PL_bd T3.out.2.1 HB.out) ?_
         rintro e w4 ⟨⟨y, y2, rfl, hy⟩, p4⟩
         have HY : Hid (ValR G.PL D y) := by
           rcases hy with ⟨h, _⟩ | ⟨_, h, _⟩ | ⟨_, _, h, _⟩
           · exact absurd pl_ok h
           · rw [HDB.out] at h; cases h
           · exact h
         have Q4 : Hid (Below V.heap.size V w4) := Q3.out.trans (p4.mono Q3.out.size)
         clear p4 hy))
    all_goals (try go_wp2_with fail)
    all_goals go_meet
    all_goals exact ⟨y, y2, rfl, rfl, HY, Q4⟩
  obtain ⟨y, y2, rfl, rfl, HY, Q4⟩ := hcut
  obtain ⟨w4, rfl⟩ : ∃ z, z = wc := ⟨_, rfl⟩
  have T4 : Hid _ := T.out w4 Q4.out
  clear x2 T2
  have x4 := fun o => row_cell T4.out.1 o
  by_cases hz : y = 0
  · subst hz
    have HQ : Hid _ := impl_varsFit a' c' D a c L _ _ w4 T4.out.2.1 HB.out T4.out.2.2.1 hl HT.out HVF.out
    have HE : Hid (AkR D L (st (fitD L D) 0)) := .inr ⟨HBB.out, 0, HY.out, .inr ⟨rfl, rfl⟩⟩
    go_wp2_with fail
    refine Calls.mono HQ.out ?_
    rintro e w5 ⟨rfl, p5⟩
    have T5 : Hid _ := T.out w5 (Q4.out.trans (p5.mono Q4.out.size))
    generalize st (fitD L D) 0 = z at *
    clear p5 x4 HQ
    go_wp2_with fail
    go_ret
    exact ⟨⟨z, rfl, HE.out⟩, T5.out.2.2.2⟩
  · have hz' : (y != 0) = true := by simpa using hz
    have HE : Hid (AkR D L y) := .inr ⟨HBB.out, y, HY.out, .inl ⟨hz, rfl⟩⟩
    clear hz
    go_wp2_with fail
    go_ret
    exact ⟨⟨y, rfl, HE.out⟩, T4.out.2.2.2⟩
end Go.Proofs.YtkjndghkimnjeaaGreat
