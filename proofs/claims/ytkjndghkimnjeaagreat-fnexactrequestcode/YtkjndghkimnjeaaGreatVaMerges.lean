/- Merging: the program's way. -/
import Derived.Test.YtkjndghkimnjeaaGreatVaGroups
import Derived.Test.YtkjndghkimnjeaaGreatVaSameC
import Derived.Test.YtkjndghkimnjeaaGreatVaMrgSpec
namespace Go.Proofs.YtkjndghkimnjeaaGreat
open Go.ChangeShapes Go.WideShapes Go.ChangeAt Go.RowKit Go.Maps
set_option linter.unusedVariables false

/-- The groups ahead of k are settled. -/
def GrO (l : List De) (f : List (Hd × Sels)) (ps : List (ByteArray × Value)) (k : Nat) : Prop := ∀ t (h : t < ps.length), t < k → (∀ y ∈ ofK ps[t].1.toList f, ∀ z ∈ ofK ps[t].1.toList f, SameA y.1 z.1) ∧ MOk l (tog (ofK ps[t].1.toList f))
theorem ps_key {f : List (Hd × Sels)} {ps : List (ByteArray × Value)} (hps : ps.map (·.1) = gkeys f) {t : Nat} (ht : t < ps.length) : ∃ h : t < (gkeys f).length, ps[t].1 = (gkeys f)[t] := by
  have h1 : (ps.map (·.1))[t]? = (gkeys f)[t]? := by rw [hps]
  rw [List.getElem?_map, List.getElem?_eq_getElem ht] at h1
  obtain ⟨h2, h3⟩ := List.getElem?_eq_some_iff.1 h1.symm
  exact ⟨h2, h3.symm⟩
theorem GrO.done {l : List De} {s f : List (Hd × Sels)} {ps : List (ByteArray × Value)} (hps : ps.map (·.1) = gkeys f) (hf : Flat l s f) (h : GrO l f ps ps.length) : MOk l s := by
  have key : ∀ x ∈ f, ∃ t, ∃ ht : t < ps.length, ps[t].1.toList = kyL x := fun x hx => by
    obtain ⟨t, ht, e⟩ := seen_at (gkeys_mem hx)
    have hl : ps.length = (gkeys f).length := by rw [← hps, List.length_map]
    obtain ⟨h2, h3⟩ := ps_key hps (t := t) (by omega)
    exact ⟨t, by omega, by rw [h3, e]; rfl⟩
  refine .mk hf (fun x hx y hy he => ?_) fun x hx => ?_
  · obtain ⟨t, ht, e⟩ := key x hx
    refine (h t ht ht).1 x (List.mem_filter.2 ⟨hx, ?_⟩) y (List.mem_filter.2 ⟨hy, ?_⟩)
    · rw [e]; simp
    · rw [e, he]; simp
  · obtain ⟨t, ht, e⟩ := key x hx
    rw [← e]; exact (h t ht ht).2
theorem GrO.next {l : List De} {f : List (Hd × Sels)} {ps : List (ByteArray × Value)} {k : Nat} (h : GrO l f ps k) (hk : k < ps.length) (h1 : ∀ y ∈ ofK ps[k].1.toList f, ∀ z ∈ ofK ps[k].1.toList f, SameA y.1 z.1) (h2 : MOk l (tog (ofK ps[k].1.toList f))) : GrO l f ps (k + 1) := fun t ht hlt => by
  by_cases e : t = k
  · subst e; exact ⟨h1, h2⟩
  · exact h t ht (by omega)
def MergP (w0 W0 : World) (B : Nat) (l : List De) (n : Nat) : Prop := ∀ (s : List (Hd × Sels)) (a1 : Option Addr) (c1 : Nat) (w : World), Ex l s n → FRow w0 0 w.heap.size w a1 s → LB s → Below W0.heap.size W0 w →
    Calls Tryz.prog 101 #[.map (some B), .slice a1 s.length c1] w fun e w' => MrgB l s e ∧ Below w.heap.size w w'
set_option maxHeartbeats 16000000 in
set_option maxRecDepth 40000 in
theorem merges_of (w0 W0 : World) (B : Nat) (l : List De) (hdb : DefsBd 1048576 l) (hF : FrHeld w0 W0 B (frsOf l)) (h00 : Below w0.heap.size w0 W0) (n : Nat) (hn : n ≤ 400) : MergP w0 W0 B l n := by
  induction n using Nat.strongRecOn with
  | _ n ih =>
  intro s a1 c1 w hex hr hlb hbw
  have IH : Hid (∀ n', n' < n → MergP w0 W0 B l n') := fun n' h => ih n' h (by omega)
  have HQF : Hid _ := fields_of w0 W0 B l hdb hF h00 n hn s a1 c1 w hex hr hlb hbw
  have HDB : Hid (DefsBd 1048576 l) := hdb
  have HLB : Hid (LB s) := hlb
  have H00 : Hid (Below w0.heap.size w0 W0) := h00
  have HBW : Hid (Below W0.heap.size W0 w) := hbw
  have HEX : Hid (Ex l s n) := hex
  clear hr ih hdb hlb hF h00 hbw hex
  go_enter Tryz.func101, Tryz.ntmps101
  go_wp2_with fail
  refine Calls.mono HQF.out ?_
  rintro e w1 ⟨⟨f, a6, c6, hf, rfl, o6⟩, p1⟩
  have HFL : Hid (Flat l s f) := hf
  have hfl : f.length ≤ n := hf.len HEX.out
  have HLF : Hid (LB f) := LB.flat HDB.out hf (by omega) HLB.out
  obtain ⟨m, HXF, hmn⟩ : ∃ m, Hid (ExF l f m) ∧ m ≤ n := by
    obtain ⟨f', m, h1, h2, h3⟩ := HEX.out.flat
    rw [← hf.det h1] at h2
    exact ⟨m, h2, h3⟩
  have HR1 : Hid (FRow w0 0 w1.heap.size w1 a6 f) := by
    obtain ⟨a9, c9, e9, _, h9⟩ := o6.row
    simp only [Value.slice.injEq] at e9
    rw [e9.1]; exact h9
  have B1 : Hid (Below w.heap.size w w1) := p1
  have HQG : Hid _ := groups_of w0 f a6 c6 w1 HR1.out HLF.out
  clear hf o6 p1 HQF HLB HEX HR1
  go_wp2_with fail
  refine Calls.mono HQG.out ?_
  rintro e w2 ⟨⟨a7, c7, ps, rfl, hps, hg⟩, p2⟩
  have HPS : Hid (ps.map (·.1) = gkeys f) := hps
  have hpl : ps.length = (gkeys f).length := by rw [← hps, List.length_map]
  have hpk : ps.length ≤ f.length := by have := gkeys_len f; omega
  have B2 : Hid (Below w.heap.size w w2) := B1.out.trans (p2.mono B1.out.size)
  have G2 : Hid (∀ W, Below w2.heap.size w2 W → GrpAt w0 (w1.heap.size + 1) W (.slice a7 ps.length c7) ps f) := fun W h => hg.up h
  clear hps hg p2 HQG hpl
  have zw2 := B2.out.size
  go_wp2_with fail
  go_loopw [14] (fun i w' => ∃ k : Nat, i = .int .i64 k ∧ k ≤ ps.length ∧ Hid (Below w2.heap.size w2 w') ∧ Hid (GrO l f ps k)) (fun i _ => ps.length - (intOf i).toNat)
  case atStart => exact ⟨0, rfl, Nat.zero_le _, Below.refl _ _, fun t _ h => absurd h (by omega)⟩
  case round =>
    obtain ⟨k, rfl, hk, HB, HGO⟩ := hrel
    obtain ⟨wo, rfl⟩ : ∃ z, z = wr := ⟨_, rfl⟩
    have BWO : Hid (Below w.heap.size w wo) := B2.out.trans (HB.out.mono zw2)
    by_cases hlt : k < ps.length
    case neg =>
      have hlt' : ¬ (k : Int) < ps.length := by omega
      have HE : Hid (MOk l s) := GrO.done HPS.out HFL.out (by have := HGO.out; rwa [show k = ps.length by omega] at this)
      clear HGO
      go_wp2_with fail
      go_ret
      exact ⟨⟨true, rfl, fun _ => HE.out, fun _ => rfl⟩, BWO.out⟩
    have hlt' : (k : Int) < ps.length := by omega
    have hgw := G2.out wo HB.out
    obtain ⟨g7, cap7, he7, _⟩ := hgw.own.form (by omega)
    simp only [Value.slice.injEq, true_and] at he7
    obtain ⟨ha7, hc7⟩ := he7
    subst ha7
    clear hc7
    obtain ⟨gi, hgi⟩ : ∃ z, z = ofK ps[k].1.toList f := ⟨_, rfl⟩
    have FO : FOwn w0 (w1.heap.size + 1) 115 wo ps[k].2 gi := by rw [hgi]; exact hgw.each k hlt
    obtain ⟨ai, ci, hsl, hci, hrow⟩ := FO.row
    have hx1 : ∃ x ∈ f, kyL x = ps[k].1.toList := by
      obtain ⟨h2, h3⟩ := ps_key HPS.out hlt
      rw [h3]; exact gkeys_ex h2
    have h0 : 0 < gi.length := by
      obtain ⟨x, hx, e⟩ := hx1
      have : x ∈ gi := by rw [hgi]; exact List.mem_filter.2 ⟨hx, by rw [e]; simp⟩
      exact List.length_pos_of_mem this
    have hgl : gi.length ≤ f.length := by rw [hgi]; exact List.length_filter_le _ _
    obtain ⟨b, o, q1, r1, q2, r2, q3, r3, hai, hbl, y0, y1, y2, y3, y4, y5, s1, sq, s2, s3⟩ := FRow.cells hrow 0 h0
    subst hai
    have d0 : wo.cell? ⟨g7, k * 2, none⟩ = some (.string ps[k].1) := by rw [hgw.own.cellAt (k * 2) (by omega), (gcells_get ps k hlt).1]
    have d1 : wo.cell? ⟨g7, k * 2 + 1, none⟩ = some (.slice (some ⟨b, o, none⟩) gi.length ci) := by rw [hgw.own.cellAt (k * 2 + 1) (by omega), (gcells_get ps k hlt).2, hsl]
    have HGI : Hid (gi = ofK ps[k].1.toList f) := hgi
    have HROW : Hid (FRow w0 0 wo.heap.size wo (some ⟨b, o, none⟩) gi) := hrow
    have HXF1 : Hid (∃ x ∈ f, kyL x = ps[k].1.toList) := hx1
    clear hgw hgi FO hsl hrow hx1 hci
    obtain ⟨ky, hky⟩ : ∃ z, z = ps[k].1 := ⟨_, rfl⟩
    have HKY : Hid (ky = ps[k].1) := hky
    rw [← hky] at d0
    clear hky
    obtain ⟨y, hy⟩ : ∃ z, z = gi[0] := ⟨_, rfl⟩
    rw [← hy] at y0 y1 y2 y3 y4 y5 s1 sq s2 s3
    have HY : Hid (y = gi[0]) := hy
    have HY0 : Hid (∀ W, Below wo.heap.size wo W → W.cell? ⟨b, o, none⟩ = some (.int .i64 y.1.k) ∧ W.cell? ⟨b, o + 1, none⟩ = some (.string y.1.al) ∧ W.cell? ⟨b, o + 2, none⟩ = some (.string y.1.nm) ∧ W.cell? ⟨b, o + 3, none⟩ = some (.slice q1 y.1.args.length r1) ∧ W.cell? ⟨b, o + 4, none⟩ = some (.slice q2 y.1.dirs.length r2) ∧ W.cell? ⟨b, o + 5, none⟩ = some (.slice q3 y.2.len r3)) := fun W hW => by
      have cc := fun p => World.cell?_of_block (a := ⟨b, p, none⟩) (hW.block b hbl)
      simp only [Nat.zero_mul, Nat.add_zero] at y0 y1 y2 y3 y4 y5
      exact ⟨(cc _).trans y0, (cc _).trans y1, (cc _).trans y2, (cc _).trans y3, (cc _).trans y4, (cc _).trans y5⟩
    have HS1 : Hid (ArRow 0 w0.heap.size w0 q1 y.1.args) := s1
    clear y0 y1 y2 y3 y4 y5 s1 sq s2 s3 hy
    obtain ⟨V, hV⟩ : ∃ V, V = wo.alloc (.cells #[.string ky, .slice (some ⟨b, o, none⟩) gi.length ci] 193) := ⟨_, rfl⟩
    have BV : Below wo.heap.size wo V := by rw [hV]; exact (Below.refl _ _).alloc (Nat.le_refl _) _
    have c0 : V.heap[wo.heap.size]? = some (.cells #[.string ky, .slice (some ⟨b, o, none⟩) gi.length ci] 193 (0, 0)) := by rw [hV]; exact heap_alloc_new _ _
    have zV : wo.heap.size < V.heap.size := by rw [hV]; simp
    go_upto_region 4 with fail
    rw [← hV]
    clear hV d0 d1
    have x0 := fun o => row_cell c0 o
    have T : Hid (∀ W, Below V.heap.size V W → W.heap[wo.heap.size]? = some (.cells #[.string ky, .slice (some ⟨b, o, none⟩) gi.length ci] 193 (0, 0)) ∧ Below wo.heap.size wo W ∧ Below w.heap.size w W) := fun W hW =>
      have hw := BV.trans (hW.mono BV.size)
      ⟨(hW.block _ zV).trans c0, hw, BWO.out.trans (hw.mono BWO.out.size)⟩
    clear c0 BV
    go_wp2_with fail
    clear x0
    go_loopw [21] (fun j w' => ∃ t : Nat, j = .int .i64 t ∧ t ≤ gi.length ∧ Hid (Below V.heap.size V w') ∧ Hid (∀ q (h : q < gi.length), q < t → SameA gi[q].1 y.1)) (fun j _ => gi.length - (intOf j).toNat)
    case atStart => exact ⟨0, rfl, Nat.zero_le _, Below.refl _ _, fun q _ h => absurd h (by omega)⟩
    case round =>
      obtain ⟨t, rfl, ht, HBI, HSA⟩ := hrel
      obtain ⟨wi, rfl⟩ : ∃ z, z = wr := ⟨_, rfl⟩
      have TI : Hid _ := T.out wi HBI.out
      by_cases hti : t < gi.length
      case neg =>
        have hti' : ¬ (t : Int) < gi.length := by omega
        have HALL : Hid (∀ u ∈ ofK ps[k].1.toList f, ∀ z ∈ ofK ps[k].1.toList f, SameA u.1 z.1) := by
          have h1 : ∀ u ∈ gi, SameA u.1 y.1 := fun u hu => by
            obtain ⟨q, hq, rfl⟩ := List.getElem_of_mem hu
            exact HSA.out q hq (by omega)
          rw [HGI.out] at h1
          exact fun u hu z hz => (h1 u hu).trans (h1 z hz).symm
        have x0 := fun o => row_cell TI.out.1 o
        obtain ⟨g1, HG1, hg1⟩ : ∃ g1, Hid (Ex l (tog gi) g1) ∧ g1 < m := by
          obtain ⟨x, hx, e⟩ := HXF1.out
          obtain ⟨g1, h1, h2⟩ := HXF.out.group hx
          rw [e, ← HGI.out] at h1
          exact ⟨g1, h1, h2⟩
        have htl : (tog gi).length ≤ 1048576 := by have := HG1.out.len; omega
        have HWI0 : Hid (Below w0.heap.size w0 wi) := H00.out.trans ((HBW.out.trans (TI.out.2.2.mono HBW.out.size)).mono H00.out.size)
        have HQT : Hid _ := sels_tog w0 gi (some ⟨b, o, none⟩) ci wi (Row.up HROW.out TI.out.2.1) (by omega) htl HWI0.out
        have HLT : Hid (LB (tog gi)) := by
          have h1 := LB.tog HLF.out ps[k].1.toList
          rw [← HGI.out] at h1
          exact h1 htl
        have HNO : Hid (¬ MOk l (tog gi) → ¬ MOk l s) := fun h => by
          obtain ⟨x, hx, e⟩ := HXF1.out
          refine MOk.no_group HFL.out hx ?_
          rw [e, ← HGI.out]; exact h
        have HNX : Hid (MOk l (tog gi) → GrO l f ps (k + 1)) := fun h => GrO.next HGO.out hlt HALL.out (by rw [← HGI.out]; exact h)
        clear HSA HALL HXF1 HROW HGO
        go_wp2_with fail
        refine Calls.mono HQT.out ?_
        rintro e w5 ⟨⟨a8, c8, rfl, o8⟩, p5⟩
        have zi := TI.out.2.2.size
        have B5 : Hid (Below w.heap.size w w5) := TI.out.2.2.trans (p5.mono zi)
        have zi2 := (HB.out.trans (TI.out.2.1.mono HB.out.size)).size
        have BB5 : Hid (Below w2.heap.size w2 w5) := (HB.out.trans (TI.out.2.1.mono HB.out.size)).trans (p5.mono zi2)
        have hq := IH.out g1 (by omega) (tog gi) a8 c8 w5 HG1.out (by
          obtain ⟨a9, c9, e9, _, h9⟩ := o8.row
          simp only [Value.slice.injEq] at e9
          rw [e9.1]; exact h9) HLT.out (HBW.out.trans (B5.out.mono HBW.out.size))
        have HQM : Hid _ := hq
        clear hq o8 p5 x0 HQT HLT HG1
        go_wp2_with fail
        refine Calls.mono HQM.out ?_
        rintro e w6 ⟨⟨bb, rfl, hbb⟩, p6⟩
        have B6 : Hid (Below w.heap.size w w6) := B5.out.trans (p6.mono B5.out.size)
        have BB6 : Hid (Below w2.heap.size w2 w6) := BB5.out.trans (p6.mono BB5.out.size)
        clear p6 HQM
        cases bb with
        | false =>
          have HN : Hid (¬ MOk l s) := HNO.out fun h => by have := hbb.2 h; cases this
          clear hbb
          go_wp2_with fail
          go_ret
          exact ⟨⟨false, rfl, fun h => (by cases h), fun h => absurd h HN.out⟩, B6.out⟩
        | true =>
          have HN : Hid (GrO l f ps (k + 1)) := HNX.out (hbb.1 rfl)
          clear hbb
          go_wp2_with fail
          go_roundw
          case rel => exact ⟨k + 1, by go_num, by omega, BB6, HN⟩
          case measure => simp [intOf]; omega
      have hti' : (t : Int) < gi.length := by omega
      obtain ⟨b', o', b1, e1, b2, e2, b3, e3, ha', _, d0, d1, d2, d3, d4, d5, r1x, rq, r2x, r3x⟩ := FRow.cells (Row.up HROW.out TI.out.2.1) t hti
      simp only [Option.some.injEq, Addr.mk.injEq, and_true] at ha'
      obtain ⟨hb', ho'⟩ := ha'
      subst hb' ho'
      obtain ⟨x, hx⟩ : ∃ z, z = gi[t] := ⟨_, rfl⟩
      rw [← hx] at d0 d1 d2 d3 d4 d5 r1x
      have HX : Hid (x = gi[t]) := hx
      have HRX : Hid (ArRow 0 w0.heap.size w0 b1 x.1.args) := r1x
      have HXI : Hid (x ∈ f ∧ kyL x = ky.toList) := by
        have h1 : x ∈ ofK ps[k].1.toList f := by rw [← HGI.out, hx]; exact List.getElem_mem hti
        have h2 := List.mem_filter.1 h1
        exact ⟨h2.1, by rw [HKY.out]; simpa using h2.2⟩
      have HYI : Hid (y ∈ f ∧ kyL y = ky.toList) := by
        have h1 : y ∈ ofK ps[k].1.toList f := by rw [← HGI.out, HY.out]; exact List.getElem_mem h0
        have h2 := List.mem_filter.1 h1
        exact ⟨h2.1, by rw [HKY.out]; simpa using h2.2⟩
      have hxa : x.1.args.length ≤ 1048576 := (HLF.out.2 x HXI.out.1).1.2.2.1
      have hya : y.1.args.length ≤ 1048576 := (HLF.out.2 y HYI.out.1).1.2.2.1
      clear hx r1x rq r2x r3x
      obtain ⟨U, hU⟩ : ∃ U, U = wi.alloc (.cells #[.int .i64 x.1.k, .string x.1.al, .string x.1.nm, .slice b1 x.1.args.length e1, .slice b2 x.1.dirs.length e2, .slice b3 x.2.len e3] 115) := ⟨_, rfl⟩
      have BU : Below wi.heap.size wi U := by rw [hU]; exact (Below.refl _ _).alloc (Nat.le_refl _) _
      have u0 : U.heap[wi.heap.size]? = some (.cells #[.int .i64 x.1.k, .string x.1.al, .string x.1.nm, .slice b1 x.1.args.length e1, .slice b2 x.1.dirs.length e2, .slice b3 x.2.len e3] 115 (0, 0)) := by rw [hU]; exact heap_alloc_new _ _
      have zU : wi.heap.size < U.heap.size := by rw [hU]; simp
      have ziV := HBI.out.size
      go_upto_region 7 with fail
      rw [← hU]
      clear hU d0 d1 d2 d3 d4 d5
      have TU : Hid (∀ W, Below U.heap.size U W → W.heap[wi.heap.size]? = some (.cells #[.int .i64 x.1.k, .string x.1.al, .string x.1.nm, .slice b1 x.1.args.length e1, .slice b2 x.1.dirs.length e2, .slice b3 x.2.len e3] 115 (0, 0)) ∧ Below wi.heap.size wi W ∧ Below V.heap.size V W) := fun W hW =>
        have hw := BU.trans (hW.mono BU.size)
        ⟨(hW.block _ zU).trans u0, hw, HBI.out.trans (hw.mono ziV)⟩
      clear u0 BU
      cases hS : sameC x.1 y.1 with
      | false =>
        refine G.region_rel6 (n := 7) (by kernel_rfl) (by kernel_rfl) (by rfl) (fun u => ⟨#[.map (some B), .slice a1 s.length c1, undef, undef, u4, undef, .pointer (some ⟨wo.heap.size, 0, none⟩), undef, .pointer (some ⟨wi.heap.size, 0, none⟩), .map (some B), .slice a1 s.length c1, .slice a6 f.length c6, .slice (some ⟨g7, 0, none⟩) ps.length c7, .int .i64 ps.length, .int .i64 k, .bool true, .pointer (some ⟨g7, k * 2, none⟩), .agg #[.string ky, .slice (some ⟨b, o, none⟩) gi.length ci], .pointer (some ⟨wo.heap.size, 1, none⟩), .slice (some ⟨b, o, none⟩) gi.length ci, .int .i64 gi.length, .int .i64 t, .bool true, .pointer (some ⟨b, o + t * 6, none⟩), .agg #[.int .i64 x.1.k, .string x.1.al, .string x.1.nm, .slice b1 x.1.args.length e1, .slice b2 x.1.dirs.length e2, .slice b3 x.2.len e3], u 25, u 26, u 27, u 28, u 29, u 30, u 31, u32, u33, u34, u35, u36, u37, u38, u39], []⟩) (fun nz => match nz with | 25 => u25 | 26 => u26 | 27 => u27 | 28 => u28 | 29 => u29 | 30 => u30 | 31 => u31 | _ => undef) (fun iz => [25, 26, 27, 28, 29, 30, 31].getD iz 0) (fun iz jz hi hj h => (by decide : ∀ i, i < 7 → ∀ j, j < 7 → [25, 26, 27, 28, 29, 30, 31].getD i 0 = [25, 26, 27, 28, 29, 30, 31].getD j 0 → i = j) iz hi jz hj h)
          (fun iz v _ => match iz with | 0 => v = .agg #[.int .i64 x.1.k, .string x.1.al, .string x.1.nm, .slice b1 x.1.args.length e1, .slice b2 x.1.dirs.length e2, .slice b3 x.2.len e3] | 1 => v = .pointer (some ⟨wo.heap.size, 1, none⟩) | 2 => v = .slice (some ⟨b, o, none⟩) gi.length ci | 3 => v = .pointer (some ⟨b, o, none⟩) | 4 => v = .agg #[.int .i64 y.1.k, .string y.1.al, .string y.1.nm, .slice q1 y.1.args.length r1, .slice q2 y.1.dirs.length r2, .slice q3 y.2.len r3] | 5 => v = .bool false | 6 => v = .bool true | _ => True) (fun _ _ W => Below U.heap.size U W) (Below.refl _ _).drew ?step ?last
        case step =>
          intro D u W iq hi hLs hLi hbW hdep
          have HBJ : Hid (Below U.heap.size U W) := hbW
          have TT : Hid _ := TU.out W HBJ.out
          have TV : Hid _ := T.out W TT.out.2.2
          have HW0 : Hid (Below w0.heap.size w0 W) := H00.out.trans ((HBW.out.trans (TV.out.2.2.mono HBW.out.size)).mono H00.out.size)
          have xx := fun o => row_cell TT.out.1 o
          have xg := fun o => row_cell TV.out.1 o
          obtain ⟨z0, z1, z2, z3, z4, z5⟩ := HY0.out W TV.out.2.1
          have h0 : (0 : Int) < gi.length := by omega
          have hcase : iq = 0 ∨ iq = 1 ∨ iq = 2 ∨ iq = 3 ∨ iq = 4 ∨ iq = 5 ∨ iq = 6 := by omega
          clear hbW hLi hi
          rcases hcase with rfl | rfl | rfl | rfl | rfl | rfl | rfl
          · refine wpOp_step rfl (fun K hK => ?_)
            clear hdep
            go_simp
            exact hK _ _ ⟨.agg #[.int .i64 x.1.k, .string x.1.al, .string x.1.nm, .slice b1 x.1.args.length e1, .slice b2 x.1.dirs.length e2, .slice b3 x.2.len e3], by simp [G.upd], fun _ _ h => h, rfl, HBJ.out⟩
          · refine wpOp_step rfl (fun K hK => ?_)
            clear hdep
            go_simp
            exact hK _ _ ⟨.pointer (some ⟨wo.heap.size, 1, none⟩), by simp [G.upd], fun _ _ h => h, rfl, HBJ.out⟩
          · have d1 : u 26 = .pointer (some ⟨wo.heap.size, 1, none⟩) := (hdep _ rfl ⟨1, .data⟩ (by simp) rfl).2
            refine wpOp_step rfl (fun K hK => ?_)
            clear hdep
            go_simp
            exact hK _ _ ⟨.slice (some ⟨b, o, none⟩) gi.length ci, by simp [G.upd, d1], fun _ _ h => h, rfl, HBJ.out⟩
          · have d2 : u 27 = .slice (some ⟨b, o, none⟩) gi.length ci := (hdep _ rfl ⟨2, .data⟩ (by simp) rfl).2
            refine wpOp_step rfl (fun K hK => ?_)
            clear hdep
            go_simp
            exact hK _ _ ⟨.pointer (some ⟨b, o, none⟩), by simp [G.upd, d2], fun _ _ h => h, rfl, HBJ.out⟩
          · have d3 : u 28 = .pointer (some ⟨b, o, none⟩) := (hdep _ rfl ⟨3, .data⟩ (by simp) rfl).2
            refine wpOp_step rfl (fun K hK => ?_)
            clear hdep
            go_simp
            exact hK _ _ ⟨.agg #[.int .i64 y.1.k, .string y.1.al, .string y.1.nm, .slice q1 y.1.args.length r1, .slice q2 y.1.dirs.length r2, .slice q3 y.2.len r3], by simp [G.upd, d3], fun _ _ h => h, rfl, HBJ.out⟩
          · have d0 : u 25 = .agg #[.int .i64 x.1.k, .string x.1.al, .string x.1.nm, .slice b1 x.1.args.length e1, .slice b2 x.1.dirs.length e2, .slice b3 x.2.len e3] := (hdep _ rfl ⟨0, .data⟩ (by simp) rfl).2
            have d4 : u 29 = .agg #[.int .i64 y.1.k, .string y.1.al, .string y.1.nm, .slice q1 y.1.args.length r1, .slice q2 y.1.dirs.length r2, .slice q3 y.2.len r3] := (hdep _ rfl ⟨4, .data⟩ (by simp) rfl).2
            have HQ : Hid _ := (by have := same_asked x y b1 b2 b3 q1 q2 q3 e1 e2 e3 r1 r2 r3 W (Row.up HRX.out HW0.out) (Row.up HS1.out HW0.out) hxa hya; rw [hS] at this; exact this)
            refine wpOp_step rfl (fun K hK => ?_)
            clear hdep
            go_simp
            refine Calls.mono HQ.out ?_
            rintro e w8 ⟨rfl, hb8⟩
            exact hK _ _ ⟨.bool false, by simp [G.upd, d0, d4], fun _ _ h => h, rfl, HBJ.out.trans (hb8.mono HBJ.out.size)⟩
          · have d5 : u 30 = .bool false := (hdep _ rfl ⟨5, .data⟩ (by simp) rfl).2
            refine wpOp_step rfl (fun K hK => ?_)
            clear hdep
            go_simp
            exact hK _ _ ⟨.bool true, by simp [G.upd, d5], fun _ _ h => h, rfl, HBJ.out⟩
        case last =>
          intro D u W hLs hD hbW hp
          have HBL : Hid (Below U.heap.size U W) := hbW
          have d6 : u 31 = .bool true := hp 6 (by omega)
          have TV : Hid _ := T.out W (TU.out W HBL.out).2.2
          have HBI2 : Hid (Below V.heap.size V W) := (TU.out W HBL.out).2.2
          clear hp hbW
          rw [d6]
          clear d6
          have HN : Hid (¬ MOk l s) := MOk.no_same HFL.out HXI.out.1 HYI.out.1 (HXI.out.2.trans HYI.out.2.symm) (fun h => by have := (sameC_iff x.1 y.1).2 h; rw [hS] at this; cases this)
          clear HBL
          go_wp2_with fail
          go_ret
          exact ⟨⟨false, rfl, fun h => (by cases h), fun h => absurd h HN.out⟩, TV.out.2.2⟩
      | true =>
        refine G.region_rel6 (n := 7) (by kernel_rfl) (by kernel_rfl) (by rfl) (fun u => ⟨#[.map (some B), .slice a1 s.length c1, undef, undef, u4, undef, .pointer (some ⟨wo.heap.size, 0, none⟩), undef, .pointer (some ⟨wi.heap.size, 0, none⟩), .map (some B), .slice a1 s.length c1, .slice a6 f.length c6, .slice (some ⟨g7, 0, none⟩) ps.length c7, .int .i64 ps.length, .int .i64 k, .bool true, .pointer (some ⟨g7, k * 2, none⟩), .agg #[.string ky, .slice (some ⟨b, o, none⟩) gi.length ci], .pointer (some ⟨wo.heap.size, 1, none⟩), .slice (some ⟨b, o, none⟩) gi.length ci, .int .i64 gi.length, .int .i64 t, .bool true, .pointer (some ⟨b, o + t * 6, none⟩), .agg #[.int .i64 x.1.k, .string x.1.al, .string x.1.nm, .slice b1 x.1.args.length e1, .slice b2 x.1.dirs.length e2, .slice b3 x.2.len e3], u 25, u 26, u 27, u 28, u 29, u 30, u 31, u32, u33, u34, u35, u36, u37, u38, u39], []⟩) (fun nz => match nz with | 25 => u25 | 26 => u26 | 27 => u27 | 28 => u28 | 29 => u29 | 30 => u30 | 31 => u31 | _ => undef) (fun iz => [25, 26, 27, 28, 29, 30, 31].getD iz 0) (fun iz jz hi hj h => (by decide : ∀ i, i < 7 → ∀ j, j < 7 → [25, 26, 27, 28, 29, 30, 31].getD i 0 = [25, 26, 27, 28, 29, 30, 31].getD j 0 → i = j) iz hi jz hj h)
          (fun iz v _ => match iz with | 0 => v = .agg #[.int .i64 x.1.k, .string x.1.al, .string x.1.nm, .slice b1 x.1.args.length e1, .slice b2 x.1.dirs.length e2, .slice b3 x.2.len e3] | 1 => v = .pointer (some ⟨wo.heap.size, 1, none⟩) | 2 => v = .slice (some ⟨b, o, none⟩) gi.length ci | 3 => v = .pointer (some ⟨b, o, none⟩) | 4 => v = .agg #[.int .i64 y.1.k, .string y.1.al, .string y.1.nm, .slice q1 y.1.args.length r1, .slice q2 y.1.dirs.length r2, .slice q3 y.2.len r3] | 5 => v = .bool true | 6 => v = .bool false | _ => True) (fun _ _ W => Below U.heap.size U W) (Below.refl _ _).drew ?step ?last
        case step =>
          intro D u W iq hi hLs hLi hbW hdep
          have HBJ : Hid (Below U.heap.size U W) := hbW
          have TT : Hid _ := TU.out W HBJ.out
          have TV : Hid _ := T.out W TT.out.2.2
          have HW0 : Hid (Below w0.heap.size w0 W) := H00.out.trans ((HBW.out.trans (TV.out.2.2.mono HBW.out.size)).mono H00.out.size)
          have xx := fun o => row_cell TT.out.1 o
          have xg := fun o => row_cell TV.out.1 o
          obtain ⟨z0, z1, z2, z3, z4, z5⟩ := HY0.out W TV.out.2.1
          have h0 : (0 : Int) < gi.length := by omega
          have hcase : iq = 0 ∨ iq = 1 ∨ iq = 2 ∨ iq = 3 ∨ iq = 4 ∨ iq = 5 ∨ iq = 6 := by omega
          clear hbW hLi hi
          rcases hcase with rfl | rfl | rfl | rfl | rfl | rfl | rfl
          · refine wpOp_step rfl (fun K hK => ?_)
            clear hdep
            go_simp
            exact hK _ _ ⟨.agg #[.int .i64 x.1.k, .string x.1.al, .string x.1.nm, .slice b1 x.1.args.length e1, .slice b2 x.1.dirs.length e2, .slice b3 x.2.len e3], by simp [G.upd], fun _ _ h => h, rfl, HBJ.out⟩
          · refine wpOp_step rfl (fun K hK => ?_)
            clear hdep
            go_simp
            exact hK _ _ ⟨.pointer (some ⟨wo.heap.size, 1, none⟩), by simp [G.upd], fun _ _ h => h, rfl, HBJ.out⟩
          · have d1 : u 26 = .pointer (some ⟨wo.heap.size, 1, none⟩) := (hdep _ rfl ⟨1, .data⟩ (by simp) rfl).2
            refine wpOp_step rfl (fun K hK => ?_)
            clear hdep
            go_simp
            exact hK _ _ ⟨.slice (some ⟨b, o, none⟩) gi.length ci, by simp [G.upd, d1], fun _ _ h => h, rfl, HBJ.out⟩
          · have d2 : u 27 = .slice (some ⟨b, o, none⟩) gi.length ci := (hdep _ rfl ⟨2, .data⟩ (by simp) rfl).2
            refine wpOp_step rfl (fun K hK => ?_)
            clear hdep
            go_simp
            exact hK _ _ ⟨.pointer (some ⟨b, o, none⟩), by simp [G.upd, d2], fun _ _ h => h, rfl, HBJ.out⟩
          · have d3 : u 28 = .pointer (some ⟨b, o, none⟩) := (hdep _ rfl ⟨3, .data⟩ (by simp) rfl).2
            refine wpOp_step rfl (fun K hK => ?_)
            clear hdep
            go_simp
            exact hK _ _ ⟨.agg #[.int .i64 y.1.k, .string y.1.al, .string y.1.nm, .slice q1 y.1.args.length r1, .slice q2 y.1.dirs.length r2, .slice q3 y.2.len r3], by simp [G.upd, d3], fun _ _ h => h, rfl, HBJ.out⟩
          · have d0 : u 25 = .agg #[.int .i64 x.1.k, .string x.1.al, .string x.1.nm, .slice b1 x.1.args.length e1, .slice b2 x.1.dirs.length e2, .slice b3 x.2.len e3] := (hdep _ rfl ⟨0, .data⟩ (by simp) rfl).2
            have d4 : u 29 = .agg #[.int .i64 y.1.k, .string y.1.al, .string y.1.nm, .slice q1 y.1.args.length r1, .slice q2 y.1.dirs.length r2, .slice q3 y.2.len r3] := (hdep _ rfl ⟨4, .data⟩ (by simp) rfl).2
            have HQ : Hid _ := (by have := same_asked x y b1 b2 b3 q1 q2 q3 e1 e2 e3 r1 r2 r3 W (Row.up HRX.out HW0.out) (Row.up HS1.out HW0.out) hxa hya; rw [hS] at this; exact this)
            refine wpOp_step rfl (fun K hK => ?_)
            clear hdep
            go_simp
            refine Calls.mono HQ.out ?_
            rintro e w8 ⟨rfl, hb8⟩
            exact hK _ _ ⟨.bool true, by simp [G.upd, d0, d4], fun _ _ h => h, rfl, HBJ.out.trans (hb8.mono HBJ.out.size)⟩
          · have d5 : u 30 = .bool true := (hdep _ rfl ⟨5, .data⟩ (by simp) rfl).2
            refine wpOp_step rfl (fun K hK => ?_)
            clear hdep
            go_simp
            exact hK _ _ ⟨.bool false, by simp [G.upd, d5], fun _ _ h => h, rfl, HBJ.out⟩
        case last =>
          intro D u W hLs hD hbW hp
          have HBL : Hid (Below U.heap.size U W) := hbW
          have d6 : u 31 = .bool false := hp 6 (by omega)
          have TV : Hid _ := T.out W (TU.out W HBL.out).2.2
          have HBI2 : Hid (Below V.heap.size V W) := (TU.out W HBL.out).2.2
          clear hp hbW
          rw [d6]
          clear d6
          have HN : Hid (∀ q (h : q < gi.length), q < t + 1 → SameA gi[q].1 y.1) := fun q h hq => by
            by_cases e : q = t
            · subst e; rw [← HX.out]; exact (sameC_iff x.1 y.1).1 hS
            · exact HSA.out q h (by omega)
          clear HBL HSA
          go_wp2_with fail
          go_roundw
          case rel => exact ⟨t + 1, by go_num, by omega, HBI2, HN⟩
          case measure => simp [intOf]; omega
end Go.Proofs.YtkjndghkimnjeaaGreat
