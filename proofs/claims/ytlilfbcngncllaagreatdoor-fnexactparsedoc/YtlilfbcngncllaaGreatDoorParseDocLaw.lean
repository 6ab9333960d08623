/- Proved: at every text the law FnExactParseDoc returns true; the library's variables that the row lists are tied to the program's text by the card. -/
import Derived.Test.YtlilfbcngncllaaGreatDoorPmTab
import Derived.Test.YtlilfbcngncllaaGreatDoorTie
import Derived.Test.YtlilfbcngncllaaGreatDoorCards
import Derived.SevenTiedAt
import Derived.OpenVars
import Derived.ChangeOld
import Derived.Below
import Derived.Lib.SmallJoins
namespace Go.Proofs.YtlilfbcngncllaaGreatDoor.fnExactParseDoc
open Go.ChangeShapes Go.WideShapes Go.ChangeAt Go.RowKit
open Go.ChangeMaps (open_string shut_string)
set_option linter.unusedVariables false

set_option maxHeartbeats 8000000 in
set_option maxRecDepth 40000 in
theorem walk (s : ByteArray) (w : World) (hs : s.size ≤ maxLen) (hv : Vars w) :
    Calls Tryz.prog 3 #[.string s] w fun e w' => e = .returned (.bool true) ∧ Below w.heap.size w w' := by
  by_cases h : 1048576 < s.size
  · go_enter Tryz.func3, Tryz.ntmps3
    go_wp2_with fail
    go_ret
    exact ⟨rfl, Below.refl _ _⟩
  have HS : Hid (∀ W : World, Calls Tryz.prog 4 #[.string s] W (DpIs (lexB s) W)) := fun W => spec_parseDoc s W hs
  have HI2 : Hid (∀ W : World, Vars W → Calls Tryz.prog 5 #[.string s] W (DpIs (lexB s) W)) := fun W hW => impl_parseDoc s W hs hW
  have HV : Hid (∀ W, Below w.heap.size w W → Vars W) := fun W hW => hv.below hW hv.lt
  clear hv hs
  go_enter Tryz.func3, Tryz.ntmps3
  go_wp2_with fail
  refine (HS.out _).mono ?_
  rintro e w1 ⟨tds, ag, cg, cd, vs1, bs1, rfl, p1, o1, hb1⟩
  have HP : Hid (DpR (lexB s) tds cd) := p1
  have R1 : Hid (DeRow 0 w1.heap.size w1 ag tds) := (DocK.row o1).wide (Nat.zero_le _) (Nat.le_refl _)
  have HB : Hid (DefsBd 1048576 tds) := p1.bd
  have HC : Hid (G.cnt cDe tds ≤ 1000000000) := p1.small
  have hcnt := HC.out
  have hlenT := HB.out.1
  have hcd : (cd != cd) = false := by simp
  have z1 := hb1.size
  have q1 : Hid (Below w.heap.size w w1) := hb1
  clear p1 o1 hb1 HS
  go_upto_region 4 with fail
  obtain ⟨va, hva⟩ : ∃ W, W = w1.alloc (.cells #[.slice ag tds.length cg] 24) := ⟨_, rfl⟩
  rw [← hva]
  have za : va.heap.size = w1.heap.size + 1 := by rw [hva]; simp
  have ba : Below w1.heap.size w1 va := by rw [hva]; exact (Below.refl _ _).alloc (Nat.le_refl _) _
  have ha : va.heap[w1.heap.size]? = some (.cells #[.slice ag tds.length cg] 24 (0, 0)) := by rw [hva]; exact heap_alloc_new _ _
  have qa : Hid (Below w.heap.size w va) := q1.out.trans (ba.mono (by omega))
  have KA : Hid (∀ W, Below va.heap.size va W → DeRow 0 W.heap.size W ag tds ∧ W.cell? ⟨w1.heap.size, 0, none⟩ = some (.slice ag tds.length cg) ∧ Below w.heap.size w W) := fun W h =>
    ⟨DeRow.up (DeRow.up R1.out ba) h, row_cell ((h.block _ (by omega)).trans ha) 0, qa.out.trans (h.mono (by omega))⟩
  have HQ2 : Hid _ := HI2.out va (HV.out _ qa.out)
  have zza : w1.heap.size + 1 ≤ va.heap.size := by omega
  clear hva ba ha qa R1 za
  go_wp2_with fail
  refine Calls.mono HQ2.out ?_
  rintro e w2 ⟨tds2, ai, ci, cd2, vs2, bs2, rfl, p2, k2, hb2⟩
  obtain ⟨rfl, rfl⟩ := HP.out.one p2
  obtain ⟨bs, o2, n2, i2⟩ := DocK.bk k2
  have HO : Hid (DocBk w2 ai tds bs) := o2
  have HN : Hid bs.Nodup := n2
  have HI : Hid (∀ g ∈ bs, va.heap.size ≤ g ∧ g < w2.heap.size) := i2
  have z2 := hb2.size
  have U2 : Hid (Below va.heap.size va w2) := hb2
  clear o2 n2 i2 hb2 p2 k2 HQ2
  go_upto_region 5 with fail
  obtain ⟨vb, hvb⟩ : ∃ W, W = w2.alloc (.cells #[.slice ai tds.length ci] 24) := ⟨_, rfl⟩
  rw [← hvb]
  have zb : w2.heap.size + 1 ≤ vb.heap.size := by rw [hvb]; simp
  have bb : Below w2.heap.size w2 vb := by rw [hvb]; exact (Below.refl _ _).alloc (Nat.le_refl _) _
  have hX : Hid (vb.heap[w2.heap.size]? = some (.cells #[.slice ai tds.length ci] 24 (0, 0))) := by rw [Hid, hvb]; exact heap_alloc_new _ _
  have HOb : Hid (DocBk vb ai tds bs) := DocBk.keep HO.out bb.size (fun g hg => bb.block g (HI.out g hg).2)
  have Ub : Hid (Below va.heap.size va vb) := U2.out.trans (bb.mono (by omega))
  clear hvb bb HO U2
  have cb := (KA.out _ Ub.out).2.1
  have xb := row_cell hX.out 0
  simp at xb
  go_wp2_with fail
  clear cb xb
  refine (eq_doc ai ag ci cg tds _ (DocBk.row HOb.out) (KA.out _ Ub.out).1 HB.out).mono ?_
  rintro e w3 ⟨rfl, hb3⟩
  have z3 := hb3.size
  have X3 : Hid (w3.heap[w2.heap.size]? = some (.cells #[.slice ai tds.length ci] 24 (0, 0))) := (hb3.block _ (by omega)).trans hX.out
  have HO3 : Hid (DocBk w3 ai tds bs) := DocBk.keep HOb.out hb3.size (fun g hg => hb3.block g (by have := (HI.out g hg).2; omega))
  have U3 : Hid (Below va.heap.size va w3) := Ub.out.trans (hb3.mono (by omega))
  clear hb3 hX HOb Ub
  have x3 : w3.cell? ⟨w2.heap.size, 0, none⟩ = some (.slice ai tds.length ci) := row_cell X3.out 0
  go_wp2_with fail
  clear x3
  refine Calls.mono (mark_docB ai ci tds bs 1 _ HO3.out HN.out (fun g hg => by have := (HI.out g hg).2; omega) (by omega) (by omega)) ?_
  rintro e w4 ⟨m1, rfl, hm, o4, k4⟩
  have z4 := k4.size
  have U4 : Hid (Below va.heap.size va w4) := U3.out.trans (k4.below (by omega) (fun g hg => (HI.out g hg).1))
  have X4 : Hid (w4.heap[w2.heap.size]? = some (.cells #[.slice ai tds.length ci] 24 (0, 0))) := (k4.block _ (by omega) (fun hx => by have := (HI.out _ hx).2; omega)).trans X3.out
  have R4 : Hid (DeRow 0 w4.heap.size w4 ai (mkD 1 tds)) := DocBk.row o4
  have HM : Hid (m1 = ((1 + G.cnt cDe tds : Nat) : Int)) := hm
  have hm0 : ¬ m1 < 0 := by omega
  have hmm : (m1 != m1) = false := by simp
  clear hm o4 k4 U3 X3 HO3 HN
  have x4 : w4.cell? ⟨w2.heap.size, 0, none⟩ = some (.slice ai tds.length ci) := row_cell X4.out 0
  go_wp2_with fail
  clear x4
  refine Calls.mono (held_docB ai ci tds 1 _ R4.out (by omega) (by omega)) ?_
  rintro e w5 ⟨m2, rfl, hm2, hb5⟩
  obtain rfl : m1 = m2 := HM.out.trans hm2.symm
  have z5 := hb5.size
  have B5 : Hid (Below w4.heap.size w4 w5) := hb5
  have HQ5 : Hid _ := HI2.out w5 (HV.out _ (KA.out _ (U4.out.trans (hb5.mono (by omega)))).2.2)
  clear hm2 hb5
  go_wp2_with fail
  refine Calls.mono HQ5.out ?_
  rintro e w6 ⟨tds3, ah, ch, cd3, vs6, bs6, rfl, p6, o6, hb6⟩
  obtain ⟨rfl, rfl⟩ := HP.out.one p6
  have z6 := hb6.size
  have R6 : Hid (DeRow 0 w6.heap.size w6 ah tds) := (DocK.row o6).wide (Nat.zero_le _) (Nat.le_refl _)
  have B6 : Hid (Below w4.heap.size w4 w6) := B5.out.trans (hb6.mono (by omega))
  clear p6 o6 hb6 B5 HQ5
  go_upto_region 16 with fail
  obtain ⟨ve, hve⟩ : ∃ W, W = w6.alloc (.cells #[.slice ah tds.length ch] 24) := ⟨_, rfl⟩
  rw [← hve]
  have ze : w6.heap.size + 1 ≤ ve.heap.size := by rw [hve]; simp
  have be : Below w6.heap.size w6 ve := by rw [hve]; exact (Below.refl _ _).alloc (Nat.le_refl _) _
  have Be : Hid (Below w4.heap.size w4 ve) := B6.out.trans (be.mono (by omega))
  have Re : Hid (DeRow 0 ve.heap.size ve ah tds) := DeRow.up R6.out be
  have xe : ve.heap[w6.heap.size]? = some (.cells #[.slice ah tds.length ch] 24 (0, 0)) := by rw [hve]; exact heap_alloc_new _ _
  have xe0 := row_cell xe 0
  simp at xe0
  have ce := (KA.out _ (U4.out.trans (Be.out.mono (by omega)))).2.1
  clear hve be B6 R6 xe
  go_wp2_with fail
  clear xe0 ce
  refine (eq_doc ah ag ch cg tds _ Re.out (KA.out _ (U4.out.trans (Be.out.mono (by omega)))).1 HB.out).mono ?_
  rintro e w7 ⟨rfl, hb7⟩
  have z7 := hb7.size
  have B7 : Hid (Below w4.heap.size w4 w7) := Be.out.trans (hb7.mono (by omega))
  clear hb7 Be Re
  have x7 : w7.cell? ⟨w2.heap.size, 0, none⟩ = some (.slice ai tds.length ci) := row_cell ((B7.out.block _ (by omega)).trans X4.out) 0
  go_wp2_with fail
  clear x7
  refine Calls.mono (held_docB ai ci tds 1 _ (DeRow.up R4.out B7.out) (by omega) (by omega)) ?_
  rintro e w8 ⟨m3, rfl, hm3, hb8⟩
  obtain rfl : m1 = m3 := HM.out.trans hm3.symm
  have Q8 : Hid (Below w.heap.size w w8) := (KA.out _ (U4.out.trans ((B7.out.trans (hb8.mono (by omega))).mono (by omega)))).2.2
  clear hm3 hb8
  go_wp2_with fail
  go_ret
  exact ⟨rfl, Q8.out⟩

set_option maxRecDepth 100000 in
theorem lifted (os : Os) (started : os.Started) (H : Type) (enc : TypeId × Value → H) :
    ReturnsInHanded {} Tryz.checked os 3 .any (fun w args => (Rows.fnExactParseDocSpec.pre enc Tryz.prog Tryz.f3 [] false w args ∧ laidMetH Tryz.prog [("math/bits.deBruijn32tab", Rows.laid_math_bits_deBruijn32tab), ("math/bits.deBruijn64tab", Rows.laid_math_bits_deBruijn64tab), ("internal/strconv.uint64pow10", Rows.laid_internal_strconv_uint64pow10), ("strconv.ErrRange", Rows.laid_strconv_ErrRange), ("strconv.ErrSyntax", Rows.laid_strconv_ErrSyntax)] w) ∧ sizedMet enc Tryz.prog Tryz.f3 (OpenSpec.ofChange Rows.fnExactParseDocSpec) false w args)
      (Rows.fnExactParseDocSpec.post enc Tryz.prog Tryz.f3 false true false false) := by
  refine returnsInHanded_of_change_and (C := Tryz.checked) (X := fun w _ => laidMetH Tryz.prog [("math/bits.deBruijn32tab", Rows.laid_math_bits_deBruijn32tab), ("math/bits.deBruijn64tab", Rows.laid_math_bits_deBruijn64tab), ("internal/strconv.uint64pow10", Rows.laid_internal_strconv_uint64pow10), ("strconv.ErrRange", Rows.laid_strconv_ErrRange), ("strconv.ErrSyntax", Rows.laid_strconv_ErrSyntax)] w) (fun _ _ _ hh h => h.of_heap hh) own started (by kernel_rfl) Tryz.func3
    (ChangeSpec.witness_shaped (enc := enc) (C := Tryz.checked) (os := os) (X := fun w _ => laidMetH Tryz.prog [("math/bits.deBruijn32tab", Rows.laid_math_bits_deBruijn32tab), ("math/bits.deBruijn64tab", Rows.laid_math_bits_deBruijn64tab), ("internal/strconv.uint64pow10", Rows.laid_internal_strconv_uint64pow10), ("strconv.ErrRange", Rows.laid_strconv_ErrRange), ("strconv.ErrSyntax", Rows.laid_strconv_ErrSyntax)] w) false (World.doorLaid Tryz.prog 400 os) #[.string ByteArray.empty] 8 rfl (World.shaped_of_RefB (by kernel_rfl) (by kernel_rfl)) (by kernel_rfl) (by kernel_rfl) (by kernel_rfl) (door_met os _)) ?_
  intro W base args ds gs before hval0 hW _ hSz hL _
  have hval : ∀ (j : Nat) t v, Tryz.f3.params[j]? = some t → args[j]? = some v → Value.okWide Tryz.prog W .any base t v := hval0
  have hW' := hW
  obtain ⟨p, q, hA0, hV, rfl, hfz, hnd⟩ := hW
  have hA : DataW.TrodAll enc Tryz.prog W 0 (fun _ => true) true Tryz.f3.params.toList args.toList ds p := hA0
  rw [Tryz.params3] at hA hval
  obtain ⟨v0, vs0, d0, ds0, p0, q0, hargs, rfl, rfl, h0, r0⟩ := trodAll_cons hA
  obtain ⟨rfl, rfl, rfl⟩ := trodAll_nil r0
  obtain rfl : args = #[v0] := by cases args; simp_all
  obtain ⟨rfl, rfl⟩ := trodVars_none hV
  have g0 := h0
  have lt0 : ∀ x ∈ p0, x.block < W.heap.size := by obtain ⟨m, hm⟩ := g0; exact DataW.trod_lt m _ _ _ hm
  obtain ⟨a0, rfl, _, _, w0⟩ := open_string Tryz.underlying9 (hval 0 9 v0 rfl rfl) h0
  clear hA0 hval0
  refine (walk a0 W w0 (vars_of_laid hL)).mono fun e W' ⟨he, bel⟩ => ?_
  subst he
  exact ⟨_, rfl, _, _, _, [], _, [], hW', trodAll_mk1 (shut_bool Tryz.underlying4 _), (trodAll_cons_mk (Below.trod laidOut (by kernel_rfl) (of_decide_eq_true (by kernel_rfl)) g0 bel lt0) trodAll_mk0), rfl, bel.frame _, fun h => by cases h⟩

theorem over : Rows.fnExactParseDocRow.holds Tryz.pinned (OpenSpec.ofChange Rows.fnExactParseDocSpec) :=
  OpenClaim.holds_of_wide 3 Tryz.f3 rfl rfl rfl rfl rfl rfl rfl ⟨rfl, rfl, rfl, rfl, rfl⟩ rfl rfl rfl rfl rfl (by kernel_rfl) Tryz.func3 (by kernel_rfl)
    (of_decide_eq_true (by kernel_rfl)) (by unfold Func.isWrapper; first | (rw [if_pos (by decide +kernel)]; kernel_rfl) | (rw [if_neg (by decide +kernel)]; exact ⟨rfl, rfl⟩))
    (fun os started H enc _ => lifted os started H enc)
end Go.Proofs.YtlilfbcngncllaaGreatDoor.fnExactParseDoc
namespace Go.Proofs.YtlilfbcngncllaaGreatDoor
open Go
theorem parseDoc_holds : Rows.FnExactParseDocCardSaid :=
  Claim7.holds_tied_plain_at .later [] [.data, .data, .data, .sentinel, .sentinel] true (true, "e005b77d6baca1887096e67d08560af59188cd09de4bec97a4487d27245e0b2c") true
    fnExactParseDoc.over (fun _ h => by cases h) (by kernel_rfl) (fun _ h => by cases h) fnExactParseDoc_row_tie rfl ⟨rfl, rfl⟩ (by kernel_rfl) rfl
    (fun f fn hf hfn => by
      obtain rfl : f = 3 := Option.some.inj ((show Tryz.prog.funcNamed "loop.example/g00540/laws.FnExactParseDoc" = some 3 by kernel_rfl).symm.trans hf) |>.symm
      obtain rfl : fn = Tryz.f3 := (Option.some.inj (Tryz.func3.symm.trans hfn)).symm
      exact ⟨by kernel_rfl, fun j t ht => by
        rw [Tryz.params3] at ht
        have hm : t ∈ [9] := by simpa using Array.mem_of_getElem? ht
        have hall : ([9].all fun u => !Tryz.prog.wantsStandIn u) = true := by kernel_rfl
        exact (show Tryz.prog.wantsStandIn t = false by simpa using List.all_eq_true.1 hall t hm)⟩)
    (by kernel_rfl)
#print axioms parseDoc_holds
end Go.Proofs.YtlilfbcngncllaaGreatDoor
