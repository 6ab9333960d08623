/- The program's Witness and RealTime. -/
import Derived.Test.YtgnonbghgcpnoaaDoorWiImpl
namespace Go.Proofs.YtgnonbghgcpnoaaDoor
open Go.ChangeShapes Go.WideShapes Go.ChangeAt Go.RowKit
open Go.Shelf Go.Lib Go.Sort
set_option linter.unusedVariables false

set_option maxHeartbeats 4000000 in
set_option maxRecDepth 20000 in
theorem impl_sorted (l : List Dn) (es : List (List Value)) (v : Value) (base : Nat) (w : World) (hL : CmL l l.length es) (ho : w.ownsRow base 68 9 v es.length es.flatten) (hl : es.length ≤ 60) (hbase : base ≤ w.heap.size) :
    Calls Tryd.prog 43 #[.agg #[.func (.func 42) #[] #[]], v] w fun e w' => ∃ av cv, e = .returned (.slice av (witP l).length cv) ∧ RdC l w' av (witP l) ∧ (witP l).length ≤ cv ∧ Below base w w' := by
  obtain ⟨zs, rfl, h2, h3⟩ := hL.cms
  have hlen : (zs.map cmV).length = zs.length := by simp
  rw [hlen] at ho hl
  have hwl : (witP l).length = zs.length := by rw [witP_len, ← h2]; simp
  by_cases h0 : zs.length = 0
  · have hwn : witP l = [] := List.eq_nil_of_length_eq_zero (by omega)
    obtain ⟨av, cv, hv⟩ : ∃ a c, v = .slice a 0 c := by
      rcases ho.2 with ⟨e, _⟩ | ⟨g, cap, cur, e, _⟩
      · exact ⟨none, 0, e⟩
      · exact ⟨_, cap, by rw [e, h0]⟩
    have HV : Hid (av = none ∨ ∃ g, av = some ⟨g, 0, none⟩ ∧ RC w g #[]) := by
      rcases ho.2 with ⟨e, _⟩ | ⟨g, cap, cur, e, q1, q2, _⟩
      · rw [hv] at e; injection e with e _ _; exact .inl e
      · rw [hv] at e; injection e with e _ _
        exact .inr ⟨g, e, fun _ => rfl, cm_one, fun j hj => by simp at hj, (Array.getElem?_eq_some_iff.1 q2).1⟩
    have HB : Hid (∀ g, av = some ⟨g, 0, none⟩ → base ≤ g) := fun g hg => by
      refine (own_in ho g ?_).1
      rw [hv, hg]; rfl
    have HW : Hid (witP l = []) := hwn
    subst hv
    clear ho hL h2 h3 hlen hwl hwn
    rcases HV.out with rfl | ⟨g, rfl, hR⟩
    · go_enter Tryd.func43, Tryd.ntmps43
      go_wp2_with fail
      have Q : Hid (Below base w (w.alloc (.cells #[.func (.func 42) #[] #[]] 86))) := (Below.refl _ _).alloc hbase _
      have inner : Hid (∀ W, Calls Tryd.prog 53 #[.slice none 0 cv, .func (.func 42) #[] #[]] W fun e w' => e = .returned (.tuple #[]) ∧ w' = W) := by
        intro W
        go_enter Tryd.func53, Tryd.ntmps53
        go_wp2_with fail
        refine (stable_none cv _).mono ?_
        rintro e w1 ⟨rfl, rfl⟩
        go_wp2_with fail
        go_end0
        exact ⟨rfl, rfl⟩
      refine (inner.out _).mono ?_
      rintro e w1 ⟨rfl, rfl⟩
      go_wp2_with fail
      go_ret
      exact ⟨none, cv, by rw [HW.out]; rfl, by rw [HW.out]; exact fun k hk => by simp at hk, by rw [HW.out]; exact Nat.zero_le _, Q.out⟩
    · have HR : Hid (∀ W, Below w.heap.size w W → RC W g #[]) := fun W hW => ⟨fun _ => rfl, cm_one, fun j hj => by simp at hj, Nat.lt_of_lt_of_le hR.hblk hW.size⟩
      have HBG := HB.out g rfl
      have hgl := hR.hblk
      clear hR HB
      go_enter Tryd.func43, Tryd.ntmps43
      go_wp2_with fail
      have Q : Hid (Below base w (w.alloc (.cells #[.func (.func 42) #[] #[]] 86))) := (Below.refl _ _).alloc hbase _
      have inner : Hid (∀ W, RC W g #[] → Calls Tryd.prog 53 #[.slice (some ⟨g, 0, none⟩) 0 cv, .func (.func 42) #[] #[]] W fun e w' => e = .returned (.tuple #[]) ∧ Below base W w') := by
        intro W hW
        have HWW : Hid _ := hW
        clear hW
        go_enter Tryd.func53, Tryd.ntmps53
        go_wp2_with fail
        refine (stable W g cv #[] #[] W HWW.out rfl (SWK.start HWW.out.hH) (by simp) (fun i j h1 h2 h3 => by simp at h3)).mono ?_
        rintro e w1 ⟨rfl, d', q1, q2, _, _⟩
        have HQ : Hid (Below base W w1) := SWK.below q2 HBG HWW.out.hblk
        clear q1 q2
        go_wp2_with fail
        go_end0
        exact ⟨rfl, HQ.out⟩
      refine (inner.out _ (HR.out _ ((Below.refl _ _).alloc (Nat.le_refl _) _))).mono ?_
      rintro e w1 ⟨rfl, hb1⟩
      have Q1 : Hid (Below base w w1) := Q.out.trans hb1
      clear hb1
      go_wp2_with fail
      go_ret
      exact ⟨_, cv, by rw [HW.out]; rfl, by rw [HW.out]; exact fun k hk => by simp at hk, by rw [HW.out]; exact Nat.zero_le _, Q1.out⟩
  obtain ⟨g, cap, hv, hg, hR, hcap⟩ := cm_row ho (by omega)
  subst hv
  have hgl := hR.hblk
  have hpa : PlA 0 zs.length (vw zs.toArray) := fun i j _ hij hj => by
    have q := (List.pairwise_iff_getElem.1 (h2 ▸ comP_pw (l := l) (k := l.length))) i j (by simp; omega) (by simpa using hj) hij
    rw [vw_at (by omega), vw_at hj]
    simpa using q
  have HPA : Hid (PlA 0 zs.length (vw zs.toArray)) := hpa
  have HR : Hid (∀ W, Below w.heap.size w W → RC W g zs.toArray) := fun W hW => ⟨hR.hk, hR.h1, fun j hj => ⟨(hW.cell (p := ⟨g, 0 + j, none⟩) hgl).trans (hR.hH j hj).1, (hW.frozen (p := ⟨g, 0 + j, none⟩) hgl).trans (hR.hH j hj).2⟩, Nat.lt_of_lt_of_le hgl hW.size⟩
  have HZ : Hid (zs.map (fun e => (e.p : Int)) = comP l l.length ∧ ∀ e ∈ zs, ∃ hp : e.p < l.length, e.x = l[e.p]) := ⟨h2, h3⟩
  have HWL : Hid ((witP l).length = zs.length) := hwl
  clear ho hL h2 h3 hlen hwl hpa hR
  go_enter Tryd.func43, Tryd.ntmps43
  go_wp2_with fail
  have Q : Hid (Below base w (w.alloc (.cells #[.func (.func 42) #[] #[]] 86))) := (Below.refl _ _).alloc hbase _
  have inner : Hid (∀ W, RC W g zs.toArray → Calls Tryd.prog 53 #[.slice (some ⟨g, 0, none⟩) zs.length cap, .func (.func 42) #[] #[]] W fun e w' => e = .returned (.tuple #[]) ∧ Below base W w' ∧ RdC l w' (some ⟨g, 0, none⟩) (witP l)) := by
    intro W hW
    have HWW : Hid _ := hW
    clear hW
    go_enter Tryd.func53, Tryd.ntmps53
    go_wp2_with fail
    have hst := stable W g cap zs.toArray zs.toArray W HWW.out rfl (SWK.start HWW.out.hH) (by simpa using hl) (by simpa using HPA.out)
    simp only [List.size_toArray] at hst
    refine hst.mono ?_
    clear hst
    rintro e w1 ⟨rfl, d', q1, q2, q3, q4⟩
    have HQ : Hid (Below base W w1 ∧ RdC l w1 (some ⟨g, 0, none⟩) (witP l)) := by
      obtain ⟨r1, r2⟩ := wit_rows HZ.out.1 HZ.out.2 q1 q3 q4
      have hbl := SWK.below q2 (Nat.le_refl g) HWW.out.hblk
      refine ⟨SWK.below q2 hg HWW.out.hblk, fun k hk => ?_⟩
      have hkd : k < d'.size := by rw [HWL.out] at hk; omega
      obtain ⟨c0, c1, c2, c3, c4, c5, c6, c7, c8⟩ := SC.cells q2 HWW.out (by simpa using q1) k hkd rfl
      have hm : d'[k] ∈ d'.toList := by simp
      have he : d'[k]! = d'[k] := by simp [hkd]
      rw [he] at c0 c1 c2 c3 c4 c5 c6 c7 c8
      refine ⟨g, d'[k].x, d'[k].a, d'[k].c, d'[k].b, d'[k].d, d'[k].p, rfl, Nat.lt_of_lt_of_le HWW.out.hblk hbl.size, ?_, r2 _ hm, c0, c1, c2, c3, c4, c5, c6, c7, c8⟩
      rw [← r1]; simp [hkd]
    clear q1 q2 q3 q4
    go_wp2_with fail
    go_end0
    exact ⟨rfl, HQ.out⟩
  refine (inner.out _ (HR.out _ ((Below.refl _ _).alloc (Nat.le_refl _) _))).mono ?_
  rintro e w1 ⟨rfl, hb1, hr1⟩
  have Q1 : Hid (Below base w w1 ∧ RdC l w1 (some ⟨g, 0, none⟩) (witP l)) := ⟨Q.out.trans hb1, hr1⟩
  clear hb1 hr1
  go_wp2_with fail
  go_ret
  have hv : Value.slice (some ⟨g, 0, none⟩) zs.length cap = .slice (some ⟨g, 0, none⟩) (witP l).length cap := by rw [HWL.out]
  first | exact ⟨some ⟨g, 0, none⟩, cap, congrArg Ending.returned hv, Q1.out.2, by rw [HWL.out]; exact hcap, Q1.out.1⟩ | exact ⟨some ⟨g, 0, none⟩, ⟨cap, congrArg Ending.returned hv⟩, Q1.out.2, by rw [HWL.out]; exact hcap, Q1.out.1⟩
set_option maxHeartbeats 4000000 in
theorem impl_witness (a : Option Addr) (c : Nat) (l : List Dn) (w : World) (hr : DnRow 0 w.heap.size w a l) (hl : l.length ≤ 60) :
    Calls Tryd.prog 31 #[.slice a l.length c] w fun e w' => ∃ av cv, e = .returned (.slice av (witP l).length cv) ∧ RdC l w' av (witP l) ∧ (witP l).length ≤ cv ∧ Below w.heap.size w w' := by
  have HR : Hid (DnRow 0 w.heap.size w a l) := hr
  clear hr
  go_enter Tryd.func31, Tryd.ntmps31
  go_wp2_with fail
  refine (impl_in a c l _ HR.out hl).mono ?_
  rintro e w1 ⟨v, es, rfl, hL, ho, hb1⟩
  have HL : Hid _ := hL
  have HO : Hid _ := ho
  have Q1 : Hid (Below w.heap.size w w1) := hb1
  have z1 := hb1.size
  have hlen : es.length ≤ 60 := by rw [hL.len]; have := comP_len l l.length; omega
  clear hL ho hb1
  go_wp2_with fail
  refine (impl_sorted l es v w.heap.size _ HL.out HO.out hlen z1).mono ?_
  rintro e w2 ⟨av, cv, rfl, h1, hcv, h2⟩
  have H1 : Hid _ := h1
  have Q2 : Hid (Below w.heap.size w w2) := Q1.out.trans h2
  clear h1 h2
  go_wp2_with fail
  go_ret
  first | exact ⟨av, cv, rfl, H1.out, hcv, Q2.out⟩ | exact ⟨av, ⟨cv, rfl⟩, H1.out, hcv, Q2.out⟩
set_option maxHeartbeats 4000000 in
theorem impl_places2 (l : List Dn) (ps : List Int) (av : Option Addr) (cv : Nat) (w : World) (hr : RdC l w av ps) (hl : ps.length ≤ 60) :
    Calls Tryd.prog 24 #[.slice av ps.length cv] w fun e w' => ∃ a' c', e = .returned (.slice a' ps.length c') ∧ NuOwn w.heap.size w'.heap.size w' a' ps ∧ Below w.heap.size w w' := by
  have HR : Hid _ := hr
  clear hr
  go_enter Tryd.func24, Tryd.ntmps24
  go_wp2_with fail
  go_loopw [3, 8] (fun s i w' => ∃ (k : Nat), k ≤ ps.length ∧ i = .int .i64 k ∧ Hid (Below w.heap.size w w') ∧ Hid (w'.ownsRow w.heap.size 3 1 s (upto ps k).length (nuV (upto ps k)))) (fun _ i _ => ps.length - (intOf i).toNat)
  case atStart => exact ⟨0, by omega, rfl, Below.refl _ _, ⟨rfl, .inl ⟨rfl, rfl⟩⟩⟩
  case round =>
    obtain ⟨k, hk, rfl, HB, HO⟩ := hrel
    obtain ⟨wo, rfl⟩ : ∃ x, x = wr := ⟨_, rfl⟩
    have hz := HB.out.size
    by_cases hlt : k < ps.length
    · obtain ⟨g, x, a, c, b, d, p, hv, hbl, hp, _, d0, d1, d2, d3x, d4, d5, d6, d7, d8⟩ := RdC.up HR.out HB.out k hlt
      subst hv
      have HTK : Hid (upto ps (k + 1) = upto ps k ++ [(p : Int)]) := by
        have hlt2 : k < ps.length := hlt
        rw [List.getElem?_eq_getElem hlt2, Option.some.injEq] at hp
        rw [Hid, upto, upto, List.take_succ_eq_append_getElem hlt2, hp]
      have hkl : (upto ps k).length ≤ 60 := by simp [upto]; omega
      obtain ⟨V, hV⟩ : ∃ V, V = wo.alloc (.cells #[.int .i64 x.id, .int .i64 x.code, .int .i64 x.ts, .int .i64 x.since, .bool x.wr, .slice a x.defs.length c, .slice b x.vars.length d, .string x.t, .int .i64 p] 68) := ⟨_, rfl⟩
      have zV : V.heap.size = wo.heap.size + 1 := by rw [hV]; simp
      have bV : Below wo.heap.size wo V := by rw [hV]; exact (Below.refl _ _).alloc (Nat.le_refl _) _
      have HB2 : Hid (Below w.heap.size w V) := HB.out.trans (bV.mono hz)
      have HO2 : Hid (V.ownsRow w.heap.size 3 1 u3 (upto ps k).length (nuV (upto ps k))) := own_up HO.out bV
      have hbn : Below V.heap.size V (V.alloc (.cells #[.int .i64 (p : Int)] 3)) := (Below.refl _ _).alloc (Nat.le_refl _) _
      obtain ⟨g', cap', W', hrun, o1, o2, o3, o4⟩ := app_num (upto ps k) (p : Int) u3 w.heap.size V.heap.size (V.alloc (.cells #[.int .i64 (p : Int)] 3)) (own_up HO2.out hbn) (heap_alloc_new _ _) (by omega) (by simp; omega)
      have HRUN : Hid _ := hrun
      have Q3 : Hid (Below w.heap.size w W') := (HB2.out.alloc (by omega) _).grown o2 (by simp; omega) (fun k hk => (own_in HO2.out k hk).1)
      have O3 : Hid (W'.ownsRow w.heap.size 3 1 (.slice (some ⟨g', 0, none⟩) ((upto ps k).length + 1) cap') (upto ps (k + 1)).length (nuV (upto ps (k + 1)))) := by
        rw [Hid, HTK.out]; simpa using o1
      have HVV : Hid _ := hV
      clear hrun o1 o2 o3 o4 hbn HTK bV hV zV hp
      rw [HVV.out] at HRUN
      have zz : (wo.alloc (.cells #[.int .i64 x.id, .int .i64 x.code, .int .i64 x.ts, .int .i64 x.since, .bool x.wr, .slice a x.defs.length c, .slice b x.vars.length d, .string x.t, .int .i64 p] 68)).heap.size = wo.heap.size + 1 := by simp
      rw [zz] at HRUN
      clear zz
      go_wp2_with (first | (at_builtin; refine wpList_app_run rfl _ _ _ rfl _ _ _ _ rfl rfl HRUN.out ?_) | fail)
      first | exact ⟨⟨k + 1, by omega, by go_num, O3⟩, by simp [intOf]; omega⟩ | exact ⟨⟨k + 1, by omega, by go_num, Q3.out, O3⟩, by simp [intOf]; omega⟩ | exact ⟨⟨_, _, _, ⟨k + 1, by omega, by go_num, O3⟩, rfl, rfl, rfl⟩, by simp [intOf]; omega⟩
    · obtain rfl : k = ps.length := by omega
      have e9 : upto ps ps.length = ps := by rw [upto, List.take_length]
      have ho := HO.out
      rw [e9] at ho
      obtain ⟨a', c', hv, ho⟩ := NuOwn.of ho
      have HO2 : Hid _ := ho
      subst hv
      clear ho e9 HO
      go_wp2_with fail
      go_ret
      exact ⟨a', c', rfl, HO2.out, HB.out⟩
set_option maxHeartbeats 4000000 in
theorem impl_wit (a : Option Addr) (c : Nat) (l : List Dn) (w : World) (hr : DnRow 0 w.heap.size w a l) (hl : l.length ≤ 1048576) (ht : Er.TabH w) :
    Calls Tryd.prog 16 #[.slice a l.length c] w fun e w' => ∃ a' c', e = .returned (.tuple #[.slice a' (witR l).length c', .int .i64 (hisC l)]) ∧ NuOwn w.heap.size w'.heap.size w' a' (witR l) ∧ Below w.heap.size w w' := by
  have HR : Hid (∀ W0, Below w.heap.size w W0 → DnRow 0 W0.heap.size W0 a l) := fun W0 hB => hr.up hB
  have HT : Hid _ := ht
  clear hr ht
  go_enter Tryd.func16, Tryd.ntmps16
  go_wp2_with fail
  refine (impl_his a c l _ (HR.out _ (Below.refl _ _)) hl HT.out).mono ?_
  rintro e w1 ⟨rfl, hb1⟩
  have Q1 : Hid (Below w.heap.size w w1) := hb1
  have z1 := hb1.size
  clear hb1
  by_cases h0 : hisC l = 0
  case neg =>
    have HE : Hid (witR l = []) := witR_not h0
    obtain ⟨z, hz⟩ : ∃ z, z = hisC l := ⟨_, rfl⟩
    have HZ : Hid (z = hisC l) := hz
    have h0' : (z != 0) = true := by rw [hz]; simpa using h0
    rw [← hz]
    clear h0 hz
    go_wp2_with fail
    go_ret2
    exact ⟨none, 0, ret_nk (by rw [HE.out]; rfl) HZ.out, .inl HE.out, Q1.out⟩
  have HE : Hid (witR l = witP l) := witR_ok h0
  have h60 := his_len (hisC_zero h0)
  have HZ : Hid (0 = hisC l) := h0.symm
  rw [h0]
  clear h0
  go_wp2_with fail
  refine (impl_witness a c l _ (HR.out _ Q1.out) h60).mono ?_
  rintro e w2 ⟨av, cv, rfl, h1, hcv, hb2⟩
  have H1 : Hid _ := h1
  have Q2 : Hid (Below w.heap.size w w2) := Q1.out.trans (hb2.mono z1)
  have z2 := hb2.size
  have hwl : (witP l).length ≤ 60 := by rw [witP_len]; have := comP_len l l.length; omega
  clear h1 hb2
  go_wp2_with fail
  refine (impl_places2 l (witP l) av cv _ H1.out hwl).mono ?_
  rintro e w3 ⟨a3, c3, rfl, o3, hb3⟩
  have O3 : Hid _ := o3
  have Q3 : Hid (Below w.heap.size w w3) := Q2.out.trans (hb3.mono (by omega))
  clear o3 hb3
  go_wp2_with fail
  go_ret2
  have hv : Value.slice a3 (witP l).length c3 = .slice a3 (witR l).length c3 := by rw [HE.out]
  have hf : NuOwn w.heap.size w3.heap.size w3 a3 (witR l) := by rw [HE.out]; exact NuOwn.wide O3.out (by omega) (Nat.le_refl _)
  first | exact ⟨a3, c3, ret_nk hv HZ.out, hf, Q3.out⟩ | exact ⟨a3, ⟨c3, ret_nk hv HZ.out⟩, hf, Q3.out⟩
theorem ret_bi {a b : Bool} {c d : Int} (h1 : a = b) (h2 : c = d) : Ending.returned (.tuple #[.bool a, .int .i64 c]) = .returned (.tuple #[.bool b, .int .i64 d]) := by rw [h1, h2]
set_option maxHeartbeats 2000000 in
theorem real_clo (x y : Dn) (a1 b1 a2 b2 : Option Addr) (c1 d1 p1 c2 d2 p2 : Nat) (w : World) :
    Calls Tryd.prog 34 #[.agg #[.int .i64 x.id, .int .i64 x.code, .int .i64 x.ts, .int .i64 x.since, .bool x.wr, .slice a1 x.defs.length c1, .slice b1 x.vars.length d1, .string x.t, .int .i64 p1], .agg #[.int .i64 y.id, .int .i64 y.code, .int .i64 y.ts, .int .i64 y.since, .bool y.wr, .slice a2 y.defs.length c2, .slice b2 y.vars.length d2, .string y.t, .int .i64 p2]] w fun e w' => e = .returned (.bool (decide ((p2 : Int) < x.since))) ∧ Below w.heap.size w w' := by
  go_enter Tryd.func34, Tryd.ntmps34
  go_wp2_with fail
  go_ret
  exact ⟨rfl, ((Below.refl _ _).alloc (Nat.le_refl _) _).alloc (by simp) _⟩
theorem rea_not {l : List Dn} {ws : List Int} {i k : Nat} (hk : k < ws.length) (hik : i < k) (h : ws.getD k 0 < (gD l (ws.getD i 0)).since) : reaP l ws = false := by
  unfold reaP
  exact decide_eq_false fun q => by have := q k hk i hik; omega
theorem gD_at {l : List Dn} {p : Nat} (hp : p < l.length) : gD l (p : Int) = l[p] := by
  unfold gD; rw [Int.toNat_natCast, List.getElem?_eq_getElem hp]; rfl
theorem getD_of {ps : List Int} {k : Nat} {z : Int} (h : ps[k]? = some z) : ps.getD k 0 = z := by
  rw [List.getD_eq_getElem?_getD, h]; rfl
set_option maxHeartbeats 8000000 in
set_option maxRecDepth 40000 in
theorem some_pair (l : List Dn) (ps : List Int) (av : Option Addr) (cv : Nat) (w : World) (hr : RdC l w av ps) (hl : ps.length ≤ 60) (hcv : ps.length ≤ cv) :
    Calls Tryd.prog 33 #[.slice av ps.length cv, .func (.func 34) #[] #[]] w fun e w' => e = .returned (.bool (!reaP l ps)) ∧ Below w.heap.size w w' := by
  have HR : Hid _ := hr
  clear hr
  go_enter Tryd.func33, Tryd.ntmps33
  go_wp2_with fail
  go_loopw [11] (fun vi wr => ∃ (i : Nat), vi = .int .i64 i ∧ i ≤ ps.length ∧ Hid (Below w.heap.size w wr) ∧ Hid (∀ u, u < i → ∀ k, k < ps.length → u < k → (gD l (ps.getD u 0)).since ≤ ps.getD k 0)) (fun vi _ => ps.length - (intOf vi).toNat)
  case atStart => exact ⟨0, rfl, by omega, Below.refl _ _, fun u h => by omega⟩
  case round =>
    obtain ⟨i, rfl, hin, HB, HA⟩ := hrel
    obtain ⟨wo, rfl⟩ : ∃ x, x = wr := ⟨_, rfl⟩
    by_cases hlt : i < ps.length
    · obtain ⟨g, x, a, c, b, d, p, hv, hg, hp, ⟨hpl, hx⟩, d0, d1, d2, d3, d4, d5, d6, d7, d8⟩ := RdC.up HR.out HB.out i hlt
      subst hv
      have HSI : Hid ((gD l (ps.getD i 0)).since = x.since) := by rw [Hid, getD_of hp, gD_at hpl, hx]
      obtain ⟨V, hV⟩ : ∃ V, V = wo.alloc (.cells #[.int .i64 x.id, .int .i64 x.code, .int .i64 x.ts, .int .i64 x.since, .bool x.wr, .slice a x.defs.length c, .slice b x.vars.length d, .string x.t, .int .i64 p] 68) := ⟨_, rfl⟩
      have HVV : Hid _ := hV
      have HBV : Hid (Below w.heap.size w V) := by rw [hV]; exact HB.out.alloc HB.out.size _
      have c0 : V.heap[wo.heap.size]? = some (.cells #[.int .i64 x.id, .int .i64 x.code, .int .i64 x.ts, .int .i64 x.since, .bool x.wr, .slice a x.defs.length c, .slice b x.vars.length d, .string x.t, .int .i64 p] 68 (0, 0)) := by rw [hV]; exact heap_alloc_new _ _
      have HC0 : Hid _ := c0
      have zV := (Array.getElem?_eq_some_iff.1 c0).1
      clear hp hx hV c0
      go_upto_region 4 with fail
      rw [← HVV.out]
      clear d0 d1 d2 d3 d4 d5 d6 d7 d8
      have hi1 : (i : Int) + 1 ≤ ps.length := by omega
      have HNEXT : Hid ((∀ k, i < k → k < ps.length → x.since ≤ ps.getD k 0) → ∀ u, u < i + 1 → ∀ k, k < ps.length → u < k → (gD l (ps.getD u 0)).since ≤ ps.getD k 0) := fun q u hu k hk huk => by
        by_cases e : u = i
        · subst e; rw [HSI.out]; exact q k huk hk
        · exact HA.out u (by omega) k hk huk
      by_cases hci : cv = i + 1
      · subst hci
        have hlen : ps.length = i + 1 := by omega
        have hz : ps.length - (i + 1) = 0 := by omega
        have HN2 : Hid (∀ u, u < i + 1 → ∀ k, k < ps.length → u < k → (gD l (ps.getD u 0)).since ≤ ps.getD k 0) := HNEXT.out fun k h1 h2 => by omega
        have HLN : Hid (ps.length = i + 1) := hlen
        clear hlen
        go_wp2_with fail
        try rw [hz]
        go_loopw [21] (fun vj wr2 => vj = .int .i64 0 ∧ wr2 = V) (fun _ _ => 0)
        case atStart => exact ⟨rfl, rfl⟩
        case round =>
          obtain ⟨rfl, rfl⟩ := hrel
          go_wp2_with fail
          exact ⟨⟨i + 1, by go_num, by omega, HBV, HN2⟩, by simp [intOf]; omega⟩
      have hci' : ¬ (cv : Int) = i + 1 := by omega
      go_wp2_with fail
      go_loopw [21] (fun vj wr2 => ∃ (j : Nat), vj = .int .i64 j ∧ Hid (i + 1 + j ≤ ps.length) ∧ Hid (Below V.heap.size V wr2) ∧ Hid (∀ k, i < k → k < i + 1 + j → x.since ≤ ps.getD k 0)) (fun vj _ => ps.length - (intOf vj).toNat)
      case atStart => exact ⟨0, rfl, by unfold Hid; omega, Below.refl _ _, fun k h1 h2 => by omega⟩
      case round =>
        obtain ⟨j, rfl, HJN, HBJ, HAJ⟩ := hrel
        obtain ⟨w2, rfl⟩ : ∃ x, x = wr := ⟨_, rfl⟩
        have hjn := HJN.out
        have HBW : Hid (Below w.heap.size w w2) := HBV.out.trans (HBJ.out.mono HBV.out.size)
        obtain ⟨L, hL⟩ : ∃ L, L = ps.length - (i + 1) := ⟨_, rfl⟩
        rw [← hL]
        by_cases hlt2 : j < L
        · have hlt2z : (j : Int) < (L : Int) := by omega
          obtain ⟨g', y, a', c', b', d', p', hv, hg', hp, ⟨hpl2, hy⟩, d0, d1, d2, d3, d4, d5, d6, d7, d8⟩ := RdC.up HR.out HBW.out (i + 1 + j) (by omega)
          injection hv with hv
          injection hv with hv _ _
          subst hv
          rw [show (i + 1 + j) * 9 = (i + 1) * 9 + j * 9 by omega] at d0 d1 d2 d3 d4 d5 d6 d7 d8
          have HPV : Hid (ps.getD (i + 1 + j) 0 = (p' : Int)) := getD_of hp
          have HLL : Hid (L = ps.length - (i + 1)) := hL
          obtain ⟨V2, hV2⟩ : ∃ V2, V2 = w2.alloc (.cells #[.int .i64 y.id, .int .i64 y.code, .int .i64 y.ts, .int .i64 y.since, .bool y.wr, .slice a' y.defs.length c', .slice b' y.vars.length d', .string y.t, .int .i64 p'] 68) := ⟨_, rfl⟩
          have HVV2 : Hid _ := hV2
          have b2 : Below w2.heap.size w2 V2 := by rw [hV2]; exact (Below.refl _ _).alloc (Nat.le_refl _) _
          have k2 : V2.heap[w2.heap.size]? = some (.cells #[.int .i64 y.id, .int .i64 y.code, .int .i64 y.ts, .int .i64 y.since, .bool y.wr, .slice a' y.defs.length c', .slice b' y.vars.length d', .string y.t, .int .i64 p'] 68 (0, 0)) := by rw [hV2]; exact heap_alloc_new _ _
          have hzw := HBJ.out.size
          have k1 : V2.heap[wo.heap.size]? = some (.cells #[.int .i64 x.id, .int .i64 x.code, .int .i64 x.ts, .int .i64 x.since, .bool x.wr, .slice a x.defs.length c, .slice b x.vars.length d, .string x.t, .int .i64 p] 68 (0, 0)) := (b2.block _ (by omega)).trans ((HBJ.out.block _ zV).trans HC0.out)
          have HB2 : Hid (Below V.heap.size V V2) := HBJ.out.trans (b2.mono hzw)
          have z2 := (Array.getElem?_eq_some_iff.1 k2).1
          have KK : Hid (∀ W, Below V2.heap.size V2 W → Below V.heap.size V W) := fun W h => HB2.out.trans (h.mono HB2.out.size)
          clear hp hy hV2 b2 hL
          go_upto_region 7 with fail
          rw [← HVV2.out]
          clear d0 d1 d2 d3 d4 d5 d6 d7 d8
          have e1 := fun o => row_cell k1 o
          have e2 := fun o => row_cell k2 o
          clear k1 k2
          go_wp2_with fail
          refine (real_clo x y a b a' b' c d p c' d' p' _).mono ?_
          rintro e w3 ⟨rfl, hb3⟩
          have HB3 : Hid (Below V.heap.size V w3) := KK.out _ hb3
          clear hb3 e1 e2
          by_cases hpy : (p' : Int) < x.since
          · have HF : Hid (true = !reaP l ps) := by
              rw [Hid, rea_not (i := i) (k := i + 1 + j) (by have := HLL.out; omega) (by omega) (by rw [HPV.out, HSI.out]; exact hpy)]; rfl
            have HBF : Hid (Below w.heap.size w w3) := HBV.out.trans (HB3.out.mono HBV.out.size)
            rw [decide_eq_true hpy]
            clear hpy
            go_wp2_with fail
            go_ret
            exact ⟨ret_b HF.out, HBF.out⟩
          · have HAJ2 : Hid (∀ k, i < k → k < i + 1 + (j + 1) → x.since ≤ ps.getD k 0) := fun k h1 h2 => by
              by_cases e : k = i + 1 + j
              · subst e; rw [HPV.out]; omega
              · exact HAJ.out k h1 (by omega)
            rw [decide_eq_false hpy]
            clear hpy
            go_wp2_with fail
            exact ⟨⟨j + 1, by go_num, by have := HLL.out; unfold Hid; omega, HB3, HAJ2⟩, by have := HLL.out; simp [intOf]; omega⟩
        · have hlt2z : ¬ (j : Int) < (L : Int) := by omega
          have HN2 : Hid (∀ u, u < i + 1 → ∀ k, k < ps.length → u < k → (gD l (ps.getD u 0)).since ≤ ps.getD k 0) := HNEXT.out fun k h1 h2 => HAJ.out k h1 (by omega)
          clear hL
          go_wp2_with fail
          exact ⟨⟨i + 1, by go_num, by omega, HBW, HN2⟩, by simp [intOf]; omega⟩
    · obtain rfl : i = ps.length := by omega
      have HE : Hid (false = !reaP l ps) := by
        have : reaP l ps = true := decide_eq_true fun k hk u hu => HA.out u (by omega) k hk hu
        rw [Hid, this]; rfl
      go_wp2_with fail
      go_ret
      exact ⟨ret_b HE.out, HB.out⟩
set_option maxHeartbeats 4000000 in
theorem impl_real (a : Option Addr) (c : Nat) (l : List Dn) (w : World) (hr : DnRow 0 w.heap.size w a l) (hl : l.length ≤ 1048576) (ht : Er.TabH w) :
    Calls Tryd.prog 18 #[.slice a l.length c] w fun e w' => e = .returned (.tuple #[.bool (reaB l), .int .i64 (hisC l)]) ∧ Below w.heap.size w w' := by
  have HR : Hid (∀ W0, Below w.heap.size w W0 → DnRow 0 W0.heap.size W0 a l) := fun W0 hB => hr.up hB
  have HT : Hid _ := ht
  clear hr ht
  go_enter Tryd.func18, Tryd.ntmps18
  go_wp2_with fail
  refine (impl_his a c l _ (HR.out _ (Below.refl _ _)) hl HT.out).mono ?_
  rintro e w1 ⟨rfl, hb1⟩
  have Q1 : Hid (Below w.heap.size w w1) := hb1
  have z1 := hb1.size
  clear hb1
  by_cases h0 : hisC l = 0
  case neg =>
    have HE : Hid (false = reaB l) := by rw [Hid, reaB, if_neg h0]
    obtain ⟨z, hz⟩ : ∃ z, z = hisC l := ⟨_, rfl⟩
    have HZ : Hid (z = hisC l) := hz
    have h0' : (z != 0) = true := by rw [hz]; simpa using h0
    rw [← hz]
    clear h0 hz
    go_wp2_with fail
    go_ret2
    exact ⟨ret_bi HE.out HZ.out, Q1.out⟩
  have HE : Hid (reaB l = reaP l (witP l)) := by rw [Hid, reaB, if_pos h0]
  have h60 := his_len (hisC_zero h0)
  have HZ : Hid (0 = hisC l) := h0.symm
  rw [h0]
  clear h0
  go_wp2_with fail
  refine (impl_witness a c l _ (HR.out _ Q1.out) h60).mono ?_
  rintro e w2 ⟨av, cv, rfl, h1, hcv, hb2⟩
  have H1 : Hid _ := h1
  have Q2 : Hid (Below w.heap.size w w2) := Q1.out.trans (hb2.mono z1)
  have z2 := hb2.size
  have hwl : (witP l).length ≤ 60 := by rw [witP_len]; have := comP_len l l.length; omega
  clear h1 hb2
  go_wp2_with fail
  refine (some_pair l (witP l) av cv _ H1.out hwl hcv).mono ?_
  rintro e w3 ⟨rfl, hb3⟩
  have Q3 : Hid (Below w.heap.size w w3) := Q2.out.trans (hb3.mono (by omega))
  clear hb3
  go_wp2_with fail
  go_ret2
  exact ⟨ret_bi (by rw [HE.out]; try simp) HZ.out, Q3.out⟩
end Go.Proofs.YtgnonbghgcpnoaaDoor
