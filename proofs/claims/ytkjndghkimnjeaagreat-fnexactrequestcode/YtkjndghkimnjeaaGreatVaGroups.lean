/- Fields by their keys: the program's groups. -/
import Derived.Test.YtkjndghkimnjeaaGreatGRegionSix
namespace Go.Proofs.YtkjndghkimnjeaaGreat
open Go.ChangeShapes Go.WideShapes Go.ChangeAt Go.RowKit Go.Maps
set_option linter.unusedVariables false

theorem make_pl (w : World) : (Instr.makeMap 101 none).run Tryz.prog w = .ok (.map (some w.heap.size)) (w.alloc (.map #[] 0)) := by kernel_rfl
theorem wpList_append_runV {P : Program} {ops : Array Oper} {rest : List Oper} {o : Oper} {a : Act} {Q : Exit → Act → World → Prop} {w : World} (hgd : o.guard = none) (s x : Operand) (t : TypeId)
    (ho : o.op = .call { callee := .builtin .append, args := #[s, x], argTypes := #[t, t] }) (sv xv rv : Value) (w' : World) (hs : a.eval s = sv) (hx : a.eval x = xv)
    (hr : (Builtin.append_ #[t, t] o.type #[sv, xv]).run P w = .ok rv w') (h : wpList P ops Q rest (a.put o.dst rv) w') : wpList P ops Q (o :: rest) a w := by
  refine wpList_plain hgd fun K hK => ?_
  unfold Oper.wp execOp
  simp only [ho, resolve, invoke, builtin, Sem.run_bind, Sem.run_pure, Result.andThen_ok, List.map_toArray, List.map_cons, List.map_nil, hs, hx, hr]
  exact hK _ _ h
/-- The groups are told. -/
def GrR (w0 : World) (base : Nat) (f : List (Hd × Sels)) (e : Ending) (w' : World) : Prop := ∃ (a' : Option Addr) (c' : Nat) (ps : List (ByteArray × Value)), e = .returned (.slice a' ps.length c') ∧ ps.map (·.1) = gkeys f ∧ GrpAt w0 base w' (.slice a' ps.length c') ps f
theorem info_grp : ∃ i, Tryz.prog.info? 193 = some i ∧ i.zero = some (.agg #[.string ⟨#[]⟩, .slice none 0 0]) ∧ i.size = 2 ∧ i.bytes = 40 := by
  exact info_parts (by kernel_rfl)
set_option maxHeartbeats 8000000 in
set_option maxRecDepth 40000 in
theorem groups_of (w0 : World) (f : List (Hd × Sels)) (a1 : Option Addr) (c1 : Nat) (w : World) (hr : FRow w0 0 w.heap.size w a1 f) (hlb : LB f) :
    Calls Tryz.prog 132 #[.slice a1 f.length c1] w fun e w' => GrR w0 (w.heap.size + 1) f e w' ∧ Below w.heap.size w w' := by
  have HR : Hid (FRow w0 0 w.heap.size w a1 f) := hr
  have HLB : Hid (LB f) := hlb
  have hfl : f.length ≤ 1048576 := hlb.1
  have hmm := make_pl w
  clear hr hlb
  go_enter Tryz.func132, Tryz.ntmps132
  go_wp2_with fail
  clear hmm
  go_loopw [3, 13] (fun v i w' => ∃ (k : Nat) (a2 : Option Addr) (c2 : Nat) (ps : List (ByteArray × Value)), i = .int .i64 k ∧ v = .slice a2 ps.length c2 ∧ k ≤ f.length ∧ Hid (ps.map (·.1) = gkeys (f.take k)) ∧ Hid (GrpAt w0 (w.heap.size + 1) w' (.slice a2 ps.length c2) ps (f.take k)) ∧ Hid (G.Held w' w.heap.size (gkeys (f.take k))) ∧ Hid (Below w.heap.size w w')) (fun _ i _ => f.length - (intOf i).toNat)
  case atStart => exact ⟨0, none, 0, [], rfl, rfl, Nat.zero_le _, rfl, GrpAt.start _ _ _, G.Held.none w, (Below.refl _ _).alloc (Nat.le_refl _) _⟩
  case round =>
    obtain ⟨k, a2, c2, ps, rfl, rfl, hk, HP, HG, HH, HB⟩ := hrel
    obtain ⟨wo, rfl⟩ : ∃ z, z = wr := ⟨_, rfl⟩
    by_cases hlt : k < f.length
    case neg =>
      have hlt' : ¬ (k : Int) < f.length := by omega
      have HE : Hid (ps.map (·.1) = gkeys f ∧ GrpAt w0 (w.heap.size + 1) wo (.slice a2 ps.length c2) ps f) := by
        have h1 := HP.out
        have h2 := HG.out
        rw [List.take_of_length_le (by omega)] at h1 h2
        exact ⟨h1, h2⟩
      clear HP HG
      go_wp2_with fail
      go_ret
      exact ⟨⟨a2, c2, ps, rfl, HE.out.1, HE.out.2⟩, HB.out⟩
    have hlt' : (k : Int) < f.length := by omega
    have hst : gkeys (f.take (k + 1)) = gstep (gkeys (f.take k)) f[k] := by rw [List.take_succ_eq_append_getElem hlt, gkeys_snoc]
    have htk : f.take (k + 1) = f.take k ++ [f[k]] := List.take_succ_eq_append_getElem hlt
    obtain ⟨b, o, b1, e1, b2, e2, b3, e3, ha, hbl, d0, d1, d2, d3, d4, d5, r1, q1, r2, r3⟩ := FRow.cells (Row.up HR.out HB.out) k hlt
    subst ha
    have hxb : (kyB f[k].1).size ≤ 1048576 := by
      have h1 := (HLB.out.2 _ (List.getElem_mem hlt)).1
      unfold kyB; split
      · exact h1.2.1
      · exact h1.1
    obtain ⟨x, hx⟩ : ∃ x, x = f[k] := ⟨_, rfl⟩
    rw [← hx] at d0 d1 d2 d3 d4 d5 r1 q1 r2 r3 hst htk hxb
    have HR1 : Hid (ArRow 0 w0.heap.size w0 b1 x.1.args) := r1
    have HR2 : Hid (DiRow 0 w0.heap.size w0 b2 x.1.dirs) := r2
    have HR3 : Hid (SelRow 0 w0.heap.size w0 b3 x.2) := r3
    have HST : Hid (gkeys (f.take (k + 1)) = gstep (gkeys (f.take k)) x) := hst
    have HTK : Hid (f.take (k + 1) = f.take k ++ [x]) := htk
    clear hx r1 r2 r3 hst htk
    obtain ⟨V, hV⟩ : ∃ V, V = wo.alloc (.cells #[.int .i64 x.1.k, .string x.1.al, .string x.1.nm, .slice b1 x.1.args.length e1, .slice b2 x.1.dirs.length e2, .slice b3 x.2.len e3] 115) := ⟨_, rfl⟩
    have BV : Below wo.heap.size wo V := by rw [hV]; exact (Below.refl _ _).alloc (Nat.le_refl _) _
    have c0 : V.heap[wo.heap.size]? = some (.cells #[.int .i64 x.1.k, .string x.1.al, .string x.1.nm, .slice b1 x.1.args.length e1, .slice b2 x.1.dirs.length e2, .slice b3 x.2.len e3] 115 (0, 0)) := by rw [hV]; exact heap_alloc_new _ _
    have zV : wo.heap.size < V.heap.size := by rw [hV]; simp
    have zw := HB.out.size
    go_upto_region 6 with fail
    rw [← hV]
    clear hV d0 d1 d2 d3 d4 d5
    have x0 := fun o => row_cell c0 o
    have HC0 : Hid _ := c0
    have HBV : Hid _ := BV
    clear c0 BV
    go_wp2_with fail
    refine Calls.mono (impl_key x b1 b2 b3 e1 e2 e3 V) ?_
    rintro e w1 ⟨rfl, p1⟩
    have zp := p1.size
    have B1 : Hid (Below wo.heap.size wo w1) := HBV.out.trans (p1.mono (by omega))
    have C1 : Hid (w1.heap[wo.heap.size]? = some (.cells #[.int .i64 x.1.k, .string x.1.al, .string x.1.nm, .slice b1 x.1.args.length e1, .slice b2 x.1.dirs.length e2, .slice b3 x.2.len e3] 115 (0, 0))) := (p1.block _ zV).trans HC0.out
    have G1 : Hid (GrpAt w0 (w.heap.size + 1) w1 (.slice a2 ps.length c2) ps (f.take k)) := HG.out.up B1.out
    have hM := HH.out.lt
    have H1 : Hid (G.Held w1 w.heap.size (gkeys (f.take k))) := HH.out.keep B1.out hM
    have BW1 : Hid (Below w.heap.size w w1) := HB.out.trans (B1.out.mono zw)
    have z1 : wo.heap.size + 1 ≤ w1.heap.size := by omega
    have HLT : Hid (∀ i (hi : i < ps.length) g, ps[i].2.ownBlock = some g → g < wo.heap.size) := fun i hi g hg => ((HG.out.each i hi).lt g hg).2
    clear p1 x0 HG HH HBV HC0 B1 HB
    obtain ⟨ky, hky⟩ : ∃ y, y = kyB x.1 := ⟨_, rfl⟩
    have HKY : Hid (ky = kyB x.1) := hky
    rw [← hky] at hxb
    rw [← hky]
    clear hky
    obtain ⟨D, hown, hh, hat0⟩ := H1.out
    have hkey := G.key_of (s := ky) (by unfold maxLen; omega)
    have HN : Hid (Maps.has D (.string ky.toList) = G.seen (gkeys (f.take k)) ky) := hh ky
    have HA : Hid _ := hat0
    have HHH : Hid _ := hh
    clear hh hat0
    have hpl : ps.length = (gkeys (f.take k)).length := by rw [← HP.out, List.length_map]
    have hpk : ps.length ≤ k := by have := gkeys_len (f.take k); rw [List.length_take] at this; omega
    cases hsn : G.seen (gkeys (f.take k)) ky with
    | true =>
      have hyes : Maps.has D (.string ky.toList) = true := by rw [HN.out, hsn]
      obtain ⟨i, hi', hie⟩ := seen_at hsn
      have hi : i < ps.length := by omega
      have HIK : Hid (ps[i].1.toList = ky.toList) := by
        have e : (ps.map (·.1))[i]? = (gkeys (f.take k))[i]? := by rw [HP.out]
        rw [List.getElem?_map, List.getElem?_eq_getElem hi, List.getElem?_eq_getElem hi'] at e
        simp only [Option.map_some, Option.some.injEq] at e
        rw [Hid, e, hie]
      have HCV : Hid (D.atKey (.string ky.toList) (.lit (.int .i64 0)) = .lit (.int .i64 i)) := by rw [Hid, ← hie]; exact HA.out i hi'
      have HGS : Hid (gkeys (f.take (k + 1)) = gkeys (f.take k)) := by rw [Hid, HST.out]; unfold gstep; rw [← HKY.out, if_pos hsn]
      have HPS : Hid (ps.map (·.1) = gkeys (f.take (k + 1))) := by rw [Hid, HGS.out]; exact HP.out
      have HH9 : Hid (G.Held w1 w.heap.size (gkeys (f.take (k + 1)))) := by rw [Hid, HGS.out]; exact H1.out
      have HBX : Hid (∀ g, ps[i].2.ownBlock = some g → g < wo.heap.size) := fun g hg => HLT.out i hi g hg
      clear hsn hie HN HA HHH hpl HST HGS HP HLT
      obtain ⟨g0, cap0, he0, _⟩ := G1.out.own.form (by omega)
      simp only [Value.slice.injEq, true_and] at he0
      obtain ⟨ha2, hc2⟩ := he0
      subst ha2
      clear hc2
      clear H1
      have x0 := fun o => row_cell C1.out o
      go_upto_region 12 with (first
        | (at_lookup; refine wpList_lookup_own_ok_int _ rfl _ _ 101 rfl 9 3 .i64 G.law9 Tryz.underlying101 Tryz.underlying3 (G.zero3 _) w.heap.size (gkeys (f.take k)).length D rfl hown _ _ rfl hkey ?_; intro cv hat hwc; rw [hyes])
        | fail)
      obtain rfl : cv = (i : Int) := by
        have h1 := hat.symm.trans HCV.out
        simp only [DataW.lit.injEq, Lit.int.injEq, true_and] at h1
        exact h1
      clear hat hwc hown hkey HCV x0
      have hPL : ps.length = ps.length := rfl
      have hIX : i < ps.length := hi
      obtain ⟨wd, hwd⟩ : ∃ z : World, z = w1.drew := ⟨_, rfl⟩
      have GD : GrpAt w0 (w.heap.size + 1) wd (.slice (some ⟨g0, 0, none⟩) ps.length c2) ps (f.take k) := by rw [hwd, hPL]; exact G1.out.keep fun g _ _ => rfl
      have HNE : ∀ j (hj : j < ps.length), j ≠ i → ps[j].1.toList ≠ ps[i].1.toList := fun j hj hn => by
        have e : ∀ t (ht : t < ps.length), ∃ h : t < (gkeys (f.take (k + 1))).length, ps[t].1 = (gkeys (f.take (k + 1)))[t] := fun t ht => by
          have h1 : (ps.map (·.1))[t]? = (gkeys (f.take (k + 1)))[t]? := by rw [HPS.out]
          rw [List.getElem?_map, List.getElem?_eq_getElem ht] at h1
          obtain ⟨h2, h3⟩ := List.getElem?_eq_some_iff.1 h1.symm
          exact ⟨h2, h3.symm⟩
        obtain ⟨h1, e1⟩ := e j hj
        obtain ⟨h2, e2⟩ := e i hIX
        rw [e1, e2]
        exact gkeys_ne h1 h2 hn
      obtain ⟨n, ai, ci, g8, cap8, W8, P8, hn1, qc, qA, hrun, hp0, hpB, hp10, hp13, hpE⟩ := grp_put w0 w wd g0 c2 ps (f.take k) x b1 b2 b3 e1 e2 e3 i hIX wo.heap.size (gkeys (f.take (k + 1))) GD (by rw [hwd]; exact C1.out) HBX.out (by rw [hwd]; exact BW1.out.drew) (by rw [hwd]; exact HH9.out) (by rw [List.length_take]; omega) (by rw [HIK.out, HKY.out]; rfl) HNE HR1.out q1 HR2.out HR3.out
      obtain ⟨A, hA⟩ : ∃ z, z = wd.alloc (.cells selZ 115) := ⟨_, rfl⟩
      rw [← hA] at qA hrun hpB
      have HAE : Hid (A = wd.alloc (.cells #[.int .i64 0, .string ⟨#[]⟩, .string ⟨#[]⟩, .slice none 0 0, .slice none 0 0, .slice none 0 0] 115)) := hA
      have HQC : Hid (∀ W, W = wd ∨ W = A → W.cell? ⟨g0, i * 2 + 1, none⟩ = some (.slice ai n ci)) := by rintro W (rfl | rfl); exact qc; exact qA
      have HRUN : Hid _ := hrun
      have HP0 : Hid (P8 false false W8) := hp0
      have HPB : Hid _ := hpB
      have HP10 : Hid _ := hp10
      have HP13 : Hid _ := hp13
      have HPE : Hid _ := hpE
      have HWD : Hid (wd = w1.drew) := hwd
      have HPLL : Hid (ps.length = ps.length) := hPL
      have hIN : i < ps.length := by omega
      have hIN' : (i : Int) < (ps.length : Int) := by omega
      have hnn : (n : Int) < (n : Int) + 1 := by omega
      clear hA qc qA hrun hp0 hpB hp10 hp13 hpE hwd GD HNE hPL G1 C1 BW1 HH9 HBX HR1 HR2 HR3 HKY HIK HR
      refine G.region_rel6 (n := 14) (by kernel_rfl) (by kernel_rfl) (by rfl) (fun u => ⟨#[.slice (some ⟨b, o, none⟩) f.length c1, undef, .slice none 0 0, .slice (some ⟨g0, 0, none⟩) ps.length c2, .map (some w.heap.size), undef, .pointer (some ⟨wo.heap.size, 0, none⟩), .string ky, .int .i64 i, .bool true, .map (some w.heap.size), .slice (some ⟨b, o, none⟩) f.length c1, .int .i64 f.length, .int .i64 k, .bool true, .pointer (some ⟨b, o + k * 6, none⟩), .agg #[.int .i64 x.1.k, .string x.1.al, .string x.1.nm, .slice b1 x.1.args.length e1, .slice b2 x.1.dirs.length e2, .slice b3 x.2.len e3], .agg #[.int .i64 x.1.k, .string x.1.al, .string x.1.nm, .slice b1 x.1.args.length e1, .slice b2 x.1.dirs.length e2, .slice b3 x.2.len e3], .string ky, .tuple #[.int .i64 i, .bool true], .map (some w.heap.size), .string ky, .tuple #[.int .i64 i, .bool true], .int .i64 i, .bool true, .bool true, .bool false, u27, u28, u29, u30, u31, u32, u33, u34, u35, u36, u 37, u 38, u 39, u 40, u 41, u 42, u 43, u 44, u 45, u 46, u 47, u 48, u49, undef], []⟩) (fun nz => match nz with | 37 => u37 | 38 => u38 | 39 => u39 | 40 => u40 | 41 => u41 | 42 => u42 | 43 => u43 | 44 => u44 | 45 => u45 | 46 => u46 | 47 => u47 | 48 => u48 | _ => undef) (fun iz => [37, 38, 39, 40, 41, 42, 43, 44, 45, 46, 410, 47, 48, 413].getD iz 0) (fun iz jz hi hj h => (by decide : ∀ i, i < 14 → ∀ j, j < 14 → [37, 38, 39, 40, 41, 42, 43, 44, 45, 46, 410, 47, 48, 413].getD i 0 = [37, 38, 39, 40, 41, 42, 43, 44, 45, 46, 410, 47, 48, 413].getD j 0 → i = j) iz hi jz hj h)
        (fun iz v _ => match iz with | 0 => v = .slice (some ⟨g0, 0, none⟩) ps.length c2 | 1 => v = .int .i64 i | 2 => v = .pointer (some ⟨g0, i * 2, none⟩) | 3 => v = .pointer (some ⟨g0, i * 2 + 1, none⟩) | 4 => v = .slice ai n ci | 5 => v = .agg #[.int .i64 x.1.k, .string x.1.al, .string x.1.nm, .slice b1 x.1.args.length e1, .slice b2 x.1.dirs.length e2, .slice b3 x.2.len e3] | 6 => v = .int .i64 n | 7 => v = .slice (some ⟨wd.heap.size, 0, none⟩) 1 1 | 8 => v = .slice (some ⟨g8, 0, none⟩) (n + 1) cap8 | 9 => v = .pointer (some ⟨g8, n * 6, none⟩) | 11 => v = .pointer (some ⟨g0, i * 2, none⟩) | 12 => v = .pointer (some ⟨g0, i * 2 + 1, none⟩) | _ => True) (fun L _ W => GpJ wd A P8 L W) (.inl ⟨by simp, by simp, by simp, .inl ⟨by simp, HWD.out.symm⟩⟩) ?step ?last
      case step =>
        intro L u W iq hi hLs hLi hj hdep
        have HJ : Hid (GpJ wd A P8 L W) := hj
        have HLI : Hid _ := hLi
        have hcase : iq = 0 ∨ iq = 1 ∨ iq = 2 ∨ iq = 3 ∨ iq = 4 ∨ iq = 5 ∨ iq = 6 ∨ iq = 7 ∨ iq = 8 ∨ iq = 9 ∨ iq = 10 ∨ iq = 11 ∨ iq = 12 ∨ iq = 13 := by omega
        clear hj hLi hi hLs
        rcases hcase with rfl | rfl | rfl | rfl | rfl | rfl | rfl | rfl | rfl | rfl | rfl | rfl | rfl | rfl
        · clear hdep
          refine wpOp_step rfl (fun K hK => ?_)
          go_simp
          exact hK _ _ ⟨.slice (some ⟨g0, 0, none⟩) ps.length c2, by simp [G.upd], fun _ _ h => h, rfl, HJ.out.other (by decide) (by decide) (by decide) (by decide)⟩
        · clear hdep
          refine wpOp_step rfl (fun K hK => ?_)
          go_simp
          exact hK _ _ ⟨.int .i64 i, by simp [G.upd], fun _ _ h => h, rfl, HJ.out.other (by decide) (by decide) (by decide) (by decide)⟩
        · have d0 : u 37 = .slice (some ⟨g0, 0, none⟩) ps.length c2 := (hdep _ rfl ⟨0, .data⟩ (by simp) rfl).2
          have d1 : u 38 = .int .i64 i := (hdep _ rfl ⟨1, .data⟩ (by simp) rfl).2
          clear hdep
          refine wpOp_step rfl (fun K hK => ?_)
          go_simp
          exact hK _ _ ⟨.pointer (some ⟨g0, i * 2, none⟩), by simp [G.upd, d0, d1], fun _ _ h => h, rfl, HJ.out.other (by decide) (by decide) (by decide) (by decide)⟩
        · have d2 : u 39 = .pointer (some ⟨g0, i * 2, none⟩) := (hdep _ rfl ⟨2, .data⟩ (by simp) rfl).2
          clear hdep
          refine wpOp_step rfl (fun K hK => ?_)
          go_simp
          exact hK _ _ ⟨.pointer (some ⟨g0, i * 2 + 1, none⟩), by simp [G.upd, d2], fun _ _ h => h, rfl, HJ.out.other (by decide) (by decide) (by decide) (by decide)⟩
        · have d3 : u 40 = .pointer (some ⟨g0, i * 2 + 1, none⟩) := (hdep _ rfl ⟨3, .data⟩ (by simp) rfl).2
          have qx := HQC.out W (HJ.out.early HLI.out)
          clear hdep
          refine wpOp_step rfl (fun K hK => ?_)
          go_simp
          exact hK _ _ ⟨.slice ai n ci, by simp [G.upd, d3], fun _ _ h => h, rfl, HJ.out.other (by decide) (by decide) (by decide) (by decide)⟩
        · have xb := fun o => row_cell (HPB.out W HJ.out.any) o
          clear hdep
          refine wpOp_step rfl (fun K hK => ?_)
          go_simp
          exact hK _ _ ⟨.agg #[.int .i64 x.1.k, .string x.1.al, .string x.1.nm, .slice b1 x.1.args.length e1, .slice b2 x.1.dirs.length e2, .slice b3 x.2.len e3], by simp [G.upd], fun _ _ h => h, rfl, HJ.out.other (by decide) (by decide) (by decide) (by decide)⟩
        · have d4 : u 41 = .slice ai n ci := (hdep _ rfl ⟨4, .data⟩ (by simp) rfl).2
          clear hdep
          refine wpOp_step rfl (fun K hK => ?_)
          go_simp
          exact hK _ _ ⟨.int .i64 n, by simp [G.upd, d4], fun _ _ h => h, rfl, HJ.out.other (by decide) (by decide) (by decide) (by decide)⟩
        · obtain ⟨hw, hj7⟩ := HJ.out.seven HLI.out
          clear hdep HJ
          replace hw := hw.symm
          subst hw
          have HJ7 : Hid _ := hj7
          clear hj7
          refine wpOp_step rfl (fun K hK => ?_)
          go_simp
          exact hK _ _ ⟨.slice (some ⟨wd.heap.size, 0, none⟩) 1 1, by simp [G.upd], fun _ _ h => h, rfl, by rw [← HAE.out]; exact HJ7.out⟩
        · have d4 : u 41 = .slice ai n ci := (hdep _ rfl ⟨4, .data⟩ (by simp) rfl).2
          have d7 : u 44 = .slice (some ⟨wd.heap.size, 0, none⟩) 1 1 := (hdep _ rfl ⟨7, .data⟩ (by simp) rfl).2
          have l4 := (hdep _ rfl ⟨4, .data⟩ (by simp) rfl).1
          have l7 := (hdep _ rfl ⟨7, .data⟩ (by simp) rfl).1
          obtain ⟨hw, hj8⟩ := HJ.out.eight HLI.out l7 l4 HP0.out
          clear hdep HJ l4 l7
          replace hw := hw.symm
          subst hw
          have HJ8 : Hid _ := hj8
          clear hj8
          refine wpOp_step rfl (fun K hK => ?_)
          refine wp_append_runV (.tmp 41) (.tmp 44) _ rfl _ _ _ _ d4 d7 HRUN.out ?_
          exact hK _ _ ⟨_, by simp [Act.put, G.upd, d4, d7], fun _ _ h => h, rfl, HJ8.out⟩
        · have d8 : u 45 = .slice (some ⟨g8, 0, none⟩) (n + 1) cap8 := (hdep _ rfl ⟨8, .data⟩ (by simp) rfl).2
          have d6 : u 43 = .int .i64 n := (hdep _ rfl ⟨6, .data⟩ (by simp) rfl).2
          clear hdep
          refine wpOp_step rfl (fun K hK => ?_)
          go_simp
          exact hK _ _ ⟨.pointer (some ⟨g8, n * 6, none⟩), by simp [G.upd, d8, d6], fun _ _ h => h, rfl, HJ.out.other (by decide) (by decide) (by decide) (by decide)⟩
        · have d9 : u 46 = .pointer (some ⟨g8, n * 6, none⟩) := (hdep _ rfl ⟨9, .data⟩ (by simp) rfl).2
          have d5 : u 42 = .agg #[.int .i64 x.1.k, .string x.1.al, .string x.1.nm, .slice b1 x.1.args.length e1, .slice b2 x.1.dirs.length e2, .slice b3 x.2.len e3] := (hdep _ rfl ⟨5, .data⟩ (by simp) rfl).2
          have l8 := (hdep _ rfl ⟨8, .chain⟩ (by simp) rfl).1
          obtain ⟨hp, hj10⟩ := HJ.out.ten (W' := putSel W g8 (n * 6) x b1 b2 b3 e1 e2 e3) HLI.out l8
          obtain ⟨⟨fz, m0, m1, m2, m3, m4, m5⟩, hpn⟩ := HP10.out _ W hp
          have HJ10 : Hid _ := hj10 hpn
          clear hdep HJ l8 hp hj10 hpn
          refine wpOp_step rfl (fun K hK => ?_)
          go_simp
          exact hK _ _ ⟨.int .i64 0, by simp [G.upd, d9, d5], fun _ _ h => h, trivial, HJ10.out⟩
        · have d0 : u 37 = .slice (some ⟨g0, 0, none⟩) ps.length c2 := (hdep _ rfl ⟨0, .data⟩ (by simp) rfl).2
          have d1 : u 38 = .int .i64 i := (hdep _ rfl ⟨1, .data⟩ (by simp) rfl).2
          clear hdep
          refine wpOp_step rfl (fun K hK => ?_)
          go_simp
          exact hK _ _ ⟨.pointer (some ⟨g0, i * 2, none⟩), by simp [G.upd, d0, d1], fun _ _ h => h, rfl, HJ.out.other (by decide) (by decide) (by decide) (by decide)⟩
        · have d11 : u 47 = .pointer (some ⟨g0, i * 2, none⟩) := (hdep _ rfl ⟨11, .data⟩ (by simp) rfl).2
          clear hdep
          refine wpOp_step rfl (fun K hK => ?_)
          go_simp
          exact hK _ _ ⟨.pointer (some ⟨g0, i * 2 + 1, none⟩), by simp [G.upd, d11], fun _ _ h => h, rfl, HJ.out.other (by decide) (by decide) (by decide) (by decide)⟩
        · have d12 : u 48 = .pointer (some ⟨g0, i * 2 + 1, none⟩) := (hdep _ rfl ⟨12, .data⟩ (by simp) rfl).2
          have d8 : u 45 = .slice (some ⟨g8, 0, none⟩) (n + 1) cap8 := (hdep _ rfl ⟨8, .data⟩ (by simp) rfl).2
          have l8 := (hdep _ rfl ⟨8, .data⟩ (by simp) rfl).1
          obtain ⟨hp, hj13⟩ := HJ.out.last (W' := W.setCell ⟨g0, i * 2 + 1, none⟩ (.slice (some ⟨g8, 0, none⟩) (n + 1) cap8)) HLI.out l8
          obtain ⟨m0, fz, hpn⟩ := HP13.out _ W hp
          have HJ13 : Hid _ := hj13 hpn
          clear hdep HJ l8 hp hj13 hpn
          refine wpOp_step rfl (fun K hK => ?_)
          go_simp
          exact hK _ _ ⟨.int .i64 0, by simp [G.upd, d12, d8], fun _ _ h => h, trivial, HJ13.out⟩
      case last =>
        intro L u W hLs hD hj hp
        have hpE : P8 true true W := by
          rcases hj with ⟨h8, _⟩ | ⟨_, _, _, h8⟩
          · rw [hD 8 (by omega)] at h8; cases h8
          · rw [hD 10 (by omega), hD 13 (by omega)] at h8; exact h8
        obtain ⟨hG, hH, hBl⟩ := HPE.out W hpE
        rw [← HTK.out, HPLL.out] at hG
        have GN : Hid _ := hG
        have HN : Hid _ := hH
        have BN : Hid _ := hBl
        have PM : Hid ((ps.set i (ps[i].1, .slice (some ⟨g8, 0, none⟩) (n + 1) cap8)).map (·.1) = gkeys (f.take (k + 1))) := by
          rw [Hid, ← HPS.out]
          apply List.ext_getElem
          · simp
          · intro t h1 h2
            simp only [List.getElem_map, List.getElem_set]
            split
            · rename_i e; subst e; rfl
            · rfl
        have hSL : (ps.set i (ps[i].1, .slice (some ⟨g8, 0, none⟩) (n + 1) cap8)).length = ps.length := List.length_set.trans HPLL.out
        have HSL : Hid _ := hSL
        clear hp hj hD hpE hG hH hBl hSL HP0 HPB HP10 HP13 HPE HRUN HQC HAE
        go_wp2_with fail
        refine ⟨⟨k + 1, some ⟨g0, 0, none⟩, c2, ps.set i (ps[i].1, .slice (some ⟨g8, 0, none⟩) (n + 1) cap8), by go_num, by rw [HSL.out], by omega, PM, by rw [HSL.out]; exact GN, HN, BN⟩, by simp [intOf]; omega⟩
    | false =>
      have hno : Maps.has D (.string ky.toList) = false := by rw [HN.out, hsn]
      have HGS : Hid (gkeys (f.take (k + 1)) = gkeys (f.take k) ++ [ky]) := by rw [Hid, HST.out]; unfold gstep; rw [← HKY.out, if_neg (by rw [hsn]; decide)]
      have HSN : Hid (G.seen (gkeys (f.take k)) ky = false) := hsn
      have HOF : Hid (ofK ky.toList (f.take k) = []) := ofK_none hsn
      have hkl : (gkeys (f.take k)).length ≤ 1048576 := by omega
      have HPL : Hid (ps.length = (gkeys (f.take k)).length) := hpl
      clear hsn HN HST hpl
      have x0 := fun o => row_cell C1.out o
      go_upto_region 11 with (first
        | (at_lookup; refine wpList_lookup_own_ok_int _ rfl _ _ 101 rfl 9 3 .i64 G.law9 Tryz.underlying101 Tryz.underlying3 (G.zero3 _) w.heap.size (gkeys (f.take k)).length D rfl hown _ _ rfl hkey ?_; intro cv hat hwc; rw [hno])
        | (at_mapUpdate; refine wpList_mapUpdate_own _ rfl _ _ _ 101 rfl 9 3 G.law9 Tryz.underlying101 _ w.heap.size (gkeys (f.take k)).length _ rfl hown (by unfold maxLen; omega) _ _ _ rfl rfl hkey _ [] (plainElem_int Tryz.underlying3 (WalkArith.wf_i64 (by omega))) ?_; intro w4 hown4 hgrow4)
        | fail)
      have HH4 : Hid (G.Held w4 w.heap.size (gkeys (f.take (k + 1)))) := by
        have h4 := hown4
        rw [HPL.out] at h4
        have := G.Held.put (w' := w4) (B := w.heap.size) (t := ky) (ns := gkeys (f.take k)) (hown.isMap) HSN.out HHH.out HA.out h4
        rw [Hid, HGS.out]; exact this
      have zg := hgrow4.size
      have B4 : Hid (Below w.heap.size w w4) := BW1.out.grown hgrow4 BW1.out.size (fun j hj => by cases hj; exact Nat.le_refl _)
      have G4 : Hid (GrpAt w0 (w.heap.size + 1) w4 (.slice a2 ps.length c2) ps (f.take k)) := G1.out.keep fun g h1 h2 => hgrow4.block g h2 (fun e => by simp only [Option.some.injEq] at e; omega)
      have C4 : Hid (w4.heap[wo.heap.size]? = some (.cells #[.int .i64 x.1.k, .string x.1.al, .string x.1.nm, .slice b1 x.1.args.length e1, .slice b2 x.1.dirs.length e2, .slice b3 x.2.len e3] 115 (0, 0))) := (hgrow4.block _ (by omega) (fun e => by simp only [Option.some.injEq] at e; omega)).trans C1.out
      clear hown hown4 hgrow4 HHH HA hkey hno x0 G1 C1 H1 BW1 hat hwc
      obtain ⟨U, hU⟩ : ∃ U, U = w4.alloc (.cells #[.string ky, .slice none 0 0] 193) := ⟨_, rfl⟩
      have BU : Below w4.heap.size w4 U := by rw [hU]; exact (Below.refl _ _).alloc (Nat.le_refl _) _
      have cU : U.heap[w4.heap.size]? = some (.cells #[.string ky, .slice none 0 0] 193 (0, 0)) := by rw [hU]; exact heap_alloc_new _ _
      have zU := BU.size
      obtain ⟨ig, hig, hzg, hsg, hbg⟩ := info_grp
      obtain ⟨g5, cap5, w5, hrun, o5, gr5, hat5, hlt5⟩ := run_append_lies (P := Tryz.prog) U 189 189 (w.heap.size + 1) 193 ig _ 2 40 Tryz.underlying189 hig hzg hsg hbg rfl (by decide) (.slice a2 ps.length c2) ps.length (gcells ps) (owns_sameV G4.out.own fun g hg => BU.block g (G4.out.lt g hg).2) ⟨w4.heap.size, 0, none⟩ 1 1 [.string ky, .slice none 0 0] rfl (fun j u hj => by
        rw [add_plain]
        have := row_cell cU (0 + j)
        rw [this, ← hj]
        simp) (fun u hu => by
          simp only [List.mem_cons, List.not_mem_nil, or_false] at hu
          rcases hu with rfl | rfl <;> rfl) (by omega) (by unfold maxLen; omega) (by omega) (by have := B4.out.size; omega) _ rfl
      have z5 := gr5.size
      have hbk : ∀ g, w.heap.size + 1 ≤ g ∨ g = w.heap.size → True := fun _ _ => trivial
      have BW5 : Hid (Below w.heap.size w w5) := (B4.out.trans (BU.mono B4.out.size)).grown gr5 (by have := B4.out.size; omega) (fun g hg => by have := (G4.out.lt g hg).1; omega)
      have G5 : Hid (GrpAt w0 (w.heap.size + 1) w5 (.slice (some ⟨g5, 0, none⟩) (ps.length + 1) cap5) (ps ++ [(ky, .slice none 0 0)]) (f.take k)) := (G4.out.up BU).push HOF.out gr5 o5
      have C5 : Hid (w5.heap[wo.heap.size]? = some (.cells #[.int .i64 x.1.k, .string x.1.al, .string x.1.nm, .slice b1 x.1.args.length e1, .slice b2 x.1.dirs.length e2, .slice b3 x.2.len e3] 115 (0, 0))) := by
        refine (gr5.block _ (by omega) (fun e => ?_)).trans ((BU.block _ (by omega)).trans C4.out)
        rcases G4.out.own.2 with ⟨h1, _⟩ | ⟨gg, cc, uu, h1, _, h2, _⟩
        · rw [h1] at e; simp [Value.ownBlock] at e
        · rw [h1] at e
          simp only [Value.ownBlock, Option.some.injEq] at e
          rw [← e, C4.out] at h2
          simp at h2
      have HH5 : Hid (G.Held w5 w.heap.size (gkeys (f.take (k + 1)))) := by
        obtain ⟨D', ⟨es, clock, h1, h2⟩, h3⟩ := HH4.out
        refine ⟨D', ⟨es, clock, (gr5.block _ (by have := HH4.out.lt; omega) (fun e => ?_)).trans ((BU.block _ HH4.out.lt).trans h1), h2⟩, h3⟩
        have := (G4.out.lt _ e.symm).1
        omega
      have HRUN : Hid _ := hrun
      have HU : Hid (U = _) := hU
      clear hU hrun o5 gr5 BU cU HH4 G4 B4 hat5 hbk hzg hsg hbg hig
      go_upto_region 12 with (first | (at_builtin; rw [← HU.out]; refine wpList_append_runV rfl _ _ _ rfl _ _ _ _ rfl rfl HRUN.out ?_) | fail)
      clear HRUN HU
      obtain ⟨PS, hPS⟩ : ∃ z, z = ps ++ [(ky, Value.slice none 0 0)] := ⟨_, rfl⟩
      have hPL : PS.length = ps.length + 1 := by rw [hPS]; simp
      have hIX : ps.length < PS.length := by omega
      have hpe : PS[ps.length] = (ky, Value.slice none 0 0) := by
        simp only [hPS]
        rw [List.getElem_append_right (Nat.le_refl _)]; simp
      have HIK : Hid (PS[ps.length].1.toList = ky.toList) := by rw [Hid, hpe]
      have HBX : Hid (∀ g, PS[ps.length].2.ownBlock = some g → g < wo.heap.size) := fun g hg => by rw [hpe] at hg; simp [Value.ownBlock] at hg
      have HPS : Hid (PS.map (·.1) = gkeys (f.take (k + 1))) := by rw [Hid, hPS, HGS.out, List.map_append, HP.out]; rfl
      rw [← hPS] at G5
      clear hPS hpe HGS HSN HOF HP HPL HLT
      have hIX : ps.length < PS.length := by omega
      obtain ⟨wd, hwd⟩ : ∃ z : World, z = w5.drew := ⟨_, rfl⟩
      have GD : GrpAt w0 (w.heap.size + 1) wd (.slice (some ⟨g5, 0, none⟩) PS.length cap5) PS (f.take k) := by rw [hwd, hPL]; exact G5.out.keep fun g _ _ => rfl
      have HNE : ∀ j (hj : j < PS.length), j ≠ ps.length → PS[j].1.toList ≠ PS[ps.length].1.toList := fun j hj hn => by
        have e : ∀ t (ht : t < PS.length), ∃ h : t < (gkeys (f.take (k + 1))).length, PS[t].1 = (gkeys (f.take (k + 1)))[t] := fun t ht => by
          have h1 : (PS.map (·.1))[t]? = (gkeys (f.take (k + 1)))[t]? := by rw [HPS.out]
          rw [List.getElem?_map, List.getElem?_eq_getElem ht] at h1
          obtain ⟨h2, h3⟩ := List.getElem?_eq_some_iff.1 h1.symm
          exact ⟨h2, h3.symm⟩
        obtain ⟨h1, e1⟩ := e j hj
        obtain ⟨h2, e2⟩ := e ps.length hIX
        rw [e1, e2]
        exact gkeys_ne h1 h2 hn
      obtain ⟨n, ai, ci, g8, cap8, W8, P8, hn1, qc, qA, hrun, hp0, hpB, hp10, hp13, hpE⟩ := grp_put w0 w wd g5 cap5 PS (f.take k) x b1 b2 b3 e1 e2 e3 ps.length hIX wo.heap.size (gkeys (f.take (k + 1))) GD (by rw [hwd]; exact C5.out) HBX.out (by rw [hwd]; exact BW5.out.drew) (by rw [hwd]; exact HH5.out) (by rw [List.length_take]; omega) (by rw [HIK.out, HKY.out]; rfl) HNE HR1.out q1 HR2.out HR3.out
      obtain ⟨A, hA⟩ : ∃ z, z = wd.alloc (.cells selZ 115) := ⟨_, rfl⟩
      rw [← hA] at qA hrun hpB
      have HAE : Hid (A = wd.alloc (.cells #[.int .i64 0, .string ⟨#[]⟩, .string ⟨#[]⟩, .slice none 0 0, .slice none 0 0, .slice none 0 0] 115)) := hA
      have HQC : Hid (∀ W, W = wd ∨ W = A → W.cell? ⟨g5, ps.length * 2 + 1, none⟩ = some (.slice ai n ci)) := by rintro W (rfl | rfl); exact qc; exact qA
      have HRUN : Hid _ := hrun
      have HP0 : Hid (P8 false false W8) := hp0
      have HPB : Hid _ := hpB
      have HP10 : Hid _ := hp10
      have HP13 : Hid _ := hp13
      have HPE : Hid _ := hpE
      have HWD : Hid (wd = w5.drew) := hwd
      have HPLL : Hid (PS.length = (ps.length + 1)) := hPL
      have hIN : ps.length < (ps.length + 1) := by omega
      have hIN' : (ps.length : Int) < (ps.length : Int) + 1 := by omega
      have hnn : (n : Int) < (n : Int) + 1 := by omega
      clear hA qc qA hrun hp0 hpB hp10 hp13 hpE hwd GD HNE hPL G5 C5 BW5 HH5 HBX HR1 HR2 HR3 HKY HIK HR
      refine G.region_rel6 (n := 14) (by kernel_rfl) (by kernel_rfl) (by rfl) (fun u => ⟨#[.slice (some ⟨b, o, none⟩) f.length c1, undef, .slice none 0 0, .slice (some ⟨g5, 0, none⟩) (ps.length + 1) cap5, .map (some w.heap.size), undef, .pointer (some ⟨wo.heap.size, 0, none⟩), .string ky, .int .i64 ps.length, .bool false, .map (some w.heap.size), .slice (some ⟨b, o, none⟩) f.length c1, .int .i64 f.length, .int .i64 k, .bool true, .pointer (some ⟨b, o + k * 6, none⟩), .agg #[.int .i64 x.1.k, .string x.1.al, .string x.1.nm, .slice b1 x.1.args.length e1, .slice b2 x.1.dirs.length e2, .slice b3 x.2.len e3], .agg #[.int .i64 x.1.k, .string x.1.al, .string x.1.nm, .slice b1 x.1.args.length e1, .slice b2 x.1.dirs.length e2, .slice b3 x.2.len e3], .string ky, .tuple #[.int .i64 cv, .bool false], .map (some w.heap.size), .string ky, .tuple #[.int .i64 cv, .bool false], .int .i64 cv, .bool false, .bool false, .bool true, .slice a2 ps.length c2, .int .i64 ps.length, .map (some w.heap.size), .string ky, .int .i64 ps.length, .slice a2 ps.length c2, .string ky, .agg #[.string ky, .slice none 0 0], .slice (some ⟨w4.heap.size, 0, none⟩) 1 1, .slice (some ⟨g5, 0, none⟩) (ps.length + 1) cap5, u 37, u 38, u 39, u 40, u 41, u 42, u 43, u 44, u 45, u 46, u 47, u 48, u49, undef], []⟩) (fun nz => match nz with | 37 => u37 | 38 => u38 | 39 => u39 | 40 => u40 | 41 => u41 | 42 => u42 | 43 => u43 | 44 => u44 | 45 => u45 | 46 => u46 | 47 => u47 | 48 => u48 | _ => undef) (fun iz => [37, 38, 39, 40, 41, 42, 43, 44, 45, 46, 410, 47, 48, 413].getD iz 0) (fun iz jz hi hj h => (by decide : ∀ i, i < 14 → ∀ j, j < 14 → [37, 38, 39, 40, 41, 42, 43, 44, 45, 46, 410, 47, 48, 413].getD i 0 = [37, 38, 39, 40, 41, 42, 43, 44, 45, 46, 410, 47, 48, 413].getD j 0 → i = j) iz hi jz hj h)
        (fun iz v _ => match iz with | 0 => v = .slice (some ⟨g5, 0, none⟩) (ps.length + 1) cap5 | 1 => v = .int .i64 ps.length | 2 => v = .pointer (some ⟨g5, ps.length * 2, none⟩) | 3 => v = .pointer (some ⟨g5, ps.length * 2 + 1, none⟩) | 4 => v = .slice ai n ci | 5 => v = .agg #[.int .i64 x.1.k, .string x.1.al, .string x.1.nm, .slice b1 x.1.args.length e1, .slice b2 x.1.dirs.length e2, .slice b3 x.2.len e3] | 6 => v = .int .i64 n | 7 => v = .slice (some ⟨wd.heap.size, 0, none⟩) 1 1 | 8 => v = .slice (some ⟨g8, 0, none⟩) (n + 1) cap8 | 9 => v = .pointer (some ⟨g8, n * 6, none⟩) | 11 => v = .pointer (some ⟨g5, ps.length * 2, none⟩) | 12 => v = .pointer (some ⟨g5, ps.length * 2 + 1, none⟩) | _ => True) (fun L _ W => GpJ wd A P8 L W) (.inl ⟨by simp, by simp, by simp, .inl ⟨by simp, HWD.out.symm⟩⟩) ?step ?last
      case step =>
        intro L u W iq hi hLs hLi hj hdep
        have HJ : Hid (GpJ wd A P8 L W) := hj
        have HLI : Hid _ := hLi
        have hcase : iq = 0 ∨ iq = 1 ∨ iq = 2 ∨ iq = 3 ∨ iq = 4 ∨ iq = 5 ∨ iq = 6 ∨ iq = 7 ∨ iq = 8 ∨ iq = 9 ∨ iq = 10 ∨ iq = 11 ∨ iq = 12 ∨ iq = 13 := by omega
        clear hj hLi hi hLs
        rcases hcase with rfl | rfl | rfl | rfl | rfl | rfl | rfl | rfl | rfl | rfl | rfl | rfl | rfl | rfl
        · clear hdep
          refine wpOp_step rfl (fun K hK => ?_)
          go_simp
          exact hK _ _ ⟨.slice (some ⟨g5, 0, none⟩) (ps.length + 1) cap5, by simp [G.upd], fun _ _ h => h, rfl, HJ.out.other (by decide) (by decide) (by decide) (by decide)⟩
        · clear hdep
          refine wpOp_step rfl (fun K hK => ?_)
          go_simp
          exact hK _ _ ⟨.int .i64 ps.length, by simp [G.upd], fun _ _ h => h, rfl, HJ.out.other (by decide) (by decide) (by decide) (by decide)⟩
        · have d0 : u 37 = .slice (some ⟨g5, 0, none⟩) (ps.length + 1) cap5 := (hdep _ rfl ⟨0, .data⟩ (by simp) rfl).2
          have d1 : u 38 = .int .i64 ps.length := (hdep _ rfl ⟨1, .data⟩ (by simp) rfl).2
          clear hdep
          refine wpOp_step rfl (fun K hK => ?_)
          go_simp
          exact hK _ _ ⟨.pointer (some ⟨g5, ps.length * 2, none⟩), by simp [G.upd, d0, d1], fun _ _ h => h, rfl, HJ.out.other (by decide) (by decide) (by decide) (by decide)⟩
        · have d2 : u 39 = .pointer (some ⟨g5, ps.length * 2, none⟩) := (hdep _ rfl ⟨2, .data⟩ (by simp) rfl).2
          clear hdep
          refine wpOp_step rfl (fun K hK => ?_)
          go_simp
          exact hK _ _ ⟨.pointer (some ⟨g5, ps.length * 2 + 1, none⟩), by simp [G.upd, d2], fun _ _ h => h, rfl, HJ.out.other (by decide) (by decide) (by decide) (by decide)⟩
        · have d3 : u 40 = .pointer (some ⟨g5, ps.length * 2 + 1, none⟩) := (hdep _ rfl ⟨3, .data⟩ (by simp) rfl).2
          have qx := HQC.out W (HJ.out.early HLI.out)
          clear hdep
          refine wpOp_step rfl (fun K hK => ?_)
          go_simp
          exact hK _ _ ⟨.slice ai n ci, by simp [G.upd, d3], fun _ _ h => h, rfl, HJ.out.other (by decide) (by decide) (by decide) (by decide)⟩
        · have xb := fun o => row_cell (HPB.out W HJ.out.any) o
          clear hdep
          refine wpOp_step rfl (fun K hK => ?_)
          go_simp
          exact hK _ _ ⟨.agg #[.int .i64 x.1.k, .string x.1.al, .string x.1.nm, .slice b1 x.1.args.length e1, .slice b2 x.1.dirs.length e2, .slice b3 x.2.len e3], by simp [G.upd], fun _ _ h => h, rfl, HJ.out.other (by decide) (by decide) (by decide) (by decide)⟩
        · have d4 : u 41 = .slice ai n ci := (hdep _ rfl ⟨4, .data⟩ (by simp) rfl).2
          clear hdep
          refine wpOp_step rfl (fun K hK => ?_)
          go_simp
          exact hK _ _ ⟨.int .i64 n, by simp [G.upd, d4], fun _ _ h => h, rfl, HJ.out.other (by decide) (by decide) (by decide) (by decide)⟩
        · obtain ⟨hw, hj7⟩ := HJ.out.seven HLI.out
          clear hdep HJ
          replace hw := hw.symm
          subst hw
          have HJ7 : Hid _ := hj7
          clear hj7
          refine wpOp_step rfl (fun K hK => ?_)
          go_simp
          exact hK _ _ ⟨.slice (some ⟨wd.heap.size, 0, none⟩) 1 1, by simp [G.upd], fun _ _ h => h, rfl, by rw [← HAE.out]; exact HJ7.out⟩
        · have d4 : u 41 = .slice ai n ci := (hdep _ rfl ⟨4, .data⟩ (by simp) rfl).2
          have d7 : u 44 = .slice (some ⟨wd.heap.size, 0, none⟩) 1 1 := (hdep _ rfl ⟨7, .data⟩ (by simp) rfl).2
          have l4 := (hdep _ rfl ⟨4, .data⟩ (by simp) rfl).1
          have l7 := (hdep _ rfl ⟨7, .data⟩ (by simp) rfl).1
          obtain ⟨hw, hj8⟩ := HJ.out.eight HLI.out l7 l4 HP0.out
          clear hdep HJ l4 l7
          replace hw := hw.symm
          subst hw
          have HJ8 : Hid _ := hj8
          clear hj8
          refine wpOp_step rfl (fun K hK => ?_)
          refine wp_append_runV (.tmp 41) (.tmp 44) _ rfl _ _ _ _ d4 d7 HRUN.out ?_
          exact hK _ _ ⟨_, by simp [Act.put, G.upd, d4, d7], fun _ _ h => h, rfl, HJ8.out⟩
        · have d8 : u 45 = .slice (some ⟨g8, 0, none⟩) (n + 1) cap8 := (hdep _ rfl ⟨8, .data⟩ (by simp) rfl).2
          have d6 : u 43 = .int .i64 n := (hdep _ rfl ⟨6, .data⟩ (by simp) rfl).2
          clear hdep
          refine wpOp_step rfl (fun K hK => ?_)
          go_simp
          exact hK _ _ ⟨.pointer (some ⟨g8, n * 6, none⟩), by simp [G.upd, d8, d6], fun _ _ h => h, rfl, HJ.out.other (by decide) (by decide) (by decide) (by decide)⟩
        · have d9 : u 46 = .pointer (some ⟨g8, n * 6, none⟩) := (hdep _ rfl ⟨9, .data⟩ (by simp) rfl).2
          have d5 : u 42 = .agg #[.int .i64 x.1.k, .string x.1.al, .string x.1.nm, .slice b1 x.1.args.length e1, .slice b2 x.1.dirs.length e2, .slice b3 x.2.len e3] := (hdep _ rfl ⟨5, .data⟩ (by simp) rfl).2
          have l8 := (hdep _ rfl ⟨8, .chain⟩ (by simp) rfl).1
          obtain ⟨hp, hj10⟩ := HJ.out.ten (W' := putSel W g8 (n * 6) x b1 b2 b3 e1 e2 e3) HLI.out l8
          obtain ⟨⟨fz, m0, m1, m2, m3, m4, m5⟩, hpn⟩ := HP10.out _ W hp
          have HJ10 : Hid _ := hj10 hpn
          clear hdep HJ l8 hp hj10 hpn
          refine wpOp_step rfl (fun K hK => ?_)
          go_simp
          exact hK _ _ ⟨.int .i64 0, by simp [G.upd, d9, d5], fun _ _ h => h, trivial, HJ10.out⟩
        · have d0 : u 37 = .slice (some ⟨g5, 0, none⟩) (ps.length + 1) cap5 := (hdep _ rfl ⟨0, .data⟩ (by simp) rfl).2
          have d1 : u 38 = .int .i64 ps.length := (hdep _ rfl ⟨1, .data⟩ (by simp) rfl).2
          clear hdep
          refine wpOp_step rfl (fun K hK => ?_)
          go_simp
          exact hK _ _ ⟨.pointer (some ⟨g5, ps.length * 2, none⟩), by simp [G.upd, d0, d1], fun _ _ h => h, rfl, HJ.out.other (by decide) (by decide) (by decide) (by decide)⟩
        · have d11 : u 47 = .pointer (some ⟨g5, ps.length * 2, none⟩) := (hdep _ rfl ⟨11, .data⟩ (by simp) rfl).2
          clear hdep
          refine wpOp_step rfl (fun K hK => ?_)
          go_simp
          exact hK _ _ ⟨.pointer (some ⟨g5, ps.length * 2 + 1, none⟩), by simp [G.upd, d11], fun _ _ h => h, rfl, HJ.out.other (by decide) (by decide) (by decide) (by decide)⟩
        · have d12 : u 48 = .pointer (some ⟨g5, ps.length * 2 + 1, none⟩) := (hdep _ rfl ⟨12, .data⟩ (by simp) rfl).2
          have d8 : u 45 = .slice (some ⟨g8, 0, none⟩) (n + 1) cap8 := (hdep _ rfl ⟨8, .data⟩ (by simp) rfl).2
          have l8 := (hdep _ rfl ⟨8, .data⟩ (by simp) rfl).1
          obtain ⟨hp, hj13⟩ := HJ.out.last (W' := W.setCell ⟨g5, ps.length * 2 + 1, none⟩ (.slice (some ⟨g8, 0, none⟩) (n + 1) cap8)) HLI.out l8
          obtain ⟨m0, fz, hpn⟩ := HP13.out _ W hp
          have HJ13 : Hid _ := hj13 hpn
          clear hdep HJ l8 hp hj13 hpn
          refine wpOp_step rfl (fun K hK => ?_)
          go_simp
          exact hK _ _ ⟨.int .i64 0, by simp [G.upd, d12, d8], fun _ _ h => h, trivial, HJ13.out⟩
      case last =>
        intro L u W hLs hD hj hp
        have hpE : P8 true true W := by
          rcases hj with ⟨h8, _⟩ | ⟨_, _, _, h8⟩
          · rw [hD 8 (by omega)] at h8; cases h8
          · rw [hD 10 (by omega), hD 13 (by omega)] at h8; exact h8
        obtain ⟨hG, hH, hBl⟩ := HPE.out W hpE
        rw [← HTK.out, HPLL.out] at hG
        have GN : Hid _ := hG
        have HN : Hid _ := hH
        have BN : Hid _ := hBl
        have PM : Hid ((PS.set ps.length (PS[ps.length].1, .slice (some ⟨g8, 0, none⟩) (n + 1) cap8)).map (·.1) = gkeys (f.take (k + 1))) := by
          rw [Hid, ← HPS.out]
          apply List.ext_getElem
          · simp
          · intro t h1 h2
            simp only [List.getElem_map, List.getElem_set]
            split
            · rename_i e; subst e; rfl
            · rfl
        have hSL : (PS.set ps.length (PS[ps.length].1, .slice (some ⟨g8, 0, none⟩) (n + 1) cap8)).length = (ps.length + 1) := List.length_set.trans HPLL.out
        have HSL : Hid _ := hSL
        clear hp hj hD hpE hG hH hBl hSL HP0 HPB HP10 HP13 HPE HRUN HQC HAE
        go_wp2_with fail
        refine ⟨⟨k + 1, some ⟨g5, 0, none⟩, cap5, PS.set ps.length (PS[ps.length].1, .slice (some ⟨g8, 0, none⟩) (n + 1) cap8), by go_num, by rw [HSL.out], by omega, PM, by rw [HSL.out]; exact GN, HN, BN⟩, by simp [intOf]; omega⟩
end Go.Proofs.YtkjndghkimnjeaaGreat
