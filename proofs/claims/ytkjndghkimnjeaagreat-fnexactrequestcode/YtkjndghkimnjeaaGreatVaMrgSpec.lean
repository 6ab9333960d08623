/- Merging: the specification's way. -/
import Derived.Test.YtkjndghkimnjeaaGreatVaGrp
import Derived.Test.YtkjndghkimnjeaaGreatVaFlat
import Derived.Test.YtkjndghkimnjeaaGreatGRegionSix
namespace Go.Proofs.YtkjndghkimnjeaaGreat
open Go.ChangeShapes Go.WideShapes Go.ChangeAt Go.RowKit Go.Maps
set_option linter.unusedVariables false
/-- Whether all merges is told. -/
def MrgB (l : List De) (s : List (Hd × Sels)) (e : Ending) : Prop := ∃ b, e = .returned (.bool b) ∧ (b = true ↔ MOk l s)
def MrgP (w0 : World) (a : Option Addr) (c : Nat) (l : List De) (n : Nat) : Prop := ∀ (s : List (Hd × Sels)) (a1 : Option Addr) (c1 : Nat) (w : World), KOkL s → AOkL s → Ex l s n → FRow w0 0 w.heap.size w a1 s → LB s → Below w0.heap.size w0 w →
    Calls Tryz.prog 82 #[.agg #[.slice a l.length c], .slice a1 s.length c1] w fun e w' => MrgB l s e ∧ Below w.heap.size w w'
set_option maxHeartbeats 32000000 in
set_option maxRecDepth 40000 in
theorem spec_merge (w0 : World) (a : Option Addr) (c : Nat) (l : List De) (ac : Nat → Option Addr × Nat) (hac : DocAc w0 a l ac) (hdb : DefsBd 1048576 l) (hko : ∀ x ∈ l, KOk x.sels) (hao : ∀ x ∈ l, AOk x.sels) (n : Nat) (hn : n ≤ 400) : MrgP w0 a c l n := by
  induction n using Nat.strongRecOn with
  | _ n ih =>
  intro s a1 c1 w hks has hex hr hlb hb0
  have IH : Hid (∀ n', n' < n → MrgP w0 a c l n') := fun n' h => ih n' h (by omega)
  have HC : Hid (DocAc w0 a l ac) := hac
  have HDB : Hid (DefsBd 1048576 l) := hdb
  have HLB : Hid (LB s) := hlb
  have HKO : Hid (∀ x ∈ l, KOk x.sels) := hko
  have HAO : Hid (∀ x ∈ l, AOk x.sels) := hao
  have HKS : Hid (KOkL s) := hks
  have HAS : Hid (AOkL s) := has
  have HEX : Hid (Ex l s n) := hex
  have hsl : s.length ≤ 1048576 := hlb.1
  have hll : l.length ≤ 1048576 := hdb.1
  obtain ⟨V, hV⟩ : ∃ V, V = w.alloc (.cells #[.slice a l.length c] 33) := ⟨_, rfl⟩
  have bV : Below w.heap.size w V := by rw [hV]; exact (Below.refl _ _).alloc (Nat.le_refl _) _
  have c0 : V.heap[w.heap.size]? = some (.cells #[.slice a l.length c] 33 (0, 0)) := by rw [hV]; exact heap_alloc_new _ _
  have z0 := (Array.getElem?_eq_some_iff.1 c0).1
  have T : Hid (∀ W, Below V.heap.size V W → W.heap[w.heap.size]? = some (.cells #[.slice a l.length c] 33 (0, 0)) ∧ Below w0.heap.size w0 W ∧ Below w.heap.size w W) := fun W hW =>
    have hw := bV.trans (hW.mono bV.size)
    ⟨(hW.block _ z0).trans c0, hb0.trans (hw.mono hb0.size), hw⟩
  have hq := spec_flat w0 a c l ac hac hdb hko n hn s a1 c1 V hks hex (Row.up hr bV) hlb (hb0.trans (bV.mono hb0.size))
  have HQ : Hid _ := hq
  have x0 := fun o => row_cell c0 o
  clear hr ih hac hdb hlb hb0 c0 bV hex hks hko hao has hq
  go_enter Tryz.func82, Tryz.ntmps82
  go_upto_region 1 with fail
  rw [← hV]
  clear hV
  go_wp2_with fail
  refine Calls.mono HQ.out ?_
  rintro e w1 ⟨⟨f, a5, c5, hf, rfl, o5⟩, b1⟩
  have HFL : Hid (Flat l s f) := hf
  have B1 : Hid (Below V.heap.size V w1) := b1
  have hfl : f.length ≤ n := hf.len HEX.out
  obtain ⟨f', mf, hf', hef, hmf⟩ := HEX.out.flat
  obtain rfl : f = f' := hf.det hf'
  have HEF : Hid (ExF l f mf) := hef
  have HR5 : Hid (FRow w0 0 w1.heap.size w1 a5 f) := by
    obtain ⟨a9, c9, e9, _, h9⟩ := o5.row
    simp only [Value.slice.injEq] at e9
    rw [e9.1]; exact h9
  have HLF : Hid (LB f) := LB.flat HDB.out hf (by omega) HLB.out
  have HAF : Hid (AOkL f) := AOkL.flat HAO.out hf HAS.out
  have HKF : Hid (KOkL f) := KOkL.flat HKO.out hf HKS.out
  clear hf o5 b1 hf' hef x0 HQ
  go_wp2_with fail
  go_loopw [6] (fun i w' => ∃ (k : Nat), i = .int .i64 k ∧ k ≤ f.length ∧ Hid (Below w1.heap.size w1 w') ∧ Hid (MrO l f k)) (fun i _ => f.length - (intOf i).toNat)
  case atStart => exact ⟨0, rfl, Nat.zero_le _, Below.refl _ _, MrO.start l f⟩
  case round =>
    obtain ⟨i, rfl, hi, HBW, HMO⟩ := hrel
    obtain ⟨wo, rfl⟩ : ∃ z, z = wr := ⟨_, rfl⟩
    have BV : Hid (Below V.heap.size V wo) := B1.out.trans (HBW.out.mono B1.out.size)
    have TW : Hid _ := T.out _ BV.out
    have HRO : Hid (FRow w0 0 wo.heap.size wo a5 f) := Row.up HR5.out HBW.out
    by_cases hlt : i < f.length
    case neg =>
      have hlt' : ¬ (i : Int) < f.length := by omega
      have HE : Hid (MOk l s) := MrO.done HFL.out (by rw [show f.length = i by omega]; exact HMO.out)
      clear HMO
      go_wp2_with fail
      go_ret
      exact ⟨⟨true, rfl, ⟨fun _ => HE.out, fun _ => rfl⟩⟩, TW.out.2.2⟩
    have hlt' : (i : Int) < f.length := by omega
    obtain ⟨g1, hg1, hg2⟩ := HEF.out.group (List.getElem_mem hlt)
    have HG : Hid (Ex l (tog (ofK (kyL f[i]) f)) g1) := hg1
    have hgl : (tog (ofK (kyL f[i]) f)).length ≤ g1 := hg1.len
    have HTL : Hid (∀ k, (tog (ofK (kyL f[i]) (f.take k))).length ≤ 400) := fun k => by
      have h1 : tog (ofK (kyL f[i]) f) = tog (ofK (kyL f[i]) (f.take k)) ++ tog (ofK (kyL f[i]) (f.drop k)) := by
        unfold tog ofK
        rw [← List.flatMap_append, ← List.filter_append, List.take_append_drop]
      rw [h1, List.length_append] at hgl
      omega
    have HI0 : Hid (MrI f i 0 hlt true) := MrI.start hlt
    obtain ⟨bi, oi, b1i, e1i, b2i, e2i, b3i, e3i, hai, hbli, di0, di1, di2, di3, di4, di5, ri1, qi1, _, _⟩ := FRow.cells HRO.out i hlt
    subst hai
    clear hg1
    go_wp2_with fail
    go_loopw [7, 8, 9] (fun v fs j w' => ∃ (k : Nat) (a2 : Option Addr) (c2 : Nat) (fb : Bool), j = .int .i64 k ∧ fs = .bool fb ∧ v = .slice a2 (tog (ofK (kyL f[i]) (f.take k))).length c2 ∧ k ≤ f.length ∧ Hid (Below wo.heap.size wo w') ∧ Hid (FOwn w0 wo.heap.size 115 w' (.slice a2 (tog (ofK (kyL f[i]) (f.take k))).length c2) (tog (ofK (kyL f[i]) (f.take k)))) ∧ Hid (MrI f i k hlt fb)) (fun _ _ j _ => f.length - (intOf j).toNat)
    case atStart => exact ⟨0, some ⟨wo.heap.size, 0, none⟩, 0, true, rfl, rfl, by simp [ofK, tog], Nat.zero_le _, (Below.refl _ _).alloc (Nat.le_refl _) _, by simpa [Hid, ofK, tog] using FOwn.made w0 wo 115 (Nat.le_refl _), HI0⟩
    case round =>
      obtain ⟨k, a2, c2, fb, rfl, rfl, rfl, hk, HB2, HO2, HI2⟩ := hrel
      obtain ⟨wi, rfl⟩ : ∃ z, z = wr := ⟨_, rfl⟩
      obtain ⟨G, hG⟩ : ∃ G, G = tog (ofK (kyL f[i]) (f.take k)) := ⟨_, rfl⟩
      have hGl : G.length ≤ 400 := by rw [hG]; exact HTL.out k
      have HGE : Hid (G = tog (ofK (kyL f[i]) (f.take k))) := hG
      rw [← hG] at HO2 ⊢
      clear hG
      have BV2 : Hid (Below V.heap.size V wi) := BV.out.trans (HB2.out.mono BV.out.size)
      have T2 : Hid _ := T.out _ BV2.out
      have BW2 : Hid (Below w1.heap.size w1 wi) := HBW.out.trans (HB2.out.mono HBW.out.size)
      by_cases hkl : k < f.length
      case neg =>
        have hkl' : ¬ (k : Int) < f.length := by omega
        have hke : f.take k = f := List.take_of_length_le (by omega)
        have HI3 : Hid (MrI f i f.length hlt fb) := by have h := HI2.out; rwa [show k = f.length by omega] at h
        have HGF : Hid (G = tog (ofK (kyL f[i]) f)) := by have := HGE.out; rwa [hke] at this
        clear hke
        cases fb with
        | false =>
          have HM2 : Hid (MrO l f (i + 1)) := MrO.next HMO.out HI3.out (fun h => by cases h)
          go_wp2_with fail
          go_roundw
          case rel => exact ⟨i + 1, by go_num, by omega, BW2, HM2⟩
          case measure => simp [intOf]; omega
        | true =>
          have x2 := fun o => row_cell T2.out.1 o
          have hq := IH.out g1 (by omega) G a2 c2 wi (by rw [HGF.out]; exact KOkL.tog fun y hy => HKF.out y (List.mem_filter.1 hy).1) (by rw [HGF.out]; exact AOkL.tog (AOkL.ofK HAF.out _)) (by rw [HGF.out]; exact HG.out) (by
            obtain ⟨a9, c9, e9, _, h9⟩ := HO2.out.row
            simp only [Value.slice.injEq] at e9
            rw [e9.1]; exact h9) (by rw [HGF.out]; exact LB.tog HLF.out _ (by omega)) T2.out.2.1
          have HQ : Hid _ := hq
          clear hq
          go_wp2_with fail
          refine Calls.mono HQ.out ?_
          rintro e w8 ⟨⟨bb, rfl, hbb⟩, b8⟩
          have B8 : Hid (Below w1.heap.size w1 w8) := BW2.out.trans (b8.mono BW2.out.size)
          have G8 : Hid (Below w.heap.size w w8) := (T.out _ (B1.out.trans (B8.out.mono B1.out.size))).2.2
          clear b8 x2 HQ
          cases bb with
          | true =>
            have HM2 : Hid (MrO l f (i + 1)) := MrO.next HMO.out HI3.out (fun _ => by rw [← HGF.out]; exact hbb.1 rfl)
            clear hbb
            go_wp2_with fail
            go_roundw
            case rel => exact ⟨i + 1, by go_num, by omega, B8, HM2⟩
            case measure => simp [intOf]; omega
          | false =>
            have HE : Hid (¬ MOk l s) := MOk.no_group HFL.out (List.getElem_mem hlt) (fun h => by
              rw [← HGF.out] at h
              have := hbb.2 h
              cases this)
            clear hbb
            go_wp2_with fail
            go_ret
            exact ⟨⟨false, rfl, ⟨fun h => (by cases h), fun h => absurd h HE.out⟩⟩, G8.out⟩
      have hkl' : (k : Int) < f.length := by omega
      have HRI : Hid (FRow w0 0 wi.heap.size wi (some ⟨bi, oi, none⟩) f) := Row.up HRO.out HB2.out
      obtain ⟨bk, ok, b1k, e1k, b2k, e2k, b3k, e3k, hak, hblk, dk0, dk1, dk2, dk3, dk4, dk5, rk1, qk1, rk2, rk3⟩ := FRow.cells HRI.out k hkl
      simp only [Option.some.injEq, Addr.mk.injEq, and_true] at hak
      obtain ⟨rfl, rfl⟩ := hak
      have hbw : bi < wi.heap.size := hblk
      obtain ⟨x, hx⟩ : ∃ x, x = f[k] := ⟨_, rfl⟩
      obtain ⟨y, hy⟩ : ∃ y, y = f[i] := ⟨_, rfl⟩
      have HX : Hid (x = f[k]) := hx
      have HY : Hid (y = f[i]) := hy
      rw [← hx] at dk0 dk1 dk2 dk3 dk4 dk5 rk1 qk1 rk2 rk3
      have ei0 : Hid (wi.cell? ⟨bi, oi + i * 6, none⟩ = some (.int .i64 y.1.k)) := by rw [Hid, hy]; exact (HB2.out.cell (p := ⟨bi, oi + i * 6, none⟩) hbli).trans di0
      have ei1 : Hid (wi.cell? ⟨bi, oi + i * 6 + 1, none⟩ = some (.string y.1.al)) := by rw [Hid, hy]; exact (HB2.out.cell (p := ⟨bi, oi + i * 6 + 1, none⟩) hbli).trans di1
      have ei2 : Hid (wi.cell? ⟨bi, oi + i * 6 + 2, none⟩ = some (.string y.1.nm)) := by rw [Hid, hy]; exact (HB2.out.cell (p := ⟨bi, oi + i * 6 + 2, none⟩) hbli).trans di2
      have ei3 : Hid (wi.cell? ⟨bi, oi + i * 6 + 3, none⟩ = some (.slice b1i y.1.args.length e1i)) := by rw [Hid, hy]; exact (HB2.out.cell (p := ⟨bi, oi + i * 6 + 3, none⟩) hbli).trans di3
      have ei4 : Hid (wi.cell? ⟨bi, oi + i * 6 + 4, none⟩ = some (.slice b2i y.1.dirs.length e2i)) := by rw [Hid, hy]; exact (HB2.out.cell (p := ⟨bi, oi + i * 6 + 4, none⟩) hbli).trans di4
      have ei5 : Hid (wi.cell? ⟨bi, oi + i * 6 + 5, none⟩ = some (.slice b3i y.2.len e3i)) := by rw [Hid, hy]; exact (HB2.out.cell (p := ⟨bi, oi + i * 6 + 5, none⟩) hbli).trans di5
      have RI1 : Hid (ArRow 0 w0.heap.size w0 b1i y.1.args) := by rw [Hid, hy]; exact ri1
      have ek0 : Hid _ := dk0
      have ek1 : Hid _ := dk1
      have ek2 : Hid _ := dk2
      have ek3 : Hid _ := dk3
      have ek4 : Hid _ := dk4
      have ek5 : Hid _ := dk5
      have RK1 : Hid (ArRow 0 w0.heap.size w0 b1k x.1.args) := rk1
      have RK3 : Hid (SelRow 0 w0.heap.size w0 b3k x.2) := rk3
      clear hx hy dk0 dk1 dk2 dk3 dk4 dk5 rk1 qk1 rk2 rk3
      go_upto_region 10 with fail
      go_cut [36] from 20 to 74 (fun u wx => u = .bool (!((kyB x.1).toList == (kyB y.1).toList)) ∧ Hid (Below wi.heap.size wi wx))
      case first =>
        refine Go.Proofs.YtkjndghkimnjeaaGreat.G.region_rel6 (n := 11) (by kernel_rfl) (by kernel_rfl) (by rfl) (fun u => ⟨#[.agg #[.slice a l.length c], .slice a1 s.length c1, .pointer (some ⟨w.heap.size, 0, none⟩), undef, u4, .slice (some ⟨bi, oi, none⟩) f.length c5, .int .i64 i, .slice a2 G.length c2, .bool fb, .int .i64 k, .agg #[.slice a l.length c], .slice a1 s.length c1, .slice (some ⟨bi, oi, none⟩) f.length c5, .int .i64 i, .slice (some ⟨bi, oi, none⟩) f.length c5, .int .i64 f.length, .bool true, u17, u18, .slice (some ⟨wo.heap.size, 0, none⟩) 0 0, .int .i64 k, .slice (some ⟨bi, oi, none⟩) f.length c5, .int .i64 f.length, .bool true, u24, u25, u 26, u 27, u 28, u 29, u 30, u 31, u 32, u 33, u 34, u 35, u 36, u37, u38, u39, u40, u41, u42, u43, u44, u45, u46, u47, u48, u49, u50, u51, u52, u53, u54, u55, u56, u57, u58, u59, u60, u61, u62, u63, u64, u65, u66, u67, u68, u69, u70, u71, u72, u73, u74, u75, u76, u77, u78, u79, u80, u81], []⟩) (fun nz => match nz with | 26 => u26 | 27 => u27 | 28 => u28 | 29 => u29 | 30 => u30 | 31 => u31 | 32 => u32 | 33 => u33 | 34 => u34 | 35 => u35 | 36 => u36 | _ => undef) (fun iz => [26, 27, 28, 29, 30, 31, 32, 33, 34, 35, 36].getD iz 0) (fun iz jz hi hj h => (by decide : ∀ i, i < 11 → ∀ j, j < 11 → [26, 27, 28, 29, 30, 31, 32, 33, 34, 35, 36].getD i 0 = [26, 27, 28, 29, 30, 31, 32, 33, 34, 35, 36].getD j 0 → i = j) iz hi jz hj h)
          (fun iz v _ => match iz with | 0 => v = .slice (some ⟨bi, oi, none⟩) f.length c5 | 1 => v = .int .i64 (k : Int) | 2 => v = .pointer (some ⟨bi, oi + k * 6, none⟩) | 3 => v = .agg #[.int .i64 x.1.k, .string x.1.al, .string x.1.nm, .slice b1k x.1.args.length e1k, .slice b2k x.1.dirs.length e2k, .slice b3k x.2.len e3k] | 4 => v = .string (kyB x.1) | 5 => v = .slice (some ⟨bi, oi, none⟩) f.length c5 | 6 => v = .int .i64 (i : Int) | 7 => v = .pointer (some ⟨bi, oi + i * 6, none⟩) | 8 => v = .agg #[.int .i64 y.1.k, .string y.1.al, .string y.1.nm, .slice b1i y.1.args.length e1i, .slice b2i y.1.dirs.length e2i, .slice b3i y.2.len e3i] | 9 => v = .string (kyB y.1) | 10 => v = .bool (!((kyB x.1).toList == (kyB y.1).toList)) | _ => True) (fun _ _ W => Below wi.heap.size wi W) (Below.refl _ _).drew ?step ?last
        case step =>
          intro D u W iq hi hLs hLi hbW hdep
          have HBJ : Hid (Below wi.heap.size wi W) := hbW
          have yk0 := (hbW.cell (p := ⟨bi, oi + k * 6, none⟩) hbw).trans ek0.out
          have yk1 := (hbW.cell (p := ⟨bi, oi + k * 6 + 1, none⟩) hbw).trans ek1.out
          have yk2 := (hbW.cell (p := ⟨bi, oi + k * 6 + 2, none⟩) hbw).trans ek2.out
          have yk3 := (hbW.cell (p := ⟨bi, oi + k * 6 + 3, none⟩) hbw).trans ek3.out
          have yk4 := (hbW.cell (p := ⟨bi, oi + k * 6 + 4, none⟩) hbw).trans ek4.out
          have yk5 := (hbW.cell (p := ⟨bi, oi + k * 6 + 5, none⟩) hbw).trans ek5.out
          have yi0 := (hbW.cell (p := ⟨bi, oi + i * 6, none⟩) hbw).trans ei0.out
          have yi1 := (hbW.cell (p := ⟨bi, oi + i * 6 + 1, none⟩) hbw).trans ei1.out
          have yi2 := (hbW.cell (p := ⟨bi, oi + i * 6 + 2, none⟩) hbw).trans ei2.out
          have yi3 := (hbW.cell (p := ⟨bi, oi + i * 6 + 3, none⟩) hbw).trans ei3.out
          have yi4 := (hbW.cell (p := ⟨bi, oi + i * 6 + 4, none⟩) hbw).trans ei4.out
          have yi5 := (hbW.cell (p := ⟨bi, oi + i * 6 + 5, none⟩) hbw).trans ei5.out
          have hcase : iq = 0 ∨ iq = 1 ∨ iq = 2 ∨ iq = 3 ∨ iq = 4 ∨ iq = 5 ∨ iq = 6 ∨ iq = 7 ∨ iq = 8 ∨ iq = 9 ∨ iq = 10 := by omega
          clear hbW hLi hi
          rcases hcase with rfl | rfl | rfl | rfl | rfl | rfl | rfl | rfl | rfl | rfl | rfl
          · refine wpOp_step rfl (fun K hK => ?_)
            clear hdep
            go_simp
            exact hK _ _ ⟨.slice (some ⟨bi, oi, none⟩) f.length c5, by simp [Go.Proofs.YtkjndghkimnjeaaGreat.G.upd], fun _ _ h => h, rfl, HBJ.out⟩
          · refine wpOp_step rfl (fun K hK => ?_)
            clear hdep
            go_simp
            exact hK _ _ ⟨.int .i64 (k : Int), by simp [Go.Proofs.YtkjndghkimnjeaaGreat.G.upd], fun _ _ h => h, rfl, HBJ.out⟩
          · have d0 : u 26 = .slice (some ⟨bi, oi, none⟩) f.length c5 := (hdep _ rfl ⟨0, .data⟩ (by simp) rfl).2
            have d1 : u 27 = .int .i64 (k : Int) := (hdep _ rfl ⟨1, .data⟩ (by simp) rfl).2
            refine wpOp_step rfl (fun K hK => ?_)
            clear hdep
            go_simp
            exact hK _ _ ⟨.pointer (some ⟨bi, oi + k * 6, none⟩), by simp [Go.Proofs.YtkjndghkimnjeaaGreat.G.upd, d0, d1], fun _ _ h => h, rfl, HBJ.out⟩
          · have d2 : u 28 = .pointer (some ⟨bi, oi + k * 6, none⟩) := (hdep _ rfl ⟨2, .data⟩ (by simp) rfl).2
            refine wpOp_step rfl (fun K hK => ?_)
            clear hdep
            go_simp
            exact hK _ _ ⟨.agg #[.int .i64 x.1.k, .string x.1.al, .string x.1.nm, .slice b1k x.1.args.length e1k, .slice b2k x.1.dirs.length e2k, .slice b3k x.2.len e3k], by simp [Go.Proofs.YtkjndghkimnjeaaGreat.G.upd, d2], fun _ _ h => h, rfl, HBJ.out⟩
          · have d3 : u 29 = .agg #[.int .i64 x.1.k, .string x.1.al, .string x.1.nm, .slice b1k x.1.args.length e1k, .slice b2k x.1.dirs.length e2k, .slice b3k x.2.len e3k] := (hdep _ rfl ⟨3, .data⟩ (by simp) rfl).2
            have HQ : Hid _ := spec_key x b1k b2k b3k e1k e2k e3k W
            refine wpOp_step rfl (fun K hK => ?_)
            clear hdep
            go_simp
            refine Calls.mono HQ.out ?_
            rintro e w8 ⟨rfl, hb8⟩
            exact hK _ _ ⟨.string (kyB x.1), by simp [Go.Proofs.YtkjndghkimnjeaaGreat.G.upd, d3], fun _ _ h => h, rfl, HBJ.out.trans (hb8.mono HBJ.out.size)⟩
          · refine wpOp_step rfl (fun K hK => ?_)
            clear hdep
            go_simp
            exact hK _ _ ⟨.slice (some ⟨bi, oi, none⟩) f.length c5, by simp [Go.Proofs.YtkjndghkimnjeaaGreat.G.upd], fun _ _ h => h, rfl, HBJ.out⟩
          · refine wpOp_step rfl (fun K hK => ?_)
            clear hdep
            go_simp
            exact hK _ _ ⟨.int .i64 (i : Int), by simp [Go.Proofs.YtkjndghkimnjeaaGreat.G.upd], fun _ _ h => h, rfl, HBJ.out⟩
          · have d5 : u 31 = .slice (some ⟨bi, oi, none⟩) f.length c5 := (hdep _ rfl ⟨5, .data⟩ (by simp) rfl).2
            have d6 : u 32 = .int .i64 (i : Int) := (hdep _ rfl ⟨6, .data⟩ (by simp) rfl).2
            refine wpOp_step rfl (fun K hK => ?_)
            clear hdep
            go_simp
            exact hK _ _ ⟨.pointer (some ⟨bi, oi + i * 6, none⟩), by simp [Go.Proofs.YtkjndghkimnjeaaGreat.G.upd, d5, d6], fun _ _ h => h, rfl, HBJ.out⟩
          · have d7 : u 33 = .pointer (some ⟨bi, oi + i * 6, none⟩) := (hdep _ rfl ⟨7, .data⟩ (by simp) rfl).2
            refine wpOp_step rfl (fun K hK => ?_)
            clear hdep
            go_simp
            exact hK _ _ ⟨.agg #[.int .i64 y.1.k, .string y.1.al, .string y.1.nm, .slice b1i y.1.args.length e1i, .slice b2i y.1.dirs.length e2i, .slice b3i y.2.len e3i], by simp [Go.Proofs.YtkjndghkimnjeaaGreat.G.upd, d7], fun _ _ h => h, rfl, HBJ.out⟩
          · have d8 : u 34 = .agg #[.int .i64 y.1.k, .string y.1.al, .string y.1.nm, .slice b1i y.1.args.length e1i, .slice b2i y.1.dirs.length e2i, .slice b3i y.2.len e3i] := (hdep _ rfl ⟨8, .data⟩ (by simp) rfl).2
            have HQ : Hid _ := spec_key y b1i b2i b3i e1i e2i e3i W
            refine wpOp_step rfl (fun K hK => ?_)
            clear hdep
            go_simp
            refine Calls.mono HQ.out ?_
            rintro e w8 ⟨rfl, hb8⟩
            exact hK _ _ ⟨.string (kyB y.1), by simp [Go.Proofs.YtkjndghkimnjeaaGreat.G.upd, d8], fun _ _ h => h, rfl, HBJ.out.trans (hb8.mono HBJ.out.size)⟩
          · have d4 : u 30 = .string (kyB x.1) := (hdep _ rfl ⟨4, .data⟩ (by simp) rfl).2
            have d9 : u 35 = .string (kyB y.1) := (hdep _ rfl ⟨9, .data⟩ (by simp) rfl).2
            refine wpOp_step rfl (fun K hK => ?_)
            clear hdep
            go_simp
            exact hK _ _ ⟨.bool (!((kyB x.1).toList == (kyB y.1).toList)), by simp [Go.Proofs.YtkjndghkimnjeaaGreat.G.upd, d4, d9], fun _ _ h => h, rfl, HBJ.out⟩
        case last =>
          intro D u W hLs hD hbW hp
          have HBL : Hid (Below wi.heap.size wi W) := hbW
          have d10 : u 36 = .bool (!((kyB x.1).toList == (kyB y.1).toList)) := hp 10 (by omega)
          clear hp hbW
          go_wp2_with fail
          go_meet
          exact ⟨by first | rfl | exact d10, HBL⟩
      obtain ⟨rfl, HBX⟩ := hcut
      obtain ⟨wz, rfl⟩ : ∃ z, z = wc := ⟨_, rfl⟩
      have B3 : Hid (Below wo.heap.size wo wz) := HB2.out.trans (HBX.out.mono HB2.out.size)
      have O3 : Hid (FOwn w0 wo.heap.size 115 wz (.slice a2 G.length c2) G) := HO2.out.up HBX.out
      cases hkb : (!((kyB x.1).toList == (kyB y.1).toList)) with
      | true =>
        have hne : kyL f[k] ≠ kyL f[i] := by
          rw [← HX.out, ← HY.out]
          unfold kyL
          simpa [bne] using hkb
        have HI3 : Hid (MrI f i (k + 1) hlt fb) := HI2.out.skip hkl hne
        have HG2 : Hid (G = tog (ofK (kyL f[i]) (f.take (k + 1)))) := by rw [Hid, HGE.out, ofK_take_no hkl hne]
        clear hne
        go_wp2_with fail
        go_roundw
        case rel =>
          rw [HG2.out] at O3 ⊢
          exact ⟨k + 1, a2, c2, fb, by go_num, rfl, rfl, by omega, B3, O3, HI3⟩
        case measure => simp [intOf]; omega
      | false =>
      have HKE : Hid (kyL f[k] = kyL f[i]) := by
        rw [Hid, ← HX.out, ← HY.out]
        unfold kyL
        simpa [bne] using hkb
      have BV3 : Hid (Below V.heap.size V wz) := BV2.out.trans (HBX.out.mono BV2.out.size)
      have G3 : Hid (Below w.heap.size w wz) := (T.out _ BV3.out).2.2
      have W03 : Hid (Below w0.heap.size w0 wz) := (T.out _ BV3.out).2.1
      go_upto_region 11 with fail
      go_cut [8] from 20 to 74 (fun v wx => v = .bool (fb && decide (i ≤ k)) ∧ wx = wz)
      case first =>
        cases fb with
        | true =>
          by_cases hik : i ≤ k
          · have hik' : (i : Int) ≤ k := by omega
            go_wp2_with fail
            go_meet
            exact ⟨by simp [hik], rfl⟩
          · have hik' : ¬ (i : Int) ≤ k := by omega
            go_wp2_with fail
            go_meet
            exact ⟨by simp [hik], rfl⟩
        | false =>
          go_wp2_with fail
          go_meet
          exact ⟨rfl, rfl⟩
      obtain ⟨rfl, hwc⟩ := hcut
      have hwc' := hwc.symm
      clear hwc
      subst hwc'
      have hbz3 : bi < wz.heap.size := by have := HBX.out.size; omega
      go_upto_region 12 with fail
      go_cut [67] from 20 to 74 (fun u wx => u = .bool (!sameB x.1 y.1) ∧ Hid (Below wz.heap.size wz wx))
      case first =>
        cases hnb : (x.1.nm.toList != y.1.nm.toList) with
        | true =>
          have hnq : (x.1.nm.toList == y.1.nm.toList) = false := by simpa [bne] using hnb
          have HSB : Hid (sameB x.1 y.1 = false) := by
            unfold Hid sameB
            rw [show (x.1.nm.toList == y.1.nm.toList) = false by simpa [bne] using hnb]; rfl
          refine Go.Proofs.YtkjndghkimnjeaaGreat.G.region_rel6 (n := 25) (by kernel_rfl) (by kernel_rfl) (by rfl) (fun u => ⟨#[.agg #[.slice a l.length c], .slice a1 s.length c1, .pointer (some ⟨w.heap.size, 0, none⟩), undef, u4, .slice (some ⟨bi, oi, none⟩) f.length c5, .int .i64 i, .slice a2 G.length c2, .bool (fb && decide (i ≤ k)), .int .i64 k, .agg #[.slice a l.length c], .slice a1 s.length c1, .slice (some ⟨bi, oi, none⟩) f.length c5, .int .i64 i, .slice (some ⟨bi, oi, none⟩) f.length c5, .int .i64 f.length, .bool true, u17, u18, .slice (some ⟨wo.heap.size, 0, none⟩) 0 0, u20, u21, u22, u23, u24, u25, u26, u27, u28, u29, u30, u31, u32, u33, u34, u35, u36, u37, u38, u39, u40, u41, u42, u 43, u 44, u 45, u 46, u 47, u 48, u 49, u 50, u 51, u 52, u 53, u 54, u 55, u 56, u 57, u 58, u 59, u 60, u 61, u 62, u 63, u 64, u 65, u 66, u 67, u68, u69, u70, u71, u72, u73, u74, u75, u76, u77, u78, u79, u80, u81], []⟩) (fun nz => match nz with | 43 => u43 | 44 => u44 | 45 => u45 | 46 => u46 | 47 => u47 | 48 => u48 | 49 => u49 | 50 => u50 | 51 => u51 | 52 => u52 | 53 => u53 | 54 => u54 | 55 => u55 | 56 => u56 | 57 => u57 | 58 => u58 | 59 => u59 | 60 => u60 | 61 => u61 | 62 => u62 | 63 => u63 | 64 => u64 | 65 => u65 | 66 => u66 | 67 => u67 | _ => undef) (fun iz => [43, 44, 45, 46, 47, 48, 49, 50, 51, 52, 53, 54, 55, 56, 57, 58, 59, 60, 61, 62, 63, 64, 65, 66, 67].getD iz 0) (fun iz jz hi hj h => (by decide : ∀ i, i < 25 → ∀ j, j < 25 → [43, 44, 45, 46, 47, 48, 49, 50, 51, 52, 53, 54, 55, 56, 57, 58, 59, 60, 61, 62, 63, 64, 65, 66, 67].getD i 0 = [43, 44, 45, 46, 47, 48, 49, 50, 51, 52, 53, 54, 55, 56, 57, 58, 59, 60, 61, 62, 63, 64, 65, 66, 67].getD j 0 → i = j) iz hi jz hj h)
            (fun iz v _ => match iz with | 0 => v = .slice (some ⟨bi, oi, none⟩) f.length c5 | 1 => v = .int .i64 (k : Int) | 2 => v = .pointer (some ⟨bi, oi + k * 6, none⟩) | 3 => v = .pointer (some ⟨bi, oi + k * 6 + 2, none⟩) | 4 => v = .string x.1.nm | 5 => v = .slice (some ⟨bi, oi, none⟩) f.length c5 | 6 => v = .int .i64 (i : Int) | 7 => v = .pointer (some ⟨bi, oi + i * 6, none⟩) | 8 => v = .pointer (some ⟨bi, oi + i * 6 + 2, none⟩) | 9 => v = .string y.1.nm | 10 => v = .bool true | 11 => v = .bool true | 12 => v = undef | 13 => v = undef | 14 => v = undef | 15 => v = undef | 16 => v = undef | 17 => v = undef | 18 => v = undef | 19 => v = undef | 20 => v = undef | 21 => v = undef | 22 => v = undef | 23 => v = undef | 24 => v = .bool true | _ => True) (fun _ _ W => Below wz.heap.size wz W) (Below.refl _ _).drew ?step ?last
          case step =>
            intro D u W iq hi hLs hLi hbW hdep
            have HBJ : Hid (Below wz.heap.size wz W) := hbW
            have yk2 := (hbW.cell (p := ⟨bi, oi + k * 6 + 2, none⟩) hbz3).trans ((HBX.out.cell (p := ⟨bi, oi + k * 6 + 2, none⟩) hbw).trans ek2.out)
            have yk3 := (hbW.cell (p := ⟨bi, oi + k * 6 + 3, none⟩) hbz3).trans ((HBX.out.cell (p := ⟨bi, oi + k * 6 + 3, none⟩) hbw).trans ek3.out)
            have yi2 := (hbW.cell (p := ⟨bi, oi + i * 6 + 2, none⟩) hbz3).trans ((HBX.out.cell (p := ⟨bi, oi + i * 6 + 2, none⟩) hbw).trans ei2.out)
            have yi3 := (hbW.cell (p := ⟨bi, oi + i * 6 + 3, none⟩) hbz3).trans ((HBX.out.cell (p := ⟨bi, oi + i * 6 + 3, none⟩) hbw).trans ei3.out)
            have hcase : iq = 0 ∨ iq = 1 ∨ iq = 2 ∨ iq = 3 ∨ iq = 4 ∨ iq = 5 ∨ iq = 6 ∨ iq = 7 ∨ iq = 8 ∨ iq = 9 ∨ iq = 10 ∨ iq = 11 ∨ iq = 12 ∨ iq = 13 ∨ iq = 14 ∨ iq = 15 ∨ iq = 16 ∨ iq = 17 ∨ iq = 18 ∨ iq = 19 ∨ iq = 20 ∨ iq = 21 ∨ iq = 22 ∨ iq = 23 ∨ iq = 24 := by omega
            clear hbW hLi hi
            rcases hcase with rfl | rfl | rfl | rfl | rfl | rfl | rfl | rfl | rfl | rfl | rfl | rfl | rfl | rfl | rfl | rfl | rfl | rfl | rfl | rfl | rfl | rfl | rfl | rfl | rfl
            · refine wpOp_step rfl (fun K hK => ?_)
              clear hdep
              go_simp
              exact hK _ _ ⟨.slice (some ⟨bi, oi, none⟩) f.length c5, by simp [Go.Proofs.YtkjndghkimnjeaaGreat.G.upd], fun _ _ h => h, rfl, HBJ.out⟩
            · refine wpOp_step rfl (fun K hK => ?_)
              clear hdep
              go_simp
              exact hK _ _ ⟨.int .i64 (k : Int), by simp [Go.Proofs.YtkjndghkimnjeaaGreat.G.upd], fun _ _ h => h, rfl, HBJ.out⟩
            · have d0 : u 43 = .slice (some ⟨bi, oi, none⟩) f.length c5 := (hdep _ rfl ⟨0, .data⟩ (by simp) rfl).2
              have d1 : u 44 = .int .i64 (k : Int) := (hdep _ rfl ⟨1, .data⟩ (by simp) rfl).2
              refine wpOp_step rfl (fun K hK => ?_)
              clear hdep
              go_simp
              exact hK _ _ ⟨.pointer (some ⟨bi, oi + k * 6, none⟩), by simp [Go.Proofs.YtkjndghkimnjeaaGreat.G.upd, d0, d1], fun _ _ h => h, rfl, HBJ.out⟩
            · have d2 : u 45 = .pointer (some ⟨bi, oi + k * 6, none⟩) := (hdep _ rfl ⟨2, .data⟩ (by simp) rfl).2
              refine wpOp_step rfl (fun K hK => ?_)
              clear hdep
              go_simp
              exact hK _ _ ⟨.pointer (some ⟨bi, oi + k * 6 + 2, none⟩), by simp [Go.Proofs.YtkjndghkimnjeaaGreat.G.upd, d2], fun _ _ h => h, rfl, HBJ.out⟩
            · have d3 : u 46 = .pointer (some ⟨bi, oi + k * 6 + 2, none⟩) := (hdep _ rfl ⟨3, .data⟩ (by simp) rfl).2
              refine wpOp_step rfl (fun K hK => ?_)
              clear hdep
              go_simp
              exact hK _ _ ⟨.string x.1.nm, by simp [Go.Proofs.YtkjndghkimnjeaaGreat.G.upd, d3], fun _ _ h => h, rfl, HBJ.out⟩
            · refine wpOp_step rfl (fun K hK => ?_)
              clear hdep
              go_simp
              exact hK _ _ ⟨.slice (some ⟨bi, oi, none⟩) f.length c5, by simp [Go.Proofs.YtkjndghkimnjeaaGreat.G.upd], fun _ _ h => h, rfl, HBJ.out⟩
            · refine wpOp_step rfl (fun K hK => ?_)
              clear hdep
              go_simp
              exact hK _ _ ⟨.int .i64 (i : Int), by simp [Go.Proofs.YtkjndghkimnjeaaGreat.G.upd], fun _ _ h => h, rfl, HBJ.out⟩
            · have d5 : u 48 = .slice (some ⟨bi, oi, none⟩) f.length c5 := (hdep _ rfl ⟨5, .data⟩ (by simp) rfl).2
              have d6 : u 49 = .int .i64 (i : Int) := (hdep _ rfl ⟨6, .data⟩ (by simp) rfl).2
              refine wpOp_step rfl (fun K hK => ?_)
              clear hdep
              go_simp
              exact hK _ _ ⟨.pointer (some ⟨bi, oi + i * 6, none⟩), by simp [Go.Proofs.YtkjndghkimnjeaaGreat.G.upd, d5, d6], fun _ _ h => h, rfl, HBJ.out⟩
            · have d7 : u 50 = .pointer (some ⟨bi, oi + i * 6, none⟩) := (hdep _ rfl ⟨7, .data⟩ (by simp) rfl).2
              refine wpOp_step rfl (fun K hK => ?_)
              clear hdep
              go_simp
              exact hK _ _ ⟨.pointer (some ⟨bi, oi + i * 6 + 2, none⟩), by simp [Go.Proofs.YtkjndghkimnjeaaGreat.G.upd, d7], fun _ _ h => h, rfl, HBJ.out⟩
            · have d8 : u 51 = .pointer (some ⟨bi, oi + i * 6 + 2, none⟩) := (hdep _ rfl ⟨8, .data⟩ (by simp) rfl).2
              refine wpOp_step rfl (fun K hK => ?_)
              clear hdep
              go_simp
              exact hK _ _ ⟨.string y.1.nm, by simp [Go.Proofs.YtkjndghkimnjeaaGreat.G.upd, d8], fun _ _ h => h, rfl, HBJ.out⟩
            · have d4 : u 47 = .string x.1.nm := (hdep _ rfl ⟨4, .data⟩ (by simp) rfl).2
              have d9 : u 52 = .string y.1.nm := (hdep _ rfl ⟨9, .data⟩ (by simp) rfl).2
              refine wpOp_step rfl (fun K hK => ?_)
              clear hdep
              go_simp
              exact hK _ _ ⟨.bool true, by simp [Go.Proofs.YtkjndghkimnjeaaGreat.G.upd, d4, d9], fun _ _ h => h, rfl, HBJ.out⟩
            · have d10 : u 53 = .bool true := (hdep _ rfl ⟨10, .data⟩ (by simp) rfl).2
              refine wpOp_step rfl (fun K hK => ?_)
              clear hdep
              go_simp
              exact hK _ _ ⟨.bool true, by simp [Go.Proofs.YtkjndghkimnjeaaGreat.G.upd, d10], fun _ _ h => h, rfl, HBJ.out⟩
            · have d11 : u 54 = .bool true := (hdep _ rfl ⟨11, .guard⟩ (by simp) rfl).2
              refine wpOp_step rfl (fun K hK => ?_)
              clear hdep
              go_simp
              exact hK _ _ ⟨undef, by simp [Go.Proofs.YtkjndghkimnjeaaGreat.G.upd, d11], fun _ _ h => h, rfl, HBJ.out⟩
            · have d11 : u 54 = .bool true := (hdep _ rfl ⟨11, .guard⟩ (by simp) rfl).2
              refine wpOp_step rfl (fun K hK => ?_)
              clear hdep
              go_simp
              exact hK _ _ ⟨undef, by simp [Go.Proofs.YtkjndghkimnjeaaGreat.G.upd, d11], fun _ _ h => h, rfl, HBJ.out⟩
            · have d11 : u 54 = .bool true := (hdep _ rfl ⟨11, .guard⟩ (by simp) rfl).2
              refine wpOp_step rfl (fun K hK => ?_)
              clear hdep
              go_simp
              exact hK _ _ ⟨undef, by simp [Go.Proofs.YtkjndghkimnjeaaGreat.G.upd, d11], fun _ _ h => h, rfl, HBJ.out⟩
            · have d11 : u 54 = .bool true := (hdep _ rfl ⟨11, .guard⟩ (by simp) rfl).2
              refine wpOp_step rfl (fun K hK => ?_)
              clear hdep
              go_simp
              exact hK _ _ ⟨undef, by simp [Go.Proofs.YtkjndghkimnjeaaGreat.G.upd, d11], fun _ _ h => h, rfl, HBJ.out⟩
            · have d11 : u 54 = .bool true := (hdep _ rfl ⟨11, .guard⟩ (by simp) rfl).2
              refine wpOp_step rfl (fun K hK => ?_)
              clear hdep
              go_simp
              exact hK _ _ ⟨undef, by simp [Go.Proofs.YtkjndghkimnjeaaGreat.G.upd, d11], fun _ _ h => h, rfl, HBJ.out⟩
            · have d11 : u 54 = .bool true := (hdep _ rfl ⟨11, .guard⟩ (by simp) rfl).2
              refine wpOp_step rfl (fun K hK => ?_)
              clear hdep
              go_simp
              exact hK _ _ ⟨undef, by simp [Go.Proofs.YtkjndghkimnjeaaGreat.G.upd, d11], fun _ _ h => h, rfl, HBJ.out⟩
            · have d11 : u 54 = .bool true := (hdep _ rfl ⟨11, .guard⟩ (by simp) rfl).2
              refine wpOp_step rfl (fun K hK => ?_)
              clear hdep
              go_simp
              exact hK _ _ ⟨undef, by simp [Go.Proofs.YtkjndghkimnjeaaGreat.G.upd, d11], fun _ _ h => h, rfl, HBJ.out⟩
            · have d11 : u 54 = .bool true := (hdep _ rfl ⟨11, .guard⟩ (by simp) rfl).2
              refine wpOp_step rfl (fun K hK => ?_)
              clear hdep
              go_simp
              exact hK _ _ ⟨undef, by simp [Go.Proofs.YtkjndghkimnjeaaGreat.G.upd, d11], fun _ _ h => h, rfl, HBJ.out⟩
            · have d11 : u 54 = .bool true := (hdep _ rfl ⟨11, .guard⟩ (by simp) rfl).2
              refine wpOp_step rfl (fun K hK => ?_)
              clear hdep
              go_simp
              exact hK _ _ ⟨undef, by simp [Go.Proofs.YtkjndghkimnjeaaGreat.G.upd, d11], fun _ _ h => h, rfl, HBJ.out⟩
            · have d11 : u 54 = .bool true := (hdep _ rfl ⟨11, .guard⟩ (by simp) rfl).2
              refine wpOp_step rfl (fun K hK => ?_)
              clear hdep
              go_simp
              exact hK _ _ ⟨undef, by simp [Go.Proofs.YtkjndghkimnjeaaGreat.G.upd, d11], fun _ _ h => h, rfl, HBJ.out⟩
            · have d11 : u 54 = .bool true := (hdep _ rfl ⟨11, .guard⟩ (by simp) rfl).2
              refine wpOp_step rfl (fun K hK => ?_)
              clear hdep
              go_simp
              exact hK _ _ ⟨undef, by simp [Go.Proofs.YtkjndghkimnjeaaGreat.G.upd, d11], fun _ _ h => h, rfl, HBJ.out⟩
            · have d11 : u 54 = .bool true := (hdep _ rfl ⟨11, .guard⟩ (by simp) rfl).2
              refine wpOp_step rfl (fun K hK => ?_)
              clear hdep
              go_simp
              exact hK _ _ ⟨undef, by simp [Go.Proofs.YtkjndghkimnjeaaGreat.G.upd, d11], fun _ _ h => h, rfl, HBJ.out⟩
            · have d11 : u 54 = .bool true := (hdep _ rfl ⟨11, .data⟩ (by simp) rfl).2
              refine wpOp_step rfl (fun K hK => ?_)
              clear hdep
              go_simp
              exact hK _ _ ⟨.bool true, by simp [Go.Proofs.YtkjndghkimnjeaaGreat.G.upd, d11], fun _ _ h => h, rfl, HBJ.out⟩
          case last =>
            intro D u W hLs hD hbW hp
            have HBL : Hid (Below wz.heap.size wz W) := hbW
            have d24 : u 67 = .bool true := hp 24 (by omega)
            clear hp hbW
            go_wp2_with fail
            go_meet
            exact ⟨by rw [HSB.out]; first | rfl | exact d24, HBL⟩
        | false =>
          have hnq : (x.1.nm.toList == y.1.nm.toList) = true := by simpa [bne] using hnb
          have HSB : Hid (sameB x.1 y.1 = sameAB x.1.args y.1.args) := by
            unfold Hid sameB
            rw [show (x.1.nm.toList == y.1.nm.toList) = true by simpa [bne] using hnb]; rfl
          have hax : x.1.args.length ≤ 1048576 := by rw [HX.out]; exact (HLF.out.2 _ (List.getElem_mem hkl)).1.2.2.1
          have hay : y.1.args.length ≤ 1048576 := by rw [HY.out]; exact (HLF.out.2 _ (List.getElem_mem hlt)).1.2.2.1
          have HSA : Hid (∀ W, Below wz.heap.size wz W → Calls Tryz.prog 111 #[.slice b1k x.1.args.length e1k, .slice b1i y.1.args.length e1i] W fun e w' => e = .returned (.bool (sameAB x.1.args y.1.args)) ∧ Below W.heap.size W w') := fun W hW =>
            have hw := W03.out.trans (hW.mono W03.out.size)
            spec_same x.1.args y.1.args b1k b1i e1k e1i W (Row.up RK1.out hw) (Row.up RI1.out hw) hax hay
          clear hax hay
          refine Go.Proofs.YtkjndghkimnjeaaGreat.G.region_rel6 (n := 25) (by kernel_rfl) (by kernel_rfl) (by rfl) (fun u => ⟨#[.agg #[.slice a l.length c], .slice a1 s.length c1, .pointer (some ⟨w.heap.size, 0, none⟩), undef, u4, .slice (some ⟨bi, oi, none⟩) f.length c5, .int .i64 i, .slice a2 G.length c2, .bool (fb && decide (i ≤ k)), .int .i64 k, .agg #[.slice a l.length c], .slice a1 s.length c1, .slice (some ⟨bi, oi, none⟩) f.length c5, .int .i64 i, .slice (some ⟨bi, oi, none⟩) f.length c5, .int .i64 f.length, .bool true, u17, u18, .slice (some ⟨wo.heap.size, 0, none⟩) 0 0, u20, u21, u22, u23, u24, u25, u26, u27, u28, u29, u30, u31, u32, u33, u34, u35, u36, u37, u38, u39, u40, u41, u42, u 43, u 44, u 45, u 46, u 47, u 48, u 49, u 50, u 51, u 52, u 53, u 54, u 55, u 56, u 57, u 58, u 59, u 60, u 61, u 62, u 63, u 64, u 65, u 66, u 67, u68, u69, u70, u71, u72, u73, u74, u75, u76, u77, u78, u79, u80, u81], []⟩) (fun nz => match nz with | 43 => u43 | 44 => u44 | 45 => u45 | 46 => u46 | 47 => u47 | 48 => u48 | 49 => u49 | 50 => u50 | 51 => u51 | 52 => u52 | 53 => u53 | 54 => u54 | 55 => u55 | 56 => u56 | 57 => u57 | 58 => u58 | 59 => u59 | 60 => u60 | 61 => u61 | 62 => u62 | 63 => u63 | 64 => u64 | 65 => u65 | 66 => u66 | 67 => u67 | _ => undef) (fun iz => [43, 44, 45, 46, 47, 48, 49, 50, 51, 52, 53, 54, 55, 56, 57, 58, 59, 60, 61, 62, 63, 64, 65, 66, 67].getD iz 0) (fun iz jz hi hj h => (by decide : ∀ i, i < 25 → ∀ j, j < 25 → [43, 44, 45, 46, 47, 48, 49, 50, 51, 52, 53, 54, 55, 56, 57, 58, 59, 60, 61, 62, 63, 64, 65, 66, 67].getD i 0 = [43, 44, 45, 46, 47, 48, 49, 50, 51, 52, 53, 54, 55, 56, 57, 58, 59, 60, 61, 62, 63, 64, 65, 66, 67].getD j 0 → i = j) iz hi jz hj h)
            (fun iz v _ => match iz with | 0 => v = .slice (some ⟨bi, oi, none⟩) f.length c5 | 1 => v = .int .i64 (k : Int) | 2 => v = .pointer (some ⟨bi, oi + k * 6, none⟩) | 3 => v = .pointer (some ⟨bi, oi + k * 6 + 2, none⟩) | 4 => v = .string x.1.nm | 5 => v = .slice (some ⟨bi, oi, none⟩) f.length c5 | 6 => v = .int .i64 (i : Int) | 7 => v = .pointer (some ⟨bi, oi + i * 6, none⟩) | 8 => v = .pointer (some ⟨bi, oi + i * 6 + 2, none⟩) | 9 => v = .string y.1.nm | 10 => v = .bool false | 11 => v = .bool false | 12 => v = .slice (some ⟨bi, oi, none⟩) f.length c5 | 13 => v = .int .i64 (k : Int) | 14 => v = .pointer (some ⟨bi, oi + k * 6, none⟩) | 15 => v = .pointer (some ⟨bi, oi + k * 6 + 3, none⟩) | 16 => v = .slice b1k x.1.args.length e1k | 17 => v = .slice (some ⟨bi, oi, none⟩) f.length c5 | 18 => v = .int .i64 (i : Int) | 19 => v = .pointer (some ⟨bi, oi + i * 6, none⟩) | 20 => v = .pointer (some ⟨bi, oi + i * 6 + 3, none⟩) | 21 => v = .slice b1i y.1.args.length e1i | 22 => v = .bool (sameAB x.1.args y.1.args) | 23 => v = .bool (!sameAB x.1.args y.1.args) | 24 => v = .bool (!sameAB x.1.args y.1.args) | _ => True) (fun _ _ W => Below wz.heap.size wz W) (Below.refl _ _).drew ?step ?last
          case step =>
            intro D u W iq hi hLs hLi hbW hdep
            have HBJ : Hid (Below wz.heap.size wz W) := hbW
            have yk2 := (hbW.cell (p := ⟨bi, oi + k * 6 + 2, none⟩) hbz3).trans ((HBX.out.cell (p := ⟨bi, oi + k * 6 + 2, none⟩) hbw).trans ek2.out)
            have yk3 := (hbW.cell (p := ⟨bi, oi + k * 6 + 3, none⟩) hbz3).trans ((HBX.out.cell (p := ⟨bi, oi + k * 6 + 3, none⟩) hbw).trans ek3.out)
            have yi2 := (hbW.cell (p := ⟨bi, oi + i * 6 + 2, none⟩) hbz3).trans ((HBX.out.cell (p := ⟨bi, oi + i * 6 + 2, none⟩) hbw).trans ei2.out)
            have yi3 := (hbW.cell (p := ⟨bi, oi + i * 6 + 3, none⟩) hbz3).trans ((HBX.out.cell (p := ⟨bi, oi + i * 6 + 3, none⟩) hbw).trans ei3.out)
            have hcase : iq = 0 ∨ iq = 1 ∨ iq = 2 ∨ iq = 3 ∨ iq = 4 ∨ iq = 5 ∨ iq = 6 ∨ iq = 7 ∨ iq = 8 ∨ iq = 9 ∨ iq = 10 ∨ iq = 11 ∨ iq = 12 ∨ iq = 13 ∨ iq = 14 ∨ iq = 15 ∨ iq = 16 ∨ iq = 17 ∨ iq = 18 ∨ iq = 19 ∨ iq = 20 ∨ iq = 21 ∨ iq = 22 ∨ iq = 23 ∨ iq = 24 := by omega
            clear hbW hLi hi
            rcases hcase with rfl | rfl | rfl | rfl | rfl | rfl | rfl | rfl | rfl | rfl | rfl | rfl | rfl | rfl | rfl | rfl | rfl | rfl | rfl | rfl | rfl | rfl | rfl | rfl | rfl
            · refine wpOp_step rfl (fun K hK => ?_)
              clear hdep
              go_simp
              exact hK _ _ ⟨.slice (some ⟨bi, oi, none⟩) f.length c5, by simp [Go.Proofs.YtkjndghkimnjeaaGreat.G.upd], fun _ _ h => h, rfl, HBJ.out⟩
            · refine wpOp_step rfl (fun K hK => ?_)
              clear hdep
              go_simp
              exact hK _ _ ⟨.int .i64 (k : Int), by simp [Go.Proofs.YtkjndghkimnjeaaGreat.G.upd], fun _ _ h => h, rfl, HBJ.out⟩
            · have d0 : u 43 = .slice (some ⟨bi, oi, none⟩) f.length c5 := (hdep _ rfl ⟨0, .data⟩ (by simp) rfl).2
              have d1 : u 44 = .int .i64 (k : Int) := (hdep _ rfl ⟨1, .data⟩ (by simp) rfl).2
              refine wpOp_step rfl (fun K hK => ?_)
              clear hdep
              go_simp
              exact hK _ _ ⟨.pointer (some ⟨bi, oi + k * 6, none⟩), by simp [Go.Proofs.YtkjndghkimnjeaaGreat.G.upd, d0, d1], fun _ _ h => h, rfl, HBJ.out⟩
            · have d2 : u 45 = .pointer (some ⟨bi, oi + k * 6, none⟩) := (hdep _ rfl ⟨2, .data⟩ (by simp) rfl).2
              refine wpOp_step rfl (fun K hK => ?_)
              clear hdep
              go_simp
              exact hK _ _ ⟨.pointer (some ⟨bi, oi + k * 6 + 2, none⟩), by simp [Go.Proofs.YtkjndghkimnjeaaGreat.G.upd, d2], fun _ _ h => h, rfl, HBJ.out⟩
            · have d3 : u 46 = .pointer (some ⟨bi, oi + k * 6 + 2, none⟩) := (hdep _ rfl ⟨3, .data⟩ (by simp) rfl).2
              refine wpOp_step rfl (fun K hK => ?_)
              clear hdep
              go_simp
              exact hK _ _ ⟨.string x.1.nm, by simp [Go.Proofs.YtkjndghkimnjeaaGreat.G.upd, d3], fun _ _ h => h, rfl, HBJ.out⟩
            · refine wpOp_step rfl (fun K hK => ?_)
              clear hdep
              go_simp
              exact hK _ _ ⟨.slice (some ⟨bi, oi, none⟩) f.length c5, by simp [Go.Proofs.YtkjndghkimnjeaaGreat.G.upd], fun _ _ h => h, rfl, HBJ.out⟩
            · refine wpOp_step rfl (fun K hK => ?_)
              clear hdep
              go_simp
              exact hK _ _ ⟨.int .i64 (i : Int), by simp [Go.Proofs.YtkjndghkimnjeaaGreat.G.upd], fun _ _ h => h, rfl, HBJ.out⟩
            · have d5 : u 48 = .slice (some ⟨bi, oi, none⟩) f.length c5 := (hdep _ rfl ⟨5, .data⟩ (by simp) rfl).2
              have d6 : u 49 = .int .i64 (i : Int) := (hdep _ rfl ⟨6, .data⟩ (by simp) rfl).2
              refine wpOp_step rfl (fun K hK => ?_)
              clear hdep
              go_simp
              exact hK _ _ ⟨.pointer (some ⟨bi, oi + i * 6, none⟩), by simp [Go.Proofs.YtkjndghkimnjeaaGreat.G.upd, d5, d6], fun _ _ h => h, rfl, HBJ.out⟩
            · have d7 : u 50 = .pointer (some ⟨bi, oi + i * 6, none⟩) := (hdep _ rfl ⟨7, .data⟩ (by simp) rfl).2
              refine wpOp_step rfl (fun K hK => ?_)
              clear hdep
              go_simp
              exact hK _ _ ⟨.pointer (some ⟨bi, oi + i * 6 + 2, none⟩), by simp [Go.Proofs.YtkjndghkimnjeaaGreat.G.upd, d7], fun _ _ h => h, rfl, HBJ.out⟩
            · have d8 : u 51 = .pointer (some ⟨bi, oi + i * 6 + 2, none⟩) := (hdep _ rfl ⟨8, .data⟩ (by simp) rfl).2
              refine wpOp_step rfl (fun K hK => ?_)
              clear hdep
              go_simp
              exact hK _ _ ⟨.string y.1.nm, by simp [Go.Proofs.YtkjndghkimnjeaaGreat.G.upd, d8], fun _ _ h => h, rfl, HBJ.out⟩
            · have d4 : u 47 = .string x.1.nm := (hdep _ rfl ⟨4, .data⟩ (by simp) rfl).2
              have d9 : u 52 = .string y.1.nm := (hdep _ rfl ⟨9, .data⟩ (by simp) rfl).2
              refine wpOp_step rfl (fun K hK => ?_)
              clear hdep
              go_simp
              exact hK _ _ ⟨.bool false, by simp [Go.Proofs.YtkjndghkimnjeaaGreat.G.upd, d4, d9], fun _ _ h => h, rfl, HBJ.out⟩
            · have d10 : u 53 = .bool false := (hdep _ rfl ⟨10, .data⟩ (by simp) rfl).2
              refine wpOp_step rfl (fun K hK => ?_)
              clear hdep
              go_simp
              exact hK _ _ ⟨.bool false, by simp [Go.Proofs.YtkjndghkimnjeaaGreat.G.upd, d10], fun _ _ h => h, rfl, HBJ.out⟩
            · have d11 : u 54 = .bool false := (hdep _ rfl ⟨11, .guard⟩ (by simp) rfl).2
              refine wpOp_step rfl (fun K hK => ?_)
              clear hdep
              go_simp
              exact hK _ _ ⟨.slice (some ⟨bi, oi, none⟩) f.length c5, by simp [Go.Proofs.YtkjndghkimnjeaaGreat.G.upd, d11], fun _ _ h => h, rfl, HBJ.out⟩
            · have d11 : u 54 = .bool false := (hdep _ rfl ⟨11, .guard⟩ (by simp) rfl).2
              refine wpOp_step rfl (fun K hK => ?_)
              clear hdep
              go_simp
              exact hK _ _ ⟨.int .i64 (k : Int), by simp [Go.Proofs.YtkjndghkimnjeaaGreat.G.upd, d11], fun _ _ h => h, rfl, HBJ.out⟩
            · have d11 : u 54 = .bool false := (hdep _ rfl ⟨11, .guard⟩ (by simp) rfl).2
              have d12 : u 55 = .slice (some ⟨bi, oi, none⟩) f.length c5 := (hdep _ rfl ⟨12, .data⟩ (by simp) rfl).2
              have d13 : u 56 = .int .i64 (k : Int) := (hdep _ rfl ⟨13, .data⟩ (by simp) rfl).2
              refine wpOp_step rfl (fun K hK => ?_)
              clear hdep
              go_simp
              exact hK _ _ ⟨.pointer (some ⟨bi, oi + k * 6, none⟩), by simp [Go.Proofs.YtkjndghkimnjeaaGreat.G.upd, d11, d12, d13], fun _ _ h => h, rfl, HBJ.out⟩
            · have d11 : u 54 = .bool false := (hdep _ rfl ⟨11, .guard⟩ (by simp) rfl).2
              have d14 : u 57 = .pointer (some ⟨bi, oi + k * 6, none⟩) := (hdep _ rfl ⟨14, .data⟩ (by simp) rfl).2
              refine wpOp_step rfl (fun K hK => ?_)
              clear hdep
              go_simp
              exact hK _ _ ⟨.pointer (some ⟨bi, oi + k * 6 + 3, none⟩), by simp [Go.Proofs.YtkjndghkimnjeaaGreat.G.upd, d11, d14], fun _ _ h => h, rfl, HBJ.out⟩
            · have d11 : u 54 = .bool false := (hdep _ rfl ⟨11, .guard⟩ (by simp) rfl).2
              have d15 : u 58 = .pointer (some ⟨bi, oi + k * 6 + 3, none⟩) := (hdep _ rfl ⟨15, .data⟩ (by simp) rfl).2
              refine wpOp_step rfl (fun K hK => ?_)
              clear hdep
              go_simp
              exact hK _ _ ⟨.slice b1k x.1.args.length e1k, by simp [Go.Proofs.YtkjndghkimnjeaaGreat.G.upd, d11, d15], fun _ _ h => h, rfl, HBJ.out⟩
            · have d11 : u 54 = .bool false := (hdep _ rfl ⟨11, .guard⟩ (by simp) rfl).2
              refine wpOp_step rfl (fun K hK => ?_)
              clear hdep
              go_simp
              exact hK _ _ ⟨.slice (some ⟨bi, oi, none⟩) f.length c5, by simp [Go.Proofs.YtkjndghkimnjeaaGreat.G.upd, d11], fun _ _ h => h, rfl, HBJ.out⟩
            · have d11 : u 54 = .bool false := (hdep _ rfl ⟨11, .guard⟩ (by simp) rfl).2
              refine wpOp_step rfl (fun K hK => ?_)
              clear hdep
              go_simp
              exact hK _ _ ⟨.int .i64 (i : Int), by simp [Go.Proofs.YtkjndghkimnjeaaGreat.G.upd, d11], fun _ _ h => h, rfl, HBJ.out⟩
            · have d11 : u 54 = .bool false := (hdep _ rfl ⟨11, .guard⟩ (by simp) rfl).2
              have d17 : u 60 = .slice (some ⟨bi, oi, none⟩) f.length c5 := (hdep _ rfl ⟨17, .data⟩ (by simp) rfl).2
              have d18 : u 61 = .int .i64 (i : Int) := (hdep _ rfl ⟨18, .data⟩ (by simp) rfl).2
              refine wpOp_step rfl (fun K hK => ?_)
              clear hdep
              go_simp
              exact hK _ _ ⟨.pointer (some ⟨bi, oi + i * 6, none⟩), by simp [Go.Proofs.YtkjndghkimnjeaaGreat.G.upd, d11, d17, d18], fun _ _ h => h, rfl, HBJ.out⟩
            · have d11 : u 54 = .bool false := (hdep _ rfl ⟨11, .guard⟩ (by simp) rfl).2
              have d19 : u 62 = .pointer (some ⟨bi, oi + i * 6, none⟩) := (hdep _ rfl ⟨19, .data⟩ (by simp) rfl).2
              refine wpOp_step rfl (fun K hK => ?_)
              clear hdep
              go_simp
              exact hK _ _ ⟨.pointer (some ⟨bi, oi + i * 6 + 3, none⟩), by simp [Go.Proofs.YtkjndghkimnjeaaGreat.G.upd, d11, d19], fun _ _ h => h, rfl, HBJ.out⟩
            · have d11 : u 54 = .bool false := (hdep _ rfl ⟨11, .guard⟩ (by simp) rfl).2
              have d20 : u 63 = .pointer (some ⟨bi, oi + i * 6 + 3, none⟩) := (hdep _ rfl ⟨20, .data⟩ (by simp) rfl).2
              refine wpOp_step rfl (fun K hK => ?_)
              clear hdep
              go_simp
              exact hK _ _ ⟨.slice b1i y.1.args.length e1i, by simp [Go.Proofs.YtkjndghkimnjeaaGreat.G.upd, d11, d20], fun _ _ h => h, rfl, HBJ.out⟩
            · have d11 : u 54 = .bool false := (hdep _ rfl ⟨11, .guard⟩ (by simp) rfl).2
              have d16 : u 59 = .slice b1k x.1.args.length e1k := (hdep _ rfl ⟨16, .data⟩ (by simp) rfl).2
              have d21 : u 64 = .slice b1i y.1.args.length e1i := (hdep _ rfl ⟨21, .data⟩ (by simp) rfl).2
              have HQ : Hid _ := HSA.out W HBJ.out
              refine wpOp_step rfl (fun K hK => ?_)
              clear hdep
              go_simp
              refine Calls.mono HQ.out ?_
              rintro e w8 ⟨rfl, hb8⟩
              exact hK _ _ ⟨.bool (sameAB x.1.args y.1.args), by simp [Go.Proofs.YtkjndghkimnjeaaGreat.G.upd, d11, d16, d21], fun _ _ h => h, rfl, HBJ.out.trans (hb8.mono HBJ.out.size)⟩
            · have d11 : u 54 = .bool false := (hdep _ rfl ⟨11, .guard⟩ (by simp) rfl).2
              have d22 : u 65 = .bool (sameAB x.1.args y.1.args) := (hdep _ rfl ⟨22, .data⟩ (by simp) rfl).2
              refine wpOp_step rfl (fun K hK => ?_)
              clear hdep
              go_simp
              exact hK _ _ ⟨.bool (!sameAB x.1.args y.1.args), by simp [Go.Proofs.YtkjndghkimnjeaaGreat.G.upd, d11, d22], fun _ _ h => h, rfl, HBJ.out⟩
            · have d11 : u 54 = .bool false := (hdep _ rfl ⟨11, .data⟩ (by simp) rfl).2
              have d23 : u 66 = .bool (!sameAB x.1.args y.1.args) := (hdep _ rfl ⟨23, .data⟩ (by simp) rfl).2
              refine wpOp_step rfl (fun K hK => ?_)
              clear hdep
              go_simp
              exact hK _ _ ⟨.bool (!sameAB x.1.args y.1.args), by simp [Go.Proofs.YtkjndghkimnjeaaGreat.G.upd, d11, d23], fun _ _ h => h, rfl, HBJ.out⟩
          case last =>
            intro D u W hLs hD hbW hp
            have HBL : Hid (Below wz.heap.size wz W) := hbW
            have d24 : u 67 = .bool (!sameAB x.1.args y.1.args) := hp 24 (by omega)
            clear hp hbW
            go_wp2_with fail
            go_meet
            exact ⟨by rw [HSB.out]; first | rfl | exact d24, HBL⟩
      obtain ⟨rfl, HBY⟩ := hcut
      obtain ⟨w6, rfl⟩ : ∃ z, z = wc := ⟨_, rfl⟩
      have B6 : Hid (Below wo.heap.size wo w6) := B3.out.trans (HBY.out.mono B3.out.size)
      have O6 : Hid (FOwn w0 wo.heap.size 115 w6 (.slice a2 G.length c2) G) := O3.out.up HBY.out
      have G6 : Hid (Below w.heap.size w w6) := (T.out _ (BV3.out.trans (HBY.out.mono BV3.out.size))).2.2
      have hnd : (x.1.args.map fun q => q.nm.toList).Nodup := by rw [HX.out]; exact (HAF.out _ (List.getElem_mem hkl)).1
      cases hsb : sameB x.1 y.1 with
      | false =>
        have HE : Hid (¬ MOk l s) := MOk.no_same HFL.out (List.getElem_mem hkl) (List.getElem_mem hlt) HKE.out (fun h => by
          rw [← HX.out, ← HY.out] at h
          rw [(sameB_iff hnd).2 h] at hsb; cases hsb)
        clear hnd
        go_wp2_with fail
        go_ret
        exact ⟨⟨false, rfl, ⟨fun h => (by cases h), fun h => absurd h HE.out⟩⟩, G6.out⟩
      | true =>
        have hsm : SameA f[k].1 f[i].1 := by rw [← HX.out, ← HY.out]; exact (sameB_iff hnd).1 hsb
        have HI3 : Hid (MrI f i (k + 1) hlt (fb && decide (i ≤ k))) := HI2.out.next hkl HKE.out hsm
        have HG2 : Hid (G ++ toL x.2 = tog (ofK (kyL f[i]) (f.take (k + 1)))) := by rw [Hid, ofK_take_yes hkl HKE.out, ← HGE.out, ← HX.out]
        have hgl2 : G.length + x.2.len ≤ 400 := by
          have h1 := HTL.out (k + 1)
          rw [← HG2.out, List.length_append, toL_len] at h1
          exact h1
        have R5 : Hid (FRow w0 0 w6.heap.size w6 b3k (toL x.2)) := SelRow.fr2 RK3.out (W03.out.trans (HBY.out.mono W03.out.size))
        have y5 := (HBY.out.cell (p := ⟨bi, oi + k * 6 + 5, none⟩) hbz3).trans ((HBX.out.cell (p := ⟨bi, oi + k * 6 + 5, none⟩) hbw).trans ek5.out)
        have HLO : Hid (∀ q, (Value.slice a2 G.length c2).ownBlock = some q → wo.heap.size ≤ q ∧ q < w6.heap.size) := O6.out.lt
        have hz6 := B6.out.size
        clear hnd hsm
        go_wp2_with (first | (at_builtin; revert hsl) | fail)
        intro hsl
        refine wpList_append_sels (w0 := w0) rfl _ _ rfl wo.heap.size (.slice a2 G.length c2) G (toL x.2) rfl O6.out b3k e3k (by rw [toL_len]; rfl) R5.out (by rw [toL_len]; omega) hz6 ?_
        intro a8 c8 w8 ho8 hg8 _
        rw [toL_len] at ho8 ⊢
        have O8 : Hid (FOwn w0 wo.heap.size 115 w8 (.slice a8 (G.length + x.2.len) c8) (G ++ toL x.2)) := ho8
        have B8 : Hid (Below wo.heap.size wo w8) := B6.out.grown hg8 hz6 (fun q hq => (HLO.out q hq).1)
        clear ho8 hg8 y5
        go_wp2_with fail
        go_roundw
        case rel =>
          have hl8 : G.length + x.2.len = (tog (ofK (kyL f[i]) (f.take (k + 1)))).length := by rw [← HG2.out, List.length_append, toL_len]
          rw [HG2.out, hl8] at O8
          rw [hl8]
          exact ⟨k + 1, a8, c8, fb && decide (i ≤ k), by go_num, rfl, rfl, by omega, B8, O8, HI3⟩
        case measure => simp [intOf]; omega
end Go.Proofs.YtkjndghkimnjeaaGreat
