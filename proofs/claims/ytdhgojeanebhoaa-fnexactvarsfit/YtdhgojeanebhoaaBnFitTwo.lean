/- VarsFit: both sides. -/
import Derived.Test.YtdhgojeanebhoaaBnFit
import Derived.Test.YtdhgojeanebhoaaDocSpecOK
namespace Go.Proofs.Ytdhgojeanebhoaa
open Go.ChangeShapes Go.WideShapes Go.ChangeAt Go.RowKit
set_option linter.unusedVariables false

theorem fitD_take {l : List Ar} {ds : List De} {k : Nat} (hk : k < ds.length) : fitD l (ds.take (k + 1)) = (fitD l (ds.take k) && fitS l ds[k].sels) := by
  unfold fitD; rw [List.take_succ_eq_append_getElem hk, List.all_append]; simp
theorem fitD_no {l : List Ar} {ds : List De} {k : Nat} (hk : k < ds.length) (h : fitS l ds[k].sels = false) : fitD l ds = false := all_no_b hk h

set_option maxHeartbeats 4000000 in
set_option maxRecDepth 40000 in
theorem impl_varsFit (a' : Option Addr) (c' : Nat) (ds : List De) (a : Option Addr) (c : Nat) (l : List Ar) (x y : Int) (w : World) (hd : DeRow 0 w.heap.size w a' ds) (hb : DefsBd 1048576 ds) (hr : ArRow 0 w.heap.size w a l) (hl : l.length ≤ 1048576) (ht : ∀ x ∈ l, ArBd 1048576 x) (hy : varsFit ds l = (x, y)) :
    Calls Try.prog 25 #[.agg #[.slice a' ds.length c'], .slice a l.length c] w fun e w' => e = .returned (.tuple #[.int .i64 x, .int .i64 y]) ∧ Below w.heap.size w w' := by
  have K1 : Hid (∀ W0, Below w.heap.size w W0 → DeRow 0 w.heap.size W0 a' ds) := fun W0 hB => DeRow.keep hd (Below.agree hB (Nat.le_refl _))
  have K2 : Hid (∀ W0, Below w.heap.size w W0 → ArRow 0 w.heap.size W0 a l) := fun W0 hB => Row.keep hr (Below.agree hB (Nat.le_refl _))
  have HB : Hid (DefsBd 1048576 ds) := hb
  have hn : ds.length ≤ 1048576 := hb.1
  have HT : Hid (∀ x ∈ l, ArBd 1048576 x) := ht
  have HY : Hid (varsFit ds l = (x, y)) := hy
  have B0 : Hid (Below w.heap.size w ((w.alloc (.cells #[.slice a' ds.length c'] 62)).alloc (.cells #[.slice a l.length c] 25))) := ((Below.refl _ _).alloc (Nat.le_refl _) _).alloc (by simp) _
  clear hd hr hb ht hy
  by_cases hbig : 4096 < l.length
  case pos =>
    have hz := HY.out
    unfold varsFit at hz
    rw [if_pos hbig] at hz
    simp only [Prod.mk.injEq] at hz
    obtain ⟨rfl, rfl⟩ := hz
    go_enter Try.func25, Try.ntmps25
    go_wp2_with fail
    go_ret2
    exact ⟨rfl, B0.out⟩
  go_enter Try.func25, Try.ntmps25
  go_wp2_with fail
  refine (impl_doc a' c' ds _ (DeRow.wide (K1.out _ B0.out) (Nat.le_refl _) (by simp; omega)) HB.out.1 HB.out.2).mono ?_
  rintro e w1 ⟨rfl, hb1⟩
  have z1 : w.heap.size + 2 ≤ w1.heap.size := by have := hb1.size; simp at this; omega
  have Q1 : Hid (Below w.heap.size w w1) := B0.out.trans (hb1.mono (by simp; omega))
  have A0 : Hid (w1.heap[w.heap.size]? = some (.cells #[.slice a' ds.length c'] 62 (0, 0))) := (hb1.block w.heap.size (by simp; omega)).trans (by rw [Below.heap_alloc _ _ _ (by simp)]; exact heap_alloc_new _ _)
  have A1 : Hid (AtV w1 (w.heap.size + 1) a l.length c) := (hb1.block (w.heap.size + 1) (by simp)).trans (by
    have := heap_alloc_new (w.alloc (.cells #[.slice a' ds.length c'] 62)) (.cells #[.slice a l.length c] 25)
    simpa using this)
  have k11 := row_cell A1.out 0
  clear hb1
  cases hdb : docB ds with
  | false =>
    have hz := HY.out
    unfold varsFit at hz
    rw [if_neg hbig, hdb] at hz
    simp only [Bool.false_and, Bool.not_false, if_true, Prod.mk.injEq] at hz
    obtain ⟨rfl, rfl⟩ := hz
    go_wp2_with fail
    go_ret2
    exact ⟨rfl, Q1.out⟩
  | true =>
  go_wp2_with fail
  refine (impl_binds a c l _ (Row.wide (K2.out _ Q1.out) (Nat.le_refl _) (by omega)) hl HT.out).mono ?_
  rintro e w2 ⟨rfl, hb2⟩
  have z2 : w.heap.size + 2 ≤ w2.heap.size := by have := hb2.size; omega
  have Q2 : Hid (Below w.heap.size w w2) := Q1.out.trans (hb2.mono (by omega))
  have A2 : Hid (w2.heap[w.heap.size]? = some (.cells #[.slice a' ds.length c'] 62 (0, 0))) := (hb2.block w.heap.size (by omega)).trans A0.out
  have A3 : Hid (AtV w2 (w.heap.size + 1) a l.length c) := (hb2.block (w.heap.size + 1) (by omega)).trans A1.out
  have k20 := row_cell A2.out 0
  have kA := fun ob => (((Below.refl w2.heap.size w2).alloc (Nat.le_refl _) ob).cell (p := ⟨w.heap.size, 0, none⟩) (show w.heap.size < w2.heap.size by omega)).trans k20
  clear hb2 A0 A1 k11
  cases hbb : bindB l with
  | false =>
    have hz := HY.out
    unfold varsFit at hz
    rw [if_neg hbig, hdb, hbb] at hz
    simp only [Bool.and_false, Bool.not_false, if_true, Prod.mk.injEq] at hz
    obtain ⟨rfl, rfl⟩ := hz
    go_wp2_with fail
    go_ret2
    exact ⟨rfl, Q2.out⟩
  | true =>
  have hz := HY.out
  unfold varsFit at hz
  rw [if_neg hbig, hdb, hbb] at hz
  simp only [Bool.and_self, Bool.not_true, Bool.false_eq_true, if_false, Prod.mk.injEq] at hz
  obtain ⟨hx, rfl⟩ := hz
  have HX : Hid (st (fitD l ds) 0 = x) := hx
  clear hx HY k20
  go_wp2_with fail
  obtain ⟨W, hW⟩ : ∃ W, W = w2.alloc (.cells #[.int .i64 0] 3) := ⟨_, rfl⟩
  rw [← hW]
  have zW : W.heap.size = w2.heap.size + 1 := by rw [hW]; simp
  have BW : Hid (Below w2.heap.size w2 W) := by rw [hW]; exact (Below.refl _ _).alloc (Nat.le_refl _) _
  have CW : Hid (At1 W w2.heap.size 0) := by rw [Hid, hW]; exact heap_alloc_new _ _
  have VW : Hid (AtV W (w.heap.size + 1) a l.length c) := (BW.out.block _ (by omega)).trans A3.out
  have QW : Hid (Below w.heap.size w W) := Q2.out.trans (BW.out.mono (by omega))
  clear hW kA A2 A3
  go_loopw [25] (fun i w' => ∃ (k : Nat), k ≤ ds.length ∧ i = .int .i64 k ∧ Hid (Kp w2.heap.size W w') ∧ Hid (At1 w' w2.heap.size (st (fitD l (ds.take k)) 0))) (fun i _ => ds.length - (intOf i).toNat)
  case atStart => exact ⟨0, by omega, rfl, Kp.refl _ _, CW⟩
  case round =>
    obtain ⟨k, hk, rfl, HK, HM⟩ := hrel
    have zr := HK.out.below.size
    have QR : Hid (Below w.heap.size w wr) := QW.out.trans (HK.out.below.mono (by omega))
    have VR : Hid (AtV wr (w.heap.size + 1) a l.length c) := (HK.out.block _ (by omega) (by omega)).trans VW.out
    by_cases hlt : k < ds.length
    case neg =>
      have HE : Hid (At1 wr w2.heap.size x) := by have := HM.out; rw [List.take_of_length_le (by omega), HX.out] at this; exact this
      have ce := row_cell HE.out 0
      clear HM
      go_wp2_with fail
      go_ret2
      exact ⟨rfl, QR.out⟩
    obtain ⟨b, o, a3, c3, ha, _, hbl, d0, d1, d2, d3, r3⟩ := DeRow.cells (K1.out _ QR.out) k hlt
    subst ha
    have R3 : Hid (SelRow 0 w.heap.size wr a3 ds[k].sels) := r3
    obtain ⟨x1, x2, x3, x4⟩ := HB.out.2 _ (List.getElem_mem hlt)
    have X4 : Hid (SelsBd 1048576 ds[k].sels) := x4
    have HV2 : Hid (st (fitD l (ds.take (k + 1))) 0 = st (fitS l ds[k].sels) (st (fitD l (ds.take k)) 0)) := by rw [Hid, fitD_take hlt, st_and]
    generalize st (fitD l (ds.take k)) 0 = y' at *
    clear r3 x4
    go_wp2_with fail
    have bA := fun ob => (Below.refl wr.heap.size wr).alloc (Nat.le_refl _) ob
    refine (each_fit l ds[k].sels a3 c3 (w.heap.size + 1) w2.heap.size y' a c _ (((bA _).block _ (by omega)).trans VR.out) (((bA _).block _ (by omega)).trans HM.out) (by omega) (SelRow.wide (SelRow.keep R3.out (Below.agree (bA _) (by omega))) (Nat.le_refl _) (by omega)) (Row.wide (Row.keep (K2.out _ QR.out) (Below.agree (bA _) (by omega))) (Nat.le_refl _) (by omega)) x3 X4.out hl).mono ?_
    rintro e w3 ⟨rfl, hN2, hK2⟩
    have N2 : Hid (At1 w3 w2.heap.size (st (fitS l ds[k].sels) y')) := hN2
    have K3 : Hid (Kp w2.heap.size W w3) := HK.out.trans ((Kp.of (bA _) (by omega)).trans hK2)
    clear hN2 hK2 d0 d1 d2 d3 bA
    go_wp2_with fail
    exact ⟨⟨k + 1, by omega, by go_num, K3, by rw [HV2.out]; exact N2.out⟩, by simp [intOf]; omega⟩

def SpecFit (l : List Ar) (s : Sels) : Prop := ∀ (a' : Option Addr) (c' : Nat) (a : Option Addr) (c : Nat) (w : World), SelRow 0 w.heap.size w a' s → ArRow 0 w.heap.size w a l → s.len ≤ 1048576 → SelsBd 1048576 s → l.length ≤ 1048576 →
    Calls Try.prog 78 #[.slice a' s.len c', .slice a l.length c] w fun e w' => e = .returned (.bool (fitS l s)) ∧ Below w.heap.size w w'
set_option maxHeartbeats 8000000 in
set_option maxRecDepth 40000 in
theorem spec_fit (l : List Ar) (s : Sels) : SpecFit l s := by
  induction hN : s.size using Nat.strongRecOn generalizing s with
  | _ N ih =>
  subst hN
  intro a' c' a c w hs hr hn hbd hl
  have IH : Hid (∀ sub : Sels, sub.size < s.size → SpecFit l sub) := fun sub hsub => ih sub.size hsub sub rfl
  have HS : Hid (SelFrom 0 w.heap.size w a' 0 s) := hs.from_
  have HR : Hid (∀ W0, Below w.heap.size w W0 → ArRow 0 W0.heap.size W0 a l) := fun W0 hB => Row.up hr hB
  have HB : Hid (SelsBd 1048576 s) := hbd
  clear hs hr ih hbd
  go_enter Try.func78, Try.ntmps78
  go_wp2_with fail
  go_loopw [5] (fun i w' => ∃ (k : Nat) (rest : Sels), Hid (s.len = k + rest.len) ∧ i = .int .i64 k ∧ Hid (Below w.heap.size w w') ∧ Hid (rest.size ≤ s.size) ∧ Hid (SelsBd 1048576 rest) ∧ Hid (SelFrom 0 w.heap.size w a' k rest) ∧ Hid (fitS l s = fitS l rest)) (fun i _ => s.len - (intOf i).toNat)
  case atStart => exact ⟨0, s, by simp [Hid], rfl, Below.refl _ _, Nat.le_refl _, HB, HS, rfl⟩
  case round =>
    obtain ⟨k, rest, HK, rfl, HW, HZ, HD, HF, HE⟩ := hrel
    have hzr := HW.out.size
    cases rest with
    | nil =>
      have hk' : ¬ k < s.len := by rw [HK.out]; simp only [Sels.len]; omega
      have NE : Hid (true = fitS l s) := by rw [Hid, HE.out]; rfl
      clear HE
      go_wp2_with fail
      go_ret
      exact ⟨ret_bool NE.out, HW.out⟩
    | cons h sub rest =>
      have hlt : k < s.len := by rw [HK.out]; simp only [Sels.len]; omega
      have HK2 : Hid (s.len = k + 1 + rest.len) := by rw [Hid, HK.out]; simp only [Sels.len]; omega
      have HST : Hid (∀ W0, Below w.heap.size w W0 → SelFrom 0 w.heap.size W0 a' k (.cons h sub rest)) := fun W0 hB => HF.out.keep (Below.agree hB (Nat.le_refl _))
      have HF2 : Hid (SelFrom 0 w.heap.size w a' (k + 1) rest) := SelFrom.next HF.out
      obtain ⟨e1, e2, e3, e4⟩ := HD.out
      obtain ⟨x1, x2, x3, x4, x5, x6⟩ := e1
      have E3 : Hid (SelsBd 1048576 sub) := e3
      have E4 : Hid (SelsBd 1048576 rest) := e4
      have HZ2 : Hid (rest.size ≤ s.size) := by have := HZ.out; simp only [Sels.size] at this; unfold Hid; omega
      have IS : Hid (SpecFit l sub) := IH.out sub (by have := HZ.out; simp only [Sels.size] at this; omega)
      have HEX : Hid (fitS l s = (hdFitB l h && fitS l sub && fitS l rest)) := HE.out
      obtain ⟨wo, rfl⟩ : ∃ x, x = wr := ⟨_, rfl⟩
      clear e3 e4 x4 x6 HE
      go_wp2_with fail
      go_loopw [6] (fun i w' => ∃ (j : Nat), j ≤ h.args.length ∧ i = .int .i64 j ∧ Hid (Below w.heap.size w w') ∧ Hid ((h.args.take j).all (argFitB l) = true)) (fun i _ => h.args.length - (intOf i).toNat)
      case atStart => exact ⟨0, by omega, rfl, HW, rfl⟩
      case round =>
        obtain ⟨j, hj, rfl, HWj, HJ⟩ := hrel
        obtain ⟨b, o, a1, c1, a2, c2, a3, c3, ha, _, hbl, d0, d1, d2, d3, d4, d5, r1, r2, r3, _⟩ := (HST.out _ HWj.out).step
        subst ha
        have zj := HWj.out.size
        clear d0 d1 d2 d5
        by_cases hjt : j < h.args.length
        case neg =>
          have HAL : Hid (h.args.all (argFitB l) = true) := by have := HJ.out; rwa [List.take_of_length_le (by omega)] at this
          clear HJ r1 r2 r3
          go_wp2_with fail
          obtain ⟨wp, rfl⟩ : ∃ x, x = wr := ⟨_, rfl⟩
          clear d3 d4
          go_loopw [9] (fun i w' => ∃ (j : Nat), j ≤ h.dirs.length ∧ i = .int .i64 j ∧ Hid (Below w.heap.size w w') ∧ Hid ((h.dirs.take j).all (dirFitB l) = true)) (fun i _ => h.dirs.length - (intOf i).toNat)
          case atStart => exact ⟨0, by omega, rfl, HWj, rfl⟩
          case round =>
            obtain ⟨m, hm, rfl, HWm, HM⟩ := hrel
            obtain ⟨b', o', a1', c1', a2', c2', a3', c3', ha, _, hbl', d0, d1, d2, d3, d4, d5, r1, r2, r3, _⟩ := (HST.out _ HWm.out).step
            simp only [Option.some.injEq, Addr.mk.injEq, and_true] at ha
            obtain ⟨rfl, rfl⟩ := ha
            have zm := HWm.out.size
            clear d0 d1 d2 d3
            by_cases hmt : m < h.dirs.length
            case neg =>
              have HH : Hid (hdFitB l h = true) := by
                have := HM.out
                rw [List.take_of_length_le (by omega)] at this
                unfold Hid hdFitB; rw [HAL.out, this]; rfl
              have R3 : Hid (SelRow 0 w.heap.size wr a3' sub) := r3
              clear HM r1 r2 r3
              go_wp2_with fail
              refine (IS.out a3' c3' a c _ (SelRow.wide R3.out (Nat.le_refl _) zm) (HR.out _ HWm.out) e2 E3.out hl).mono ?_
              rintro e w1 ⟨rfl, hb1⟩
              have Q1 : Hid (Below w.heap.size w w1) := HWm.out.trans (hb1.mono zm)
              clear hb1 d4 d5
              cases hf : fitS l sub
              · have NE : Hid (false = fitS l s) := by rw [Hid, HEX.out, HH.out, hf]; rfl
                clear HEX
                go_wp2_with fail
                go_ret
                exact ⟨ret_bool NE.out, Q1.out⟩
              · have NE : Hid (fitS l s = fitS l rest) := by rw [Hid, HEX.out, HH.out, hf]; rfl
                clear HEX
                go_wp2_with fail
                exact ⟨⟨k + 1, rest, HK2, by go_num, Q1, HZ2, E4, HF2, NE⟩, by simp [intOf]; omega⟩
            obtain ⟨b5, o5, ha, _, hbl5, f0, f1, f2, f3⟩ := r2.cells_di m hmt
            subst ha
            obtain ⟨u, b9, hu⟩ : ∃ u b', bval h.dirs[m].v l = (u, b') := ⟨_, _, rfl⟩
            have HU : Hid (bval h.dirs[m].v l = (u, b9)) := hu
            have HT : Hid (dirFitB l h.dirs[m] = (u.k == 2)) := by unfold Hid dirFitB; rw [hu]
            clear r1 r2 r3 d5 hu
            go_wp2_with fail
            refine (spec_value h.dirs[m].v a c l u b9 _ (HR.out _ HWm.out) hl HU.out).mono ?_
            rintro e w1 ⟨rfl, hb1⟩
            have z1 := hb1.size
            have Q1 : Hid (Below w.heap.size w w1) := HWm.out.trans (hb1.mono zm)
            clear hb1 d4 f0 f1 f2 f3
            cases b9 with
            | false =>
              have hu0 := bval_none HU.out
              have HN : Hid (false = fitS l s) := by
                have := fit_dirs_no hmt (show dirFitB l h.dirs[m] = false by rw [HT.out, hu0]; rfl)
                rw [Hid, HEX.out, ← this]; rfl
              clear HEX
              go_wp2_with fail
              go_ret
              exact ⟨ret_bool HN.out, Q1.out.alloc (by omega) _⟩
            | true =>
              cases h1 : (u.k == 2)
              · have HN : Hid (false = fitS l s) := by
                  have := fit_dirs_no hmt (show dirFitB l h.dirs[m] = false by rw [HT.out, h1])
                  rw [Hid, HEX.out, ← this]; rfl
                clear HEX
                go_wp2_with fail
                go_ret
                exact ⟨ret_bool HN.out, Q1.out.alloc (by omega) _⟩
              · have HN : Hid ((h.dirs.take (m + 1)).all (dirFitB l) = true) := all_takeB hmt HM.out (by rw [HT.out, h1])
                have Q2 : Hid (∀ ob, Below w.heap.size w (w1.alloc ob)) := fun ob => Q1.out.alloc (by omega) _
                go_wp2_with fail
                exact ⟨⟨m + 1, by omega, by go_num, Q2.out _, HN⟩, by simp [intOf]; omega⟩
        obtain ⟨b5, o5, ha, _, hbl5, f0, f1, f2, f3⟩ := r1.cells_ar j hjt
        subst ha
        obtain ⟨u, b9, hu⟩ : ∃ u b', bval h.args[j].v l = (u, b') := ⟨_, _, rfl⟩
        have HU : Hid (bval h.args[j].v l = (u, b9)) := hu
        have HT : Hid (argFitB l h.args[j] = (b9 && !(u.k == 2))) := by unfold Hid argFitB; rw [hu]
        clear r1 r2 r3 d4 hu
        go_wp2_with fail
        refine (spec_value h.args[j].v a c l u b9 _ (HR.out _ HWj.out) hl HU.out).mono ?_
        rintro e w1 ⟨rfl, hb1⟩
        have z1 := hb1.size
        have Q1 : Hid (Below w.heap.size w w1) := HWj.out.trans (hb1.mono zj)
        have Q2 : Hid (∀ ob, Below w.heap.size w (w1.alloc ob)) := fun ob => Q1.out.alloc (by omega) _
        clear hb1 d3 f0 f1 f2 f3
        have HNO : Hid (argFitB l h.args[j] = false → false = fitS l s) := fun hh => by
          have := fit_args_no hjt hh
          rw [HEX.out, ← this]; rfl
        cases b9 <;> cases h1 : (u.k == 2)
        all_goals
          go_wp2_with fail
          first
          | (exact ⟨⟨j + 1, by omega, by go_num, Q2.out _, all_takeB hjt HJ.out (by rw [HT.out, h1]; rfl)⟩, by simp [intOf]; omega⟩)
          | (go_ret; exact ⟨ret_bool (HNO.out (by rw [HT.out, h1]; rfl)), Q2.out _⟩)

set_option maxHeartbeats 4000000 in
set_option maxRecDepth 40000 in
theorem spec_fits (a' : Option Addr) (c' : Nat) (ds : List De) (a : Option Addr) (c : Nat) (l : List Ar) (w : World) (hd : DeRow 0 w.heap.size w a' ds) (hb : DefsBd 1048576 ds) (hr : ArRow 0 w.heap.size w a l) (hl : l.length ≤ 1048576) :
    Calls Try.prog 52 #[.agg #[.slice a' ds.length c'], .slice a l.length c] w fun e w' => e = .returned (.int .i64 (st (fitD l ds) 0)) ∧ Below w.heap.size w w' := by
  have K1 : Hid (∀ W0, Below w.heap.size w W0 → DeRow 0 w.heap.size W0 a' ds) := fun W0 hB => DeRow.keep hd (Below.agree hB (Nat.le_refl _))
  have K2 : Hid (∀ W0, Below w.heap.size w W0 → ArRow 0 W0.heap.size W0 a l) := fun W0 hB => Row.up hr hB
  have HB : Hid (DefsBd 1048576 ds) := hb
  have hn : ds.length ≤ 1048576 := hb.1
  clear hd hr hb
  go_enter Try.func52, Try.ntmps52
  go_wp2_with fail
  obtain ⟨W, hW⟩ : ∃ W, W = w.alloc (.cells #[.slice a' ds.length c'] 62) := ⟨_, rfl⟩
  rw [← hW]
  have zW : W.heap.size = w.heap.size + 1 := by rw [hW]; simp
  have B0 : Hid (Below w.heap.size w W) := by rw [hW]; exact (Below.refl _ _).alloc (Nat.le_refl _) _
  have A0 : Hid (W.heap[w.heap.size]? = some (.cells #[.slice a' ds.length c'] 62 (0, 0))) := by rw [Hid, hW]; exact heap_alloc_new _ _
  clear hW
  go_loopw [5] (fun i w' => ∃ (k : Nat), k ≤ ds.length ∧ i = .int .i64 k ∧ Below W.heap.size W w' ∧ Hid (fitD l (ds.take k) = true)) (fun i _ => ds.length - (intOf i).toNat)
  case atStart => exact ⟨0, by omega, rfl, Below.refl _ _, rfl⟩
  case round =>
    obtain ⟨k, hk, rfl, hb, HK⟩ := hrel
    have HBR : Hid _ := hb
    have QR : Hid (Below w.heap.size w wr) := B0.out.trans (hb.mono (by omega))
    have zr := hb.size
    have q0 := row_cell ((hb.block w.heap.size (by omega)).trans A0.out) 0
    clear hb
    by_cases hlt : k < ds.length
    case neg =>
      have HN : Hid (0 = st (fitD l ds) 0) := by have := HK.out; rw [List.take_of_length_le (by omega)] at this; rw [Hid, this]; rfl
      go_wp2_with fail
      go_ret
      exact ⟨ret_int HN.out, QR.out⟩
    obtain ⟨b, o, a3, c3, ha, _, hbl, d0, d1, d2, d3, r3⟩ := DeRow.cells (K1.out _ QR.out) k hlt
    subst ha
    have R3 : Hid (SelRow 0 w.heap.size wr a3 ds[k].sels) := r3
    obtain ⟨x1, x2, x3, x4⟩ := HB.out.2 _ (List.getElem_mem hlt)
    have X4 : Hid (SelsBd 1048576 ds[k].sels) := x4
    clear r3 x4
    go_wp2_with fail
    refine (spec_fit l ds[k].sels a3 c3 a c _ (SelRow.wide R3.out (Nat.le_refl _) (by omega)) (K2.out _ QR.out) x3 X4.out hl).mono ?_
    rintro e w1 ⟨rfl, hb1⟩
    have B1 : Hid (Below W.heap.size W w1) := HBR.out.trans (hb1.mono (by omega))
    have Q1 : Hid (Below w.heap.size w w1) := QR.out.trans (hb1.mono (by omega))
    clear hb1 d0 d1 d2 d3 q0
    cases hf : fitS l ds[k].sels
    · have HN : Hid (14 = st (fitD l ds) 0) := by rw [Hid, fitD_no hlt hf]; rfl
      go_wp2_with fail
      go_ret
      exact ⟨ret_int HN.out, Q1.out⟩
    · have HN : Hid (fitD l (ds.take (k + 1)) = true) := by rw [Hid, fitD_take hlt, HK.out, hf]; rfl
      go_wp2_with fail
      exact ⟨⟨k + 1, by omega, by go_num, B1.out, HN⟩, by simp [intOf]; omega⟩

set_option maxHeartbeats 4000000 in
set_option maxRecDepth 40000 in
theorem spec_varsFit (a' : Option Addr) (c' : Nat) (ds : List De) (a : Option Addr) (c : Nat) (l : List Ar) (x y : Int) (w : World) (hd : DeRow 0 w.heap.size w a' ds) (hb : DefsBd 1048576 ds) (hr : ArRow 0 w.heap.size w a l) (hl : l.length ≤ 1048576) (ht : ∀ x ∈ l, ArBd 1048576 x) (hy : varsFit ds l = (x, y)) :
    Calls Try.prog 23 #[.agg #[.slice a' ds.length c'], .slice a l.length c] w fun e w' => e = .returned (.tuple #[.int .i64 x, .int .i64 y]) ∧ Below w.heap.size w w' := by
  have K1 : Hid (∀ W0, Below w.heap.size w W0 → DeRow 0 W0.heap.size W0 a' ds) := fun W0 hB => DeRow.up hd hB
  have K2 : Hid (∀ W0, Below w.heap.size w W0 → ArRow 0 W0.heap.size W0 a l) := fun W0 hB => Row.up hr hB
  have HB : Hid (DefsBd 1048576 ds) := hb
  have HT : Hid (∀ x ∈ l, ArBd 1048576 x) := ht
  have HY : Hid (varsFit ds l = (x, y)) := hy
  have B0 : Hid (Below w.heap.size w (w.alloc (.cells #[.slice a' ds.length c'] 62))) := (Below.refl _ _).alloc (Nat.le_refl _) _
  clear hd hr hb ht hy
  by_cases hbig : 4096 < l.length
  case pos =>
    have hz := HY.out
    unfold varsFit at hz
    rw [if_pos hbig] at hz
    simp only [Prod.mk.injEq] at hz
    obtain ⟨rfl, rfl⟩ := hz
    go_enter Try.func23, Try.ntmps23
    go_wp2_with fail
    go_ret2
    exact ⟨rfl, B0.out⟩
  go_enter Try.func23, Try.ntmps23
  go_wp2_with fail
  refine (spec_doc a' c' ds _ (K1.out _ B0.out) HB.out.1 HB.out.2).mono ?_
  rintro e w1 ⟨rfl, hb1⟩
  have z1 : w.heap.size + 1 ≤ w1.heap.size := by have := hb1.size; simpa using this
  have Q1 : Hid (Below w.heap.size w w1) := B0.out.trans (hb1.mono (by simp))
  have A0 : Hid (w1.heap[w.heap.size]? = some (.cells #[.slice a' ds.length c'] 62 (0, 0))) := (hb1.block w.heap.size (by simp)).trans (heap_alloc_new _ _)
  clear hb1
  cases hdb : docB ds with
  | false =>
    have hz := HY.out
    unfold varsFit at hz
    rw [if_neg hbig, hdb] at hz
    simp only [Bool.false_and, Bool.not_false, if_true, Prod.mk.injEq] at hz
    obtain ⟨rfl, rfl⟩ := hz
    go_wp2_with fail
    go_ret2
    exact ⟨rfl, Q1.out⟩
  | true =>
  go_wp2_with fail
  refine (spec_binds a c l _ (K2.out _ Q1.out) hl HT.out).mono ?_
  rintro e w2 ⟨rfl, hb2⟩
  have Q2 : Hid (Below w.heap.size w w2) := Q1.out.trans (hb2.mono (by omega))
  have z2 := hb2.size
  have k20 := row_cell ((hb2.block w.heap.size (by omega)).trans A0.out) 0
  clear hb2
  cases hbb : bindB l with
  | false =>
    have hz := HY.out
    unfold varsFit at hz
    rw [if_neg hbig, hdb, hbb] at hz
    simp only [Bool.and_false, Bool.not_false, if_true, Prod.mk.injEq] at hz
    obtain ⟨rfl, rfl⟩ := hz
    go_wp2_with fail
    go_ret2
    exact ⟨rfl, Q2.out⟩
  | true =>
  have hz := HY.out
  unfold varsFit at hz
  rw [if_neg hbig, hdb, hbb] at hz
  simp only [Bool.and_self, Bool.not_true, Bool.false_eq_true, if_false, Prod.mk.injEq] at hz
  obtain ⟨hx, rfl⟩ := hz
  have HX : Hid (st (fitD l ds) 0 = x) := hx
  clear HY hx
  go_wp2_with fail
  refine (spec_fits a' c' ds a c l _ (K1.out _ Q2.out) HB.out (K2.out _ Q2.out) hl).mono ?_
  rintro e w3 ⟨rfl, hb3⟩
  have Q3 : Hid (Below w.heap.size w w3) := Q2.out.trans (hb3.mono (by omega))
  clear hb3
  go_wp2_with fail
  go_ret2
  exact ⟨by rw [HX.out]; rfl, Q3.out⟩
end Go.Proofs.Ytdhgojeanebhoaa
