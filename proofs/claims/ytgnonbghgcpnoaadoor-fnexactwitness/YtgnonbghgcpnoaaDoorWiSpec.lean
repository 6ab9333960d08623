/- The specification's Witness and RealTime. -/
import Derived.Test.YtgnonbghgcpnoaaDoorWiSpecW
namespace Go.Proofs.YtgnonbghgcpnoaaDoor
open Go.ChangeShapes Go.WideShapes Go.ChangeAt Go.RowKit
set_option linter.unusedVariables false

set_option maxHeartbeats 4000000 in
theorem spec_wit (a : Option Addr) (c : Nat) (l : List Dn) (w : World) (hr : DnRow 0 w.heap.size w a l) (hl : l.length ≤ 1048576) :
    Calls Tryd.prog 15 #[.slice a l.length c] w fun e w' => ∃ a' c', e = .returned (.tuple #[.slice a' (witR l).length c', .int .i64 (hisC l)]) ∧ NuRow w.heap.size w'.heap.size w' a' (witR l) ∧ Below w.heap.size w w' := by
  have HR : Hid (∀ W0, Below w.heap.size w W0 → DnRow 0 W0.heap.size W0 a l) := fun W0 hB => hr.up hB
  clear hr
  by_cases h1 : 4096 < l.length
  · have HC : Hid (2 = hisC l) := (hisC_long h1).symm
    have HE : Hid (witR l = []) := witR_not (by rw [← HC.out]; decide)
    go_enter Tryd.func15, Tryd.ntmps15
    go_wp2_with fail
    go_ret2
    refine ⟨_, _, ret_nk (by rw [HE.out]; rfl) HC.out, .inl HE.out, ?_⟩
    first | exact Below.refl _ _ | exact (Below.refl _ _).alloc (Nat.le_refl _) _
  go_enter Tryd.func15, Tryd.ntmps15
  go_wp2_with fail
  refine (spec_his a c l _ (HR.out _ (Below.refl _ _)) hl).mono ?_
  rintro e w1 ⟨rfl, hb1⟩
  have Q1 : Hid (Below w.heap.size w w1) := hb1
  have z1 := hb1.size
  clear hb1
  cases hh : hisB l
  · have HC : Hid (1 = hisC l) := (hisC_bad hh h1).symm
    have HE : Hid (witR l = []) := witR_not (by rw [← HC.out]; decide)
    clear hh
    go_wp2_with fail
    go_ret2
    refine ⟨_, _, ret_nk (by rw [HE.out]; rfl) HC.out, .inl HE.out, ?_⟩
    first | exact Q1.out | exact Q1.out.alloc z1 _
  have HC : Hid (0 = hisC l) := (hisC_ok hh).symm
  have HE : Hid (witR l = witP l) := witR_ok (hisC_ok hh)
  have h60 := his_len hh
  clear hh
  go_wp2_with fail
  refine (spec_wi a c l _ (HR.out _ Q1.out) h60).mono ?_
  rintro e w2 ⟨a2, c2, rfl, o2, hb2⟩
  have O2 : Hid _ := o2
  have Q2 : Hid (Below w.heap.size w w2) := Q1.out.trans (hb2.mono z1)
  clear o2 hb2
  go_wp2_with fail
  go_ret2
  have hv : Value.slice a2 (witP l).length c2 = .slice a2 (witR l).length c2 := by rw [HE.out]
  have hf : NuRow w.heap.size w2.heap.size w2 a2 (witR l) := by rw [HE.out]; exact Row.wide (NuOwn.row O2.out) z1 (Nat.le_refl _)
  first | exact ⟨a2, c2, ret_nk hv HC.out, hf, Q2.out⟩ | exact ⟨a2, ⟨c2, ret_nk hv HC.out⟩, hf, Q2.out⟩
set_option maxHeartbeats 4000000 in
set_option maxRecDepth 20000 in
theorem spec_rea (a : Option Addr) (c : Nat) (l : List Dn) (w : World) (hr : DnRow 0 w.heap.size w a l) (hl : l.length ≤ 60) :
    Calls Tryd.prog 32 #[.slice a l.length c] w fun e w' => e = .returned (.bool (reaP l (witP l))) ∧ Below w.heap.size w w' := by
  have HR : Hid (∀ W0, Below w.heap.size w W0 → DnRow 0 W0.heap.size W0 a l) := fun W0 hB => DnRow.up hr hB
  clear hr
  go_enter Tryd.func32, Tryd.ntmps32
  go_wp2_with fail
  refine (spec_wi a c l _ (HR.out _ (Below.refl _ _)) hl).mono ?_
  rintro e w1 ⟨a1, c1, rfl, n1, hb1⟩
  obtain ⟨ps, hps⟩ : ∃ u, u = witP l := ⟨_, rfl⟩
  have hpl : ps.length ≤ 60 := by rw [hps, witP_len]; have := comP_len l l.length; omega
  have PAT : Hid (∀ k (h : k < ps.length), ∃ p : Nat, ps[k] = (p : Int) ∧ p < l.length) := fun k h => by
    subst hps
    obtain ⟨p, e1, e2, _⟩ := witP_at h
    exact ⟨p, e1, e2⟩
  rw [← hps] at n1
  have HPS : Hid (ps = witP l) := hps
  have N1 : Hid (∀ W, Below w1.heap.size w1 W → NuRow 0 W.heap.size W a1 ps ∧ Below w.heap.size w W) := fun W h =>
    ⟨Row.up (Row.wide (NuOwn.row n1) (Nat.zero_le _) (Nat.le_refl _)) h, hb1.trans (h.mono hb1.size)⟩
  rw [← hps]
  clear hb1 n1 hps
  go_wp2_with fail
  go_loopw [4, 5] (fun vi vj w' => ∃ (i : Nat), i ≤ ps.length ∧ vi = .int .i64 i ∧ Hid (Below w1.heap.size w1 w') ∧ Hid (∀ k, k < ps.length → ∀ u, u < k → u < i → (gD l (ps.getD u 0)).since ≤ ps.getD k 0)) (fun vi _ _ => ps.length - (intOf vi).toNat)
  case atStart => exact ⟨0, by omega, rfl, Below.refl _ _, fun k _ u _ h => by omega⟩
  case round =>
    obtain ⟨i, hi, rfl, HB, HA⟩ := hrel
    obtain ⟨wo, rfl⟩ : ∃ x, x = wr := ⟨_, rfl⟩
    by_cases hlt : i < ps.length
    · obtain ⟨p, hp, hpl2⟩ := PAT.out i hlt
      obtain ⟨g0, o0, a3, c3, b3, e3, ha0, _, hbl, d0, d1, d2, d3x, d4, d5, d6, d7, r1, r2⟩ := DnRow.cells (HR.out _ (N1.out _ HB.out).2) p hpl2
      subst ha0
      obtain ⟨si, hsi⟩ : ∃ x, x = l[p].since := ⟨_, rfl⟩
      have HSI : Hid ((gD l (ps.getD i 0)).since = si) := by
        rw [Hid, List.getD_eq_getElem?_getD, List.getElem?_eq_getElem hlt, Option.getD_some, hp, gD_at hpl2, hsi]
      rw [← hsi] at d3x
      clear r1 r2 d0 d1 d2 d4 d5 d6 d7 hsi hbl
      obtain ⟨b1, o1, ha1, _, hb1, x1⟩ := NuRow.cells (N1.out _ HB.out).1 i hlt
      subst ha1
      rw [hp] at x1
      clear hp hb1
      have XJ : Hid (∀ j (h : j < ps.length), wo.cell? ⟨b1, o1 + j, none⟩ = some (.int .i64 ps[j])) := fun j h => by
        obtain ⟨b2, o2, e2, _, _, x2⟩ := NuRow.cells (N1.out _ HB.out).1 j h
        simp only [Option.some.injEq, Addr.mk.injEq, and_true] at e2
        rw [e2.1, e2.2]; exact x2
      have hpi : (p : Int) < (l.length : Int) := by omega
      have hii : (i : Int) < (ps.length : Int) := by omega
      clear hpl2
      go_wp2_with fail
      go_loopw [5] (fun vj w' => ∃ (j n : Nat), vj = .int .i64 j ∧ i + 1 ≤ j ∧ j ≤ ps.length ∧ w' = wo.drewN n ∧ Hid (∀ k, i < k → k < j → si ≤ ps.getD k 0)) (fun vj _ => ps.length - (intOf vj).toNat)
      case atStart => exact ⟨i + 1, 0, by first | rfl | go_num | simp, Nat.le_refl _, by omega, rfl, fun k h1 h2 => by omega⟩
      case round =>
        obtain ⟨j, n, rfl, hj1, hj2, rfl, HK⟩ := hrel
        obtain ⟨w2, hw2⟩ : ∃ x, x = wo.drewN n := ⟨_, rfl⟩
        have H2 : Hid (w2 = wo.drewN n) := hw2
        have H2B : Hid (∀ m, Below w1.heap.size w1 (w2.drewN m)) := fun m => by rw [hw2]; exact nu_drewN (nu_drewN HB.out n) m
        by_cases hjl : j < ps.length
        · obtain ⟨q, hq, hql⟩ := PAT.out j hjl
          have y1 : w2.cell? ⟨b1, o1 + i, none⟩ = some (.int .i64 p) := by rw [hw2]; exact x1
          have y2 : w2.cell? ⟨b1, o1 + j, none⟩ = some (.int .i64 q) := by rw [hw2, ← hq]; exact XJ.out j hjl
          have y3 : w2.cell? ⟨g0, o0 + p * 8 + 3, none⟩ = some (.int .i64 si) := by rw [hw2]; exact d3x
          have HQ : Hid (ps.getD j 0 = (q : Int)) := by rw [Hid, List.getD_eq_getElem?_getD, List.getElem?_eq_getElem hjl, Option.getD_some, hq]
          have hjj : (j : Int) < (ps.length : Int) := by omega
          rw [← hw2]
          clear hw2 hq
          by_cases hs : (q : Int) < si
          · have HF : Hid (false = reaP l (witP l)) := by
              rw [Hid, ← HPS.out, reaP, decide_eq_false]
              intro hall
              have := hall j hjl i (by omega)
              rw [HSI.out, HQ.out] at this
              omega
            go_wp2_with fail
            go_quiet (fail)
            go_wp2_with fail
            go_ret
            exact ⟨ret_b HF.out, (N1.out _ (H2B.out _)).2⟩
          · have hs' : decide ((q : Int) < si) = false := decide_eq_false hs
            have HK2 : Hid (∀ k, i < k → k < j + 1 → si ≤ ps.getD k 0) := fun k h1 h2 => by
              by_cases e : k = j
              · subst e; rw [HQ.out]; omega
              · exact HK.out k h1 (by omega)
            clear hs
            go_wp2_with fail
            go_quiet (fail)
            go_wp2_with fail
            exact ⟨⟨j + 1, _, by go_num, by omega, by omega, by rw [H2.out, World.drewN_drewN], HK2⟩, by simp [intOf]; omega⟩
        · obtain rfl : j = ps.length := by omega
          have HA2 : Hid (∀ k, k < ps.length → ∀ u, u < k → u < i + 1 → (gD l (ps.getD u 0)).since ≤ ps.getD k 0) := fun k hk u hu hu2 => by
            by_cases e : u = i
            · subst e; rw [HSI.out]; exact HK.out k hu hk
            · exact HA.out k hk u hu (by omega)
          have HB2 : Hid (Below w1.heap.size w1 w2) := H2B.out 0
          rw [← hw2]
          clear hw2 d3x x1
          go_wp2_with fail
          exact ⟨⟨i + 1, by omega, by go_num, HB2.out, HA2.out⟩, by simp [intOf]; omega⟩
    · obtain rfl : i = ps.length := by omega
      have HT : Hid (true = reaP l (witP l)) := by
        rw [Hid, ← HPS.out, reaP, decide_eq_true]
        exact fun k hk u hu => HA.out k hk u hu (by omega)
      have HBE : Hid (Below w.heap.size w wo) := (N1.out _ HB.out).2
      go_wp2_with fail
      go_ret
      exact ⟨ret_b HT.out, HBE.out⟩
theorem ret_bi9 {a b : Bool} {c d : Int} (h1 : a = b) (h2 : c = d) : Ending.returned (.tuple #[.bool a, .int .i64 c]) = .returned (.tuple #[.bool b, .int .i64 d]) := by rw [h1, h2]
set_option maxHeartbeats 4000000 in
theorem spec_real (a : Option Addr) (c : Nat) (l : List Dn) (w : World) (hr : DnRow 0 w.heap.size w a l) (hl : l.length ≤ 1048576) :
    Calls Tryd.prog 17 #[.slice a l.length c] w fun e w' => e = .returned (.tuple #[.bool (reaB l), .int .i64 (hisC l)]) ∧ Below w.heap.size w w' := by
  have HR : Hid (∀ W0, Below w.heap.size w W0 → DnRow 0 W0.heap.size W0 a l) := fun W0 hB => hr.up hB
  clear hr
  by_cases h1 : 4096 < l.length
  · have HC : Hid (2 = hisC l) := (hisC_long h1).symm
    have HE : Hid (false = reaB l) := by rw [Hid, reaB, if_neg (by rw [← HC.out]; decide)]
    go_enter Tryd.func17, Tryd.ntmps17
    go_wp2_with fail
    go_ret2
    exact ⟨ret_bi9 HE.out HC.out, Below.refl _ _⟩
  go_enter Tryd.func17, Tryd.ntmps17
  go_wp2_with fail
  refine (spec_his a c l _ (HR.out _ (Below.refl _ _)) hl).mono ?_
  rintro e w1 ⟨rfl, hb1⟩
  have Q1 : Hid (Below w.heap.size w w1) := hb1
  have z1 := hb1.size
  clear hb1
  cases hh : hisB l
  · have HC : Hid (1 = hisC l) := (hisC_bad hh h1).symm
    have HE : Hid (false = reaB l) := by rw [Hid, reaB, if_neg (by rw [← HC.out]; decide)]
    clear hh
    go_wp2_with fail
    go_ret2
    exact ⟨ret_bi9 HE.out HC.out, Q1.out⟩
  have HC : Hid (0 = hisC l) := (hisC_ok hh).symm
  have HE : Hid (reaP l (witP l) = reaB l) := by rw [Hid, reaB, if_pos HC.out.symm]
  have h60 := his_len hh
  clear hh
  go_wp2_with fail
  refine (spec_rea a c l _ (HR.out _ Q1.out) h60).mono ?_
  rintro e w2 ⟨rfl, hb2⟩
  have Q2 : Hid (Below w.heap.size w w2) := Q1.out.trans (hb2.mono z1)
  clear hb2
  go_wp2_with fail
  go_ret2
  exact ⟨ret_bi9 HE.out HC.out, Q2.out⟩
end Go.Proofs.YtgnonbghgcpnoaaDoor
