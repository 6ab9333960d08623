/- The law's marks written into a schema that the call owns, and held. -/
import Derived.Test.YtnfoinmccigdfaaGreatDoorSchOwn
namespace Go.Proofs.YtnfoinmccigdfaaGreatDoor.G
open Go.ChangeShapes Go.WideShapes Go.ChangeAt Go.RowKit
set_option linter.unusedVariables false

set_option maxHeartbeats 4000000 in
set_option maxRecDepth 40000 in
theorem mark_Ags (a : Option Addr) (c : Nat) (l : List Ag) (bs : List Nat) (K : Nat) (kk : Int) (w : World) (hkk : kk = (K : Int)) (ho : AgOwn w a l bs) (hn : bs.Nodup) (hk : 0 < K) (hb : ((K + cnt cAg l : Nat) : Int) ≤ 4611686018427387904) (hl : (l.length : Int) ≤ 4611686018427387904) :
    Calls Tryz.prog 56 #[.slice a l.length c, .int .i64 kk] w fun e w' => ∃ r : Int, e = .returned (.int .i64 r) ∧ r = ((K + cnt cAg l : Nat) : Int) ∧ AgOwn w' a (mks fAg cAg K l) bs ∧ Kept bs w w' := by
  have hM := mks_length fAg cAg K l
  have HO : Hid (AgOwn w a (mix (mks fAg cAg K l) l 0) bs) := by rw [mix_zero]; exact ho
  clear ho
  go_enter Tryz.func56, Tryz.ntmps56
  go_wp2_with fail
  go_loopw [1, 5] (fun s i w' => ∃ (n q : Nat), n ≤ l.length ∧ i = .int .i64 n ∧ s = .int .i64 (q : Int) ∧ Hid (q = K + cnt cAg (l.take n)) ∧ 0 < q ∧ (q : Int) ≤ 4611686018427387904 ∧ Hid (AgOwn w' a (mix (mks fAg cAg K l) l n) bs) ∧ Hid (Kept bs w w')) (fun _ i _ => l.length - (intOf i).toNat)
  case atStart => exact ⟨0, K, by omega, rfl, by rw [hkk], by simp [Hid, cnt], hk, by omega, HO, Kept.refl _ _⟩
  case round =>
    obtain ⟨n, q, hn1, rfl, rfl, HQ, hq0, hq1, HW, HK⟩ := hrel
    by_cases hlt : n < l.length
    case neg =>
      have e : n = l.length := by omega
      have HN : Hid ((q : Int) = ((K + cnt cAg l : Nat) : Int) ∧ AgOwn wr a (mks fAg cAg K l) bs) := by
        have h1 := HQ.out
        have h2 := HW.out
        rw [e, List.take_length] at h1
        rw [e, mix_all hM] at h2
        exact ⟨by omega, h2⟩
      go_wp2_with fail
      go_ret
      exact ⟨_, rfl, HN.out.1, HN.out.2, HK.out⟩
    have hq2 := HQ.out
    have hc1 := cnt_take cAg hlt
    have hc2 := cnt_le cAg l (n + 1)
    have hcx : cAg l[n] = 2 := rfl
    have HQ2 : Hid (q + (2) = K + cnt cAg (l.take (n + 1))) := by unfold Hid; omega
    have hq3 : (q : Int) + 2 ≤ 4611686018427387904 := by omega
    have HB0 : Hid _ := hb
    clear hb
    have HX : Hid ((mks fAg cAg K l)[n]? = some (fAg q l[n])) := by rw [Hid, mks_get _ _ _ _ _ hlt, hq2]
    rcases HW.out with ⟨h0, _⟩ | ⟨b, cs, rfl, hbs, hh, hcs, hel⟩
    · have h9 := congrArg List.length h0
      rw [mix_len hM hn1] at h9
      simp only [List.length_nil] at h9
      omega
    rw [mix_len hM hn1] at hcs
    have hbl : b < wr.heap.size := (Array.getElem?_eq_some_iff.1 hh).1
    subst hbs
    have HL : Hid _ := hel
    have HM : Hid _ := mks_length fAg cAg K l
    obtain ⟨w0, rfl⟩ : ∃ x, x = wr := ⟨_, rfl⟩
    clear hel hq2 hc1 hc2 hcx HW HQ hM
    go_wp2_with fail
    refine (mark_text_int _ _ (by omega) (by omega)).mono ?_
    rintro e w1 ⟨rfl, hb1⟩
    have H1 : Hid (w1.heap[b]? = some (.cells cs 79 (0, 0))) := (hb1.block _ hbl).trans hh
    obtain ⟨u0, hv0⟩ : ∃ v, w1.cell? ⟨b, n * 2, none⟩ = some v := ⟨_, (row_cell H1.out _).trans (Array.getElem?_eq_getElem (by first | omega | (simp; omega)))⟩
    have hf0 := row_frozen H1.out (n * 2)
    obtain ⟨u1, hv1⟩ : ∃ v, w1.cell? ⟨b, n * 2 + 1, none⟩ = some v := ⟨_, (row_cell H1.out _).trans (Array.getElem?_eq_getElem (by first | omega | (simp; omega)))⟩
    have hf1 := row_frozen H1.out (n * 2 + 1)
    have HK1 : Hid (Kept [b] w w1) := HK.out.trans (Kept.of hb1)
    clear hb1 hh
    go_wp2_with fail
    refine ⟨⟨n + 1, q + 2, by omega, by go_num, by go_num, HQ2, by omega, by omega, ?_, ?_⟩, by simp [intOf]; omega⟩
    · exact AgOwn.step HM.out hlt HX.out hcs HL.out (row_set (row_set H1.out _ _) _ _) (val_s rfl) (val_b (m3_of (by omega)))
    · exact (HK1.out.set (p := ⟨b, n * 2, none⟩) (by simp) _).set (p := ⟨b, n * 2 + 1, none⟩) (by simp) _

set_option maxHeartbeats 4000000 in
set_option maxRecDepth 40000 in
theorem mark_Fds (a : Option Addr) (c : Nat) (l : List Fd) (bs : List Nat) (K : Nat) (kk : Int) (w : World) (hkk : kk = (K : Int)) (ho : FdOwn w a l bs) (hn : bs.Nodup) (hk : 0 < K) (hb : ((K + cnt cFd l : Nat) : Int) ≤ 4611686018427387904) (hl : (l.length : Int) ≤ 4611686018427387904) :
    Calls Tryz.prog 35 #[.slice a l.length c, .int .i64 kk] w fun e w' => ∃ r : Int, e = .returned (.int .i64 r) ∧ r = ((K + cnt cFd l : Nat) : Int) ∧ FdOwn w' a (mks fFd cFd K l) bs ∧ Kept bs w w' := by
  have hM := mks_length fFd cFd K l
  have HO : Hid (FdOwn w a (mix (mks fFd cFd K l) l 0) bs) := by rw [mix_zero]; exact ho
  clear ho
  go_enter Tryz.func35, Tryz.ntmps35
  go_wp2_with fail
  go_loopw [1, 5] (fun s i w' => ∃ (n q : Nat), n ≤ l.length ∧ i = .int .i64 n ∧ s = .int .i64 (q : Int) ∧ Hid (q = K + cnt cFd (l.take n)) ∧ 0 < q ∧ (q : Int) ≤ 4611686018427387904 ∧ Hid (FdOwn w' a (mix (mks fFd cFd K l) l n) bs) ∧ Hid (Kept bs w w')) (fun _ i _ => l.length - (intOf i).toNat)
  case atStart => exact ⟨0, K, by omega, rfl, by rw [hkk], by simp [Hid, cnt], hk, by omega, HO, Kept.refl _ _⟩
  case round =>
    obtain ⟨n, q, hn1, rfl, rfl, HQ, hq0, hq1, HW, HK⟩ := hrel
    by_cases hlt : n < l.length
    case neg =>
      have e : n = l.length := by omega
      have HN : Hid ((q : Int) = ((K + cnt cFd l : Nat) : Int) ∧ FdOwn wr a (mks fFd cFd K l) bs) := by
        have h1 := HQ.out
        have h2 := HW.out
        rw [e, List.take_length] at h1
        rw [e, mix_all hM] at h2
        exact ⟨by omega, h2⟩
      go_wp2_with fail
      go_ret
      exact ⟨_, rfl, HN.out.1, HN.out.2, HK.out⟩
    have hq2 := HQ.out
    have hc1 := cnt_take cFd hlt
    have hc2 := cnt_le cFd l (n + 1)
    have hcx : cFd l[n] = 4 + cnt cAg l[n].args := rfl
    have HQ2 : Hid (q + (4 + cnt cAg l[n].args) = K + cnt cFd (l.take (n + 1))) := by unfold Hid; omega
    have hq3 : (q : Int) + ((4 + cnt cAg l[n].args : Nat) : Int) ≤ 4611686018427387904 := by omega
    have HB0 : Hid _ := hb
    clear hb
    have HX : Hid ((mks fFd cFd K l)[n]? = some (fFd q l[n])) := by rw [Hid, mks_get _ _ _ _ _ hlt, hq2]
    rcases HW.out with ⟨h0, _⟩ | ⟨b, cs, subs, rfl, hbs, hsl, hh, hcs, hel⟩
    · have h9 := congrArg List.length h0
      rw [mix_len hM hn1] at h9
      simp only [List.length_nil] at h9
      omega
    rw [mix_len hM hn1] at hcs
    have hbl : b < wr.heap.size := (Array.getElem?_eq_some_iff.1 hh).1
    subst hbs
    have HL : Hid _ := hel
    have HM : Hid _ := mks_length fFd cFd K l
    obtain ⟨w0, rfl⟩ : ∃ x, x = wr := ⟨_, rfl⟩
    have HOL : Hid (∀ g ∈ (b :: subs.flatten), g < w0.heap.size) := FdOwn.lt HW.out
    clear HW
    rw [mix_len hM hn1] at hsl
    have hss : subs[n]? = some subs[n] := List.getElem?_eq_getElem (by omega)
    obtain ⟨_, a3, c3, hsc, hso⟩ := hel n l[n] subs[n] (mix_at hM hlt) hss
    have HSO : Hid (AgOwn w0 a3 l[n].args subs[n]) := hso
    have HND : Hid ((b :: subs.flatten).Nodup) := hn
    have HLT : Hid (∀ g ∈ subs[n], g < w0.heap.size) := AgOwn.lt HSO.out
    have HFT : Hid (∀ g ∈ subs.flatten, g < w0.heap.size) := fun g hg => HOL.out g (List.mem_cons_of_mem _ hg)
    have HBN : Hid (∀ g, g ∈ subs[n] → b ≠ g) := fun g hg e => (List.nodup_cons.1 HND.out).1 (e ▸ flat_mem hss hg)
    have HBF : Hid (∀ g, g ∈ subs.flatten → b ≠ g) := fun g hg e => (List.nodup_cons.1 HND.out).1 (e ▸ hg)
    have HSN : Hid (subs[n].Nodup) := flat_nodup (List.nodup_cons.1 HND.out).2 hss
    have hlen3 : (l[n].args.length : Int) ≤ 4611686018427387904 := by have := len_cnt_Ag l[n].args; omega
    have HSS : Hid _ := hss
    clear hso hn
    clear hel hq2 hc1 hc2 hcx HQ
    go_wp2_with fail
    refine (mark_text_int _ _ (by omega) (by omega)).mono ?_
    rintro e w1 ⟨rfl, hb1⟩
    have HB1 : Hid (Below w0.heap.size w0 w1) := hb1
    have H1 : Hid (w1.heap[b]? = some (.cells cs 53 (0, 0))) := (hb1.block _ hbl).trans hh
    have z1 := hb1.size
    obtain ⟨u0, hv0⟩ : ∃ v, w1.cell? ⟨b, n * 5, none⟩ = some v := ⟨_, (row_cell H1.out _).trans (Array.getElem?_eq_getElem (by first | omega | (simp; omega)))⟩
    have hf0 := row_frozen H1.out (n * 5)
    have hsl1 : w1.cell? ⟨b, n * 5 + 1, none⟩ = some (.slice a3 l[n].args.length c3) := (row_cell H1.out _).trans hsc
    have HK1 : Hid (Kept (b :: subs.flatten) w w1) := HK.out.trans (Kept.of hb1)
    clear hb1 hh
    go_wp2_with fail
    refine Calls.mono (mark_Ags a3 c3 l[n].args subs[n] (q + 1) _ _ (by omega) (AgOwn.same HSO.out ?own) HSN.out (by omega) (by omega) hlen3) ?_
    case own =>
      intro g hg
      have := HBN.out g hg
      rw [heap_set _ _ _ _ _ (by omega)]
      exact HB1.out.block g (HLT.out g hg)
    rintro e w2 ⟨r2, rfl, hr2, own2, kept2⟩
    have OW2 : Hid (AgOwn w2 a3 (mks fAg cAg (q + 1) l[n].args) subs[n]) := own2
    have H2 : Hid (w2.heap[b]? = _) := (kept2.block b (by simp; omega) (fun h => HBN.out b h rfl)).trans (row_set H1.out (n * 5) (.string (mkT q)))
    have HK2 : Hid (Kept (b :: subs.flatten) w w2) := (HK1.out.set (p := ⟨b, n * 5, none⟩) (by simp) _).trans (kept2.mono (fun g hg => List.mem_cons_of_mem _ (flat_mem HSS.out hg)))
    have z2 := kept2.size
    have KS2 : Hid (∀ g, g ∈ subs.flatten → ¬ g ∈ subs[n] → w2.heap[g]? = w0.heap[g]?) := fun g hg hns => by
      have h1 := HBF.out g hg
      have h2 := HFT.out g hg
      refine (kept2.block g (by simp; omega) hns).trans ?_
      rw [heap_set _ _ _ _ _ (by omega)]
      exact HB1.out.block g h2
    have hbl2 : b < w2.heap.size := (Array.getElem?_eq_some_iff.1 H2.out).1
    clear own2 kept2
    go_wp2_with fail
    refine (mark_text_int _ _ (by omega) (by omega)).mono ?_
    rintro e w3 ⟨rfl, hb3⟩
    have H3 : Hid (w3.heap[b]? = _) := (hb3.block _ hbl2).trans H2.out
    have OW3 : Hid (AgOwn w3 a3 (mks fAg cAg (q + 1) l[n].args) subs[n]) := AgOwn.same OW2.out fun g hg => hb3.block g (AgOwn.lt OW2.out g hg)
    have HK3 : Hid (Kept (b :: subs.flatten) w w3) := HK2.out.trans (Kept.of hb3)
    have KS3 : Hid (∀ g, g ∈ subs.flatten → ¬ g ∈ subs[n] → w3.heap[g]? = w0.heap[g]?) := fun g hg hns => by
      have h2 := HFT.out g hg
      exact (hb3.block g (by simp at z2; omega)).trans (KS2.out g hg hns)
    obtain ⟨u2, hv2⟩ : ∃ v, w3.cell? ⟨b, n * 5 + 2, none⟩ = some v := ⟨_, (row_cell H3.out _).trans (Array.getElem?_eq_getElem (by first | omega | (simp; omega)))⟩
    have hf2 := row_frozen H3.out (n * 5 + 2)
    obtain ⟨u3, hv3⟩ : ∃ v, w3.cell? ⟨b, n * 5 + 3, none⟩ = some v := ⟨_, (row_cell H3.out _).trans (Array.getElem?_eq_getElem (by first | omega | (simp; omega)))⟩
    have hf3 := row_frozen H3.out (n * 5 + 3)
    obtain ⟨u4, hv4⟩ : ∃ v, w3.cell? ⟨b, n * 5 + 4, none⟩ = some v := ⟨_, (row_cell H3.out _).trans (Array.getElem?_eq_getElem (by first | omega | (simp; omega)))⟩
    have hf4 := row_frozen H3.out (n * 5 + 4)
    clear hb3
    go_wp2_with fail
    refine ⟨⟨n + 1, q + (4 + cnt cAg l[n].args), by omega, by go_num, by congr 1; omega, HQ2, by omega, by omega, ?_, ?_⟩, by simp [intOf]; omega⟩
    · refine FdOwn.step (a3 := a3) (c3 := c3) HM.out hlt HX.out HND.out hsl hcs HSS.out HL.out (row_set (row_set (row_set H3.out _ _) _ _) _ _) ?_ (val_s rfl) (val_s ?_) (val_b (m3_of ?_)) (val_b (m3_of ?_)) ?_ ?_
      · intro g hg hns
        have h1 := HBF.out g hg
        repeat rw [heap_set _ _ _ _ _ (by omega)]
        exact KS3.out g hg hns
      · congr 1
      · omega
      · omega
      · simp only [fFd, mks_length]; exact hsc
      · refine AgOwn.same OW3.out fun g hg => ?_
        have h1 := HBN.out g hg
        repeat rw [heap_set _ _ _ _ _ (by omega)]
    · exact ((HK3.out.set (p := ⟨b, n * 5 + 2, none⟩) (by simp) _).set (p := ⟨b, n * 5 + 3, none⟩) (by simp) _).set (p := ⟨b, n * 5 + 4, none⟩) (by simp) _

set_option maxHeartbeats 4000000 in
set_option maxRecDepth 40000 in
theorem mark_Tds (a : Option Addr) (c : Nat) (l : List Td) (bs : List Nat) (K : Nat) (kk : Int) (w : World) (hkk : kk = (K : Int)) (ho : TdOwn w a l bs) (hn : bs.Nodup) (hk : 0 < K) (hb : ((K + cnt cTd l : Nat) : Int) ≤ 4611686018427387904) (hl : (l.length : Int) ≤ 4611686018427387904) :
    Calls Tryz.prog 16 #[.slice a l.length c, .int .i64 kk] w fun e w' => ∃ r : Int, e = .returned (.int .i64 r) ∧ r = ((K + cnt cTd l : Nat) : Int) ∧ TdOwn w' a (mks fTd cTd K l) bs ∧ Kept bs w w' := by
  have hM := mks_length fTd cTd K l
  have HO : Hid (TdOwn w a (mix (mks fTd cTd K l) l 0) bs) := by rw [mix_zero]; exact ho
  clear ho
  go_enter Tryz.func16, Tryz.ntmps16
  go_wp2_with fail
  go_loopw [1, 5] (fun s i w' => ∃ (n q : Nat), n ≤ l.length ∧ i = .int .i64 n ∧ s = .int .i64 (q : Int) ∧ Hid (q = K + cnt cTd (l.take n)) ∧ 0 < q ∧ (q : Int) ≤ 4611686018427387904 ∧ Hid (TdOwn w' a (mix (mks fTd cTd K l) l n) bs) ∧ Hid (Kept bs w w')) (fun _ i _ => l.length - (intOf i).toNat)
  case atStart => exact ⟨0, K, by omega, rfl, by rw [hkk], by simp [Hid, cnt], hk, by omega, HO, Kept.refl _ _⟩
  case round =>
    obtain ⟨n, q, hn1, rfl, rfl, HQ, hq0, hq1, HW, HK⟩ := hrel
    by_cases hlt : n < l.length
    case neg =>
      have e : n = l.length := by omega
      have HN : Hid ((q : Int) = ((K + cnt cTd l : Nat) : Int) ∧ TdOwn wr a (mks fTd cTd K l) bs) := by
        have h1 := HQ.out
        have h2 := HW.out
        rw [e, List.take_length] at h1
        rw [e, mix_all hM] at h2
        exact ⟨by omega, h2⟩
      go_wp2_with fail
      go_ret
      exact ⟨_, rfl, HN.out.1, HN.out.2, HK.out⟩
    have hq2 := HQ.out
    have hc1 := cnt_take cTd hlt
    have hc2 := cnt_le cTd l (n + 1)
    have hcx : cTd l[n] = 1 + cnt cFd l[n].fs := rfl
    have HQ2 : Hid (q + (1 + cnt cFd l[n].fs) = K + cnt cTd (l.take (n + 1))) := by unfold Hid; omega
    have hq3 : (q : Int) + ((1 + cnt cFd l[n].fs : Nat) : Int) ≤ 4611686018427387904 := by omega
    have HB0 : Hid _ := hb
    clear hb
    have HX : Hid ((mks fTd cTd K l)[n]? = some (fTd q l[n])) := by rw [Hid, mks_get _ _ _ _ _ hlt, hq2]
    rcases HW.out with ⟨h0, _⟩ | ⟨b, cs, subs, rfl, hbs, hsl, hh, hcs, hel⟩
    · have h9 := congrArg List.length h0
      rw [mix_len hM hn1] at h9
      simp only [List.length_nil] at h9
      omega
    rw [mix_len hM hn1] at hcs
    have hbl : b < wr.heap.size := (Array.getElem?_eq_some_iff.1 hh).1
    subst hbs
    have HL : Hid _ := hel
    have HM : Hid _ := mks_length fTd cTd K l
    obtain ⟨w0, rfl⟩ : ∃ x, x = wr := ⟨_, rfl⟩
    have HOL : Hid (∀ g ∈ (b :: subs.flatten), g < w0.heap.size) := TdOwn.lt HW.out
    clear HW
    rw [mix_len hM hn1] at hsl
    have hss : subs[n]? = some subs[n] := List.getElem?_eq_getElem (by omega)
    obtain ⟨_, a3, c3, hsc, hso⟩ := hel n l[n] subs[n] (mix_at hM hlt) hss
    have HSO : Hid (FdOwn w0 a3 l[n].fs subs[n]) := hso
    have HND : Hid ((b :: subs.flatten).Nodup) := hn
    have HLT : Hid (∀ g ∈ subs[n], g < w0.heap.size) := FdOwn.lt HSO.out
    have HFT : Hid (∀ g ∈ subs.flatten, g < w0.heap.size) := fun g hg => HOL.out g (List.mem_cons_of_mem _ hg)
    have HBN : Hid (∀ g, g ∈ subs[n] → b ≠ g) := fun g hg e => (List.nodup_cons.1 HND.out).1 (e ▸ flat_mem hss hg)
    have HBF : Hid (∀ g, g ∈ subs.flatten → b ≠ g) := fun g hg e => (List.nodup_cons.1 HND.out).1 (e ▸ hg)
    have HSN : Hid (subs[n].Nodup) := flat_nodup (List.nodup_cons.1 HND.out).2 hss
    have hlen3 : (l[n].fs.length : Int) ≤ 4611686018427387904 := by have := len_cnt_Fd l[n].fs; omega
    have HSS : Hid _ := hss
    clear hso hn
    clear hel hq2 hc1 hc2 hcx HQ
    go_wp2_with fail
    refine (mark_text_int _ _ (by omega) (by omega)).mono ?_
    rintro e w1 ⟨rfl, hb1⟩
    have HB1 : Hid (Below w0.heap.size w0 w1) := hb1
    have H1 : Hid (w1.heap[b]? = some (.cells cs 49 (0, 0))) := (hb1.block _ hbl).trans hh
    have z1 := hb1.size
    obtain ⟨u0, hv0⟩ : ∃ v, w1.cell? ⟨b, n * 2, none⟩ = some v := ⟨_, (row_cell H1.out _).trans (Array.getElem?_eq_getElem (by first | omega | (simp; omega)))⟩
    have hf0 := row_frozen H1.out (n * 2)
    have hsl1 : w1.cell? ⟨b, n * 2 + 1, none⟩ = some (.slice a3 l[n].fs.length c3) := (row_cell H1.out _).trans hsc
    have HK1 : Hid (Kept (b :: subs.flatten) w w1) := HK.out.trans (Kept.of hb1)
    clear hb1 hh
    go_wp2_with fail
    refine Calls.mono (mark_Fds a3 c3 l[n].fs subs[n] (q + 1) _ _ (by omega) (FdOwn.same HSO.out ?own) HSN.out (by omega) (by omega) hlen3) ?_
    case own =>
      intro g hg
      have := HBN.out g hg
      rw [heap_set _ _ _ _ _ (by omega)]
      exact HB1.out.block g (HLT.out g hg)
    rintro e w2 ⟨r2, rfl, hr2, own2, kept2⟩
    have OW2 : Hid (FdOwn w2 a3 (mks fFd cFd (q + 1) l[n].fs) subs[n]) := own2
    have H2 : Hid (w2.heap[b]? = _) := (kept2.block b (by simp; omega) (fun h => HBN.out b h rfl)).trans (row_set H1.out (n * 2) (.string (mkT q)))
    have HK2 : Hid (Kept (b :: subs.flatten) w w2) := (HK1.out.set (p := ⟨b, n * 2, none⟩) (by simp) _).trans (kept2.mono (fun g hg => List.mem_cons_of_mem _ (flat_mem HSS.out hg)))
    have z2 := kept2.size
    have KS2 : Hid (∀ g, g ∈ subs.flatten → ¬ g ∈ subs[n] → w2.heap[g]? = w0.heap[g]?) := fun g hg hns => by
      have h1 := HBF.out g hg
      have h2 := HFT.out g hg
      refine (kept2.block g (by simp; omega) hns).trans ?_
      rw [heap_set _ _ _ _ _ (by omega)]
      exact HB1.out.block g h2
    have hbl2 : b < w2.heap.size := (Array.getElem?_eq_some_iff.1 H2.out).1
    clear own2 kept2
    go_wp2_with fail
    refine ⟨⟨n + 1, q + (1 + cnt cFd l[n].fs), by omega, by go_num, by congr 1; omega, HQ2, by omega, by omega, ?_, HK2⟩, by simp [intOf]; omega⟩
    refine TdOwn.step (a3 := a3) (c3 := c3) HM.out hlt HX.out HND.out hsl hcs HSS.out HL.out H2.out KS2.out (val_s rfl) ?_ OW2.out
    simp only [fTd, mks_length]; exact hsc

set_option maxHeartbeats 1000000 in
theorem mark_top (a : Option Addr) (c : Nat) (l : List Td) (bs : List Nat) (K : Nat) (w : World) (ho : TdOwn w a l bs) (hn : bs.Nodup) (hk : 0 < K) (hb : ((K + cnt cTd l : Nat) : Int) ≤ 4611686018427387904) (hl : (l.length : Int) ≤ 4611686018427387904) :
    Calls Tryz.prog 7 #[.agg #[.slice a l.length c], .int .i64 (K : Int)] w fun e w' => ∃ r : Int, e = .returned (.int .i64 r) ∧ r = ((K + cnt cTd l : Nat) : Int) ∧ TdOwn w' a (mks fTd cTd K l) bs ∧ Kept bs w w' := by
  have HO : Hid _ := ho
  have HN : Hid _ := hn
  clear ho hn
  go_enter Tryz.func7, Tryz.ntmps7
  go_wp2_with fail
  refine Calls.mono (mark_Tds a c l bs K _ _ rfl (TdOwn.same HO.out ?own) HN.out hk hb hl) ?_
  case own =>
    intro g hg
    have := TdOwn.lt HO.out g hg
    exact Below.heap_alloc _ _ _ this
  rintro e w1 ⟨r, rfl, hr, o1, k1⟩
  have P1 : Hid (TdOwn w1 a (mks fTd cTd K l) bs ∧ Kept bs w w1) := ⟨o1, (Kept.of ((Below.refl _ _).alloc (Nat.le_refl _) _)).trans k1⟩
  clear o1 k1
  go_wp2_with fail
  go_ret
  exact ⟨_, rfl, by omega, P1.out.1, P1.out.2⟩

set_option maxHeartbeats 4000000 in
set_option maxRecDepth 40000 in
theorem held_Ags (a : Option Addr) (c : Nat) (l : List Ag) (K : Nat) (kk : Int) (w : World) (hkk : kk = (K : Int)) (hr : AgRow 0 w.heap.size w a (mks fAg cAg K l)) (hk : 0 < K) (hb : ((K + cnt cAg l : Nat) : Int) ≤ 4611686018427387904) (hl : (l.length : Int) ≤ 4611686018427387904) :
    Calls Tryz.prog 57 #[.slice a l.length c, .int .i64 kk] w fun e w' => ∃ r : Int, e = .returned (.int .i64 r) ∧ r = ((K + cnt cAg l : Nat) : Int) ∧ Below w.heap.size w w' := by
  have HR : Hid (AgRow 0 w.heap.size w a (mks fAg cAg K l)) := hr
  clear hr
  go_enter Tryz.func57, Tryz.ntmps57
  go_wp2_with fail
  go_loopw [1, 5] (fun s i w' => ∃ (n q : Nat), n ≤ l.length ∧ i = .int .i64 n ∧ s = .int .i64 (q : Int) ∧ Hid (q = K + cnt cAg (l.take n)) ∧ 0 < q ∧ (q : Int) ≤ 4611686018427387904 ∧ Below w.heap.size w w') (fun _ i _ => l.length - (intOf i).toNat)
  case atStart => exact ⟨0, K, by omega, rfl, by rw [hkk], by simp [Hid, cnt], hk, by omega, Below.refl _ _⟩
  case round =>
    obtain ⟨n, q, hn1, rfl, rfl, HQ, hq0, hq1, hbw⟩ := hrel
    by_cases hlt : n < l.length
    case neg =>
      have e : n = l.length := by omega
      have HN : Hid ((q : Int) = ((K + cnt cAg l : Nat) : Int)) := by
        have h1 := HQ.out
        rw [e, List.take_length] at h1
        unfold Hid; omega
      go_wp2_with fail
      go_ret
      exact ⟨_, rfl, HN.out, hbw⟩
    have hq2 := HQ.out
    have hc1 := cnt_take cAg hlt
    have hc2 := cnt_le cAg l (n + 1)
    have hcx : cAg l[n] = 2 := rfl
    have HQ2 : Hid (q + (2) = K + cnt cAg (l.take (n + 1))) := by unfold Hid; omega
    have hq3 : (q : Int) + 2 ≤ 4611686018427387904 := by omega
    have HB0 : Hid _ := hb
    clear hb
    have hlm : n < (mks fAg cAg K l).length := by rw [mks_length]; exact hlt
    have HX : (mks fAg cAg K l)[n] = fAg q l[n] := by
      have := mks_get fAg cAg K l n hlt
      rw [List.getElem?_eq_getElem hlm] at this
      rw [hq2]; simpa using this
    have hlt' : (n : Int) < l.length := by omega
    obtain ⟨b, o, ha, _, hbl, d0, d1⟩ := AgRow.cells (AgRow.keep HR.out (agree hbw (Nat.le_refl _))) n hlm
    rw [HX] at d0 d1
    simp only [fAg] at d0 d1
    subst ha
    obtain ⟨w0, rfl⟩ : ∃ x, x = wr := ⟨_, rfl⟩
    have hbz := hbw.size
    clear hq2 hc1 hc2 hcx HX HQ
    have m1 := m3_of (z := (q : Int) + 1) (k := q + 1) (by omega)
    go_wp2_with fail
    go_region_with (go_at_call 34; refine (mark_text_int _ _ (by omega) (by omega)).mono ?_; rintro e w1 ⟨rfl, hb1⟩; have t1 := fun j => hb1.cell (p := ⟨b, j, none⟩) (show b < w0.heap.size by omega))
    all_goals
      have q1 : Hid (Below w.heap.size w w1) := hbw.drew.trans (hb1.mono hbz)
      clear hq3
      go_wp2_with fail
      go_roundw
      case rel => exact ⟨n + 1, q + 2, by omega, by go_num, by go_num, HQ2, by omega, by have h1 := HQ2.out; have h2 := HB0.out; have h3 := cnt_le cAg l (n + 1); omega, q1.out⟩
      case measure => simp [intOf]; omega

set_option maxHeartbeats 4000000 in
set_option maxRecDepth 40000 in
theorem held_Fds (a : Option Addr) (c : Nat) (l : List Fd) (K : Nat) (kk : Int) (w : World) (hkk : kk = (K : Int)) (hr : FdRow 0 w.heap.size w a (mks fFd cFd K l)) (hk : 0 < K) (hb : ((K + cnt cFd l : Nat) : Int) ≤ 4611686018427387904) (hl : (l.length : Int) ≤ 4611686018427387904) :
    Calls Tryz.prog 36 #[.slice a l.length c, .int .i64 kk] w fun e w' => ∃ r : Int, e = .returned (.int .i64 r) ∧ r = ((K + cnt cFd l : Nat) : Int) ∧ Below w.heap.size w w' := by
  have HR : Hid (FdRow 0 w.heap.size w a (mks fFd cFd K l)) := hr
  clear hr
  go_enter Tryz.func36, Tryz.ntmps36
  go_wp2_with fail
  go_loopw [1, 5] (fun s i w' => ∃ (n q : Nat), n ≤ l.length ∧ i = .int .i64 n ∧ s = .int .i64 (q : Int) ∧ Hid (q = K + cnt cFd (l.take n)) ∧ 0 < q ∧ (q : Int) ≤ 4611686018427387904 ∧ Below w.heap.size w w') (fun _ i _ => l.length - (intOf i).toNat)
  case atStart => exact ⟨0, K, by omega, rfl, by rw [hkk], by simp [Hid, cnt], hk, by omega, Below.refl _ _⟩
  case round =>
    obtain ⟨n, q, hn1, rfl, rfl, HQ, hq0, hq1, hbw⟩ := hrel
    by_cases hlt : n < l.length
    case neg =>
      have e : n = l.length := by omega
      have HN : Hid ((q : Int) = ((K + cnt cFd l : Nat) : Int)) := by
        have h1 := HQ.out
        rw [e, List.take_length] at h1
        unfold Hid; omega
      go_wp2_with fail
      go_ret
      exact ⟨_, rfl, HN.out, hbw⟩
    have hq2 := HQ.out
    have hc1 := cnt_take cFd hlt
    have hc2 := cnt_le cFd l (n + 1)
    have hcx : cFd l[n] = 4 + cnt cAg l[n].args := rfl
    have HQ2 : Hid (q + (4 + cnt cAg l[n].args) = K + cnt cFd (l.take (n + 1))) := by unfold Hid; omega
    have hq3 : (q : Int) + ((4 + cnt cAg l[n].args : Nat) : Int) ≤ 4611686018427387904 := by omega
    have HB0 : Hid _ := hb
    clear hb
    have hlm : n < (mks fFd cFd K l).length := by rw [mks_length]; exact hlt
    have HX : (mks fFd cFd K l)[n] = fFd q l[n] := by
      have := mks_get fFd cFd K l n hlt
      rw [List.getElem?_eq_getElem hlm] at this
      rw [hq2]; simpa using this
    have hlt' : (n : Int) < l.length := by omega
    obtain ⟨b, o, a3, c3, ha, _, hbl, d0, d1, d2, d3, d4, r3⟩ := FdRow.cells (FdRow.keep HR.out (agree hbw (Nat.le_refl _))) n hlm
    rw [HX] at d0 d1 d2 d3 d4 r3
    simp only [fFd, mks_length] at d0 d1 d2 d3 d4 r3
    subst ha
    obtain ⟨w0, rfl⟩ : ∃ x, x = wr := ⟨_, rfl⟩
    have hbz := hbw.size
    clear hq2 hc1 hc2 hcx HX HQ
    have HD2 : Hid _ := d2
    have HD3 : Hid _ := d3
    have HD4 : Hid _ := d4
    have HR3 : Hid (AgRow 0 w.heap.size w0 a3 (mks fAg cAg (q + 1) l[n].args)) := r3
    have hlen3 : (l[n].args.length : Int) ≤ 4611686018427387904 := by have := len_cnt_Ag l[n].args; omega
    clear r3
    go_wp2_with fail
    go_region_with (go_at_call 34; refine (mark_text_int _ _ (by omega) (by omega)).mono ?_; rintro e w1 ⟨rfl, hb1⟩; have t1 := fun j => hb1.cell (p := ⟨b, j, none⟩) (show b < w0.heap.size by omega))
    all_goals
      have p1 : Hid (Below w0.heap.size w0 w1) := (Below.refl _ _).drew.trans hb1
      have z1 : w0.heap.size ≤ w1.heap.size := hb1.size
      clear hb1
      go_wp2_with fail
      refine Calls.mono (held_Ags a3 c3 l[n].args (q + 1) _ _ (by omega) (AgRow.wide (AgRow.keep HR3.out (agree p1.out hbz)) (Nat.le_refl _) (by omega)) (by omega) (by omega) hlen3) ?_
      rintro e w2 ⟨r2, rfl, hr2, hb2⟩
      have p2 : Hid (Below w0.heap.size w0 w2) := p1.out.trans (hb2.mono z1)
      have z2 : w0.heap.size ≤ w2.heap.size := by have := hb2.size; omega
      have t2 := fun j => p2.out.cell (p := ⟨b, j, none⟩) (show b < w0.heap.size by omega)
      have hr3 : ¬ r2 < 0 := by omega
      obtain ⟨r, rfl⟩ : ∃ r : Nat, r2 = (r : Int) := ⟨_, hr2⟩
      have hre : r = q + 1 + cnt cAg l[n].args := by omega
      have HRE : Hid _ := hre
      rw [show q + 1 + cnt cAg l[n].args = r by omega] at d2
      rw [show q + 2 + cnt cAg l[n].args = r + 1 by omega] at d3
      rw [show q + 3 + cnt cAg l[n].args = r + 2 by omega] at d4
      have m1 := m3_of (z := (r : Int) + 1) (k := r + 1) (by omega)
      have m2 := m3_of (z := (r : Int) + 1 + 1) (k := r + 2) (by omega)
      have hq4 : (r : Int) ≤ 4611686018427387904 := by omega
      clear hq3
      have hr0 : 0 < r := by omega
      clear hb2 t1 hr2 hre
      go_wp2_with fail
      go_region_with (go_at_call 34; refine (mark_text_int _ _ (by omega) (by omega)).mono ?_; rintro e w3 ⟨rfl, hb3⟩; have t3 := fun j => hb3.cell (p := ⟨b, j, none⟩) (show b < w2.heap.size by omega))
      all_goals
        have q3 : Hid (Below w.heap.size w w3) := hbw.trans ((p2.out.drew.trans (hb3.mono z2)).mono hbz)
        go_wp2_with fail
        go_roundw
        case rel => exact ⟨n + 1, q + (4 + cnt cAg l[n].args), by omega, by go_num, by have := HRE.out; congr 1; omega, HQ2, by omega, by have h1 := HQ2.out; have h2 := HB0.out; have h3 := cnt_le cFd l (n + 1); omega, q3.out⟩
        case measure => simp [intOf]; omega

set_option maxHeartbeats 4000000 in
set_option maxRecDepth 40000 in
theorem held_Tds (a : Option Addr) (c : Nat) (l : List Td) (K : Nat) (kk : Int) (w : World) (hkk : kk = (K : Int)) (hr : TdRow 0 w.heap.size w a (mks fTd cTd K l)) (hk : 0 < K) (hb : ((K + cnt cTd l : Nat) : Int) ≤ 4611686018427387904) (hl : (l.length : Int) ≤ 4611686018427387904) :
    Calls Tryz.prog 17 #[.slice a l.length c, .int .i64 kk] w fun e w' => ∃ r : Int, e = .returned (.int .i64 r) ∧ r = ((K + cnt cTd l : Nat) : Int) ∧ Below w.heap.size w w' := by
  have HR : Hid (TdRow 0 w.heap.size w a (mks fTd cTd K l)) := hr
  clear hr
  go_enter Tryz.func17, Tryz.ntmps17
  go_wp2_with fail
  go_loopw [1, 5] (fun s i w' => ∃ (n q : Nat), n ≤ l.length ∧ i = .int .i64 n ∧ s = .int .i64 (q : Int) ∧ Hid (q = K + cnt cTd (l.take n)) ∧ 0 < q ∧ (q : Int) ≤ 4611686018427387904 ∧ Below w.heap.size w w') (fun _ i _ => l.length - (intOf i).toNat)
  case atStart => exact ⟨0, K, by omega, rfl, by rw [hkk], by simp [Hid, cnt], hk, by omega, Below.refl _ _⟩
  case round =>
    obtain ⟨n, q, hn1, rfl, rfl, HQ, hq0, hq1, hbw⟩ := hrel
    by_cases hlt : n < l.length
    case neg =>
      have e : n = l.length := by omega
      have HN : Hid ((q : Int) = ((K + cnt cTd l : Nat) : Int)) := by
        have h1 := HQ.out
        rw [e, List.take_length] at h1
        unfold Hid; omega
      go_wp2_with fail
      go_ret
      exact ⟨_, rfl, HN.out, hbw⟩
    have hq2 := HQ.out
    have hc1 := cnt_take cTd hlt
    have hc2 := cnt_le cTd l (n + 1)
    have hcx : cTd l[n] = 1 + cnt cFd l[n].fs := rfl
    have HQ2 : Hid (q + (1 + cnt cFd l[n].fs) = K + cnt cTd (l.take (n + 1))) := by unfold Hid; omega
    have hq3 : (q : Int) + ((1 + cnt cFd l[n].fs : Nat) : Int) ≤ 4611686018427387904 := by omega
    have HB0 : Hid _ := hb
    clear hb
    have hlm : n < (mks fTd cTd K l).length := by rw [mks_length]; exact hlt
    have HX : (mks fTd cTd K l)[n] = fTd q l[n] := by
      have := mks_get fTd cTd K l n hlt
      rw [List.getElem?_eq_getElem hlm] at this
      rw [hq2]; simpa using this
    have hlt' : (n : Int) < l.length := by omega
    obtain ⟨b, o, a3, c3, ha, _, hbl, d0, d1, r3⟩ := TdRow.cells (TdRow.keep HR.out (agree hbw (Nat.le_refl _))) n hlm
    rw [HX] at d0 d1 r3
    simp only [fTd, mks_length] at d0 d1 r3
    subst ha
    obtain ⟨w0, rfl⟩ : ∃ x, x = wr := ⟨_, rfl⟩
    have hbz := hbw.size
    clear hq2 hc1 hc2 hcx HX HQ
    have HR3 : Hid (FdRow 0 w.heap.size w0 a3 (mks fFd cFd (q + 1) l[n].fs)) := r3
    have hlen3 : (l[n].fs.length : Int) ≤ 4611686018427387904 := by have := len_cnt_Fd l[n].fs; omega
    clear r3
    go_wp2_with fail
    go_region_with (go_at_call 34; refine (mark_text_int _ _ (by omega) (by omega)).mono ?_; rintro e w1 ⟨rfl, hb1⟩; have t1 := fun j => hb1.cell (p := ⟨b, j, none⟩) (show b < w0.heap.size by omega))
    all_goals
      have p1 : Hid (Below w0.heap.size w0 w1) := (Below.refl _ _).drew.trans hb1
      have z1 : w0.heap.size ≤ w1.heap.size := hb1.size
      clear hb1
      go_wp2_with fail
      refine Calls.mono (held_Fds a3 c3 l[n].fs (q + 1) _ _ (by omega) (FdRow.wide (FdRow.keep HR3.out (agree p1.out hbz)) (Nat.le_refl _) (by omega)) (by omega) (by omega) hlen3) ?_
      rintro e w2 ⟨r2, rfl, hr2, hb2⟩
      have q2 : Hid (Below w.heap.size w w2) := hbw.trans ((p1.out.trans (hb2.mono z1)).mono hbz)
      have hr3 : ¬ r2 < 0 := by omega
      have HR2 : Hid _ := hr2
      clear hb2
      go_wp2_with fail
      go_roundw
      case rel => exact ⟨n + 1, q + (1 + cnt cFd l[n].fs), by omega, by go_num, by congr 1; omega, HQ2, by omega, by omega, q2.out⟩
      case measure => simp [intOf]; omega

set_option maxHeartbeats 1000000 in
theorem held_top (a : Option Addr) (c : Nat) (l : List Td) (K : Nat) (w : World) (hr : TdRow 0 w.heap.size w a (mks fTd cTd K l)) (hk : 0 < K) (hb : ((K + cnt cTd l : Nat) : Int) ≤ 4611686018427387904) (hl : (l.length : Int) ≤ 4611686018427387904) :
    Calls Tryz.prog 8 #[.agg #[.slice a l.length c], .int .i64 (K : Int)] w fun e w' => ∃ r : Int, e = .returned (.int .i64 r) ∧ r = ((K + cnt cTd l : Nat) : Int) ∧ Below w.heap.size w w' := by
  have HR : Hid _ := hr
  clear hr
  go_enter Tryz.func8, Tryz.ntmps8
  go_wp2_with fail
  refine Calls.mono (held_Tds a c l K _ _ rfl (TdRow.up HR.out ((Below.refl _ _).alloc (Nat.le_refl _) _)) hk hb hl) ?_
  rintro e w1 ⟨r, rfl, hr, hb1⟩
  have Q1 : Hid (Below w.heap.size w w1) := below_one hb1
  have hr0 : ¬ r < 0 := by omega
  clear hb1
  go_wp2_with fail
  go_ret
  exact ⟨_, rfl, by omega, Q1.out⟩
end Go.Proofs.YtnfoinmccigdfaaGreatDoor.G
