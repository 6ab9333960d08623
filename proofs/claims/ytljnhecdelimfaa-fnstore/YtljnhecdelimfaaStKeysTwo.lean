/- KeysSince, both sides. -/
import Derived.Test.YtljnhecdelimfaaStKeys
namespace Go.Proofs.Ytljnhecdelimfaa.G
open Go.ChangeShapes Go.WideShapes Go.ChangeAt Go.RowKit
set_option linter.unusedVariables false

def keysR (l : Chs) (now ts : Int) : List Int := if hourN l now ts = 0 then keysK l ts 16 else []
theorem keysR_len (l : Chs) (now ts : Int) : (keysR l now ts).length ≤ 16 := by
  unfold keysR; split
  · exact keysK_len l ts 16
  · simp
theorem ask_hour0 (l : Chs) (now low : Int) : askN l now 0 low = hourN l now low := by
  unfold askN
  rw [if_pos (show keyB 0 = true from rfl)]
  split
  · rename_i h; exact h.symm
  · rfl
theorem own_below0 {w w' : World} {base size n : Nat} {e : TypeId} {v : Value} {xs : List Value} (h : w.ownsRow base e size v n xs) (hb : Below w.heap.size w w') : w'.ownsRow base e size v n xs := by
  refine ⟨h.1, ?_⟩
  rcases h.2 with h0 | ⟨g, cap, cur, rfl, h1, h2, h3⟩
  · exact .inl h0
  · exact .inr ⟨g, cap, cur, rfl, h1, (hb.block g (Array.getElem?_eq_some_iff.1 h2).1).trans h2, h3⟩
theorem own_ge {w : World} {base size n : Nat} {e : TypeId} {v : Value} {xs : List Value} (h : w.ownsRow base e size v n xs) : ∀ k, v.ownBlock = some k → base ≤ k ∧ k < w.heap.size := fun k hk => by
  rcases h.2 with ⟨e, _⟩ | ⟨g', cap, cur, e, h1, h2, _⟩
  · subst e; cases hk
  · subst e
    simp only [Value.ownBlock, Option.some.injEq] at hk
    subst hk
    exact ⟨h1, (Array.getElem?_eq_some_iff.1 h2).1⟩
theorem ret_k {a b : Value} {c d : Int} (h1 : a = b) (h2 : c = d) : Ending.returned (.tuple #[a, .int .i64 c]) = .returned (.tuple #[b, .int .i64 d]) := by rw [h1, h2]
set_option maxHeartbeats 4000000 in
theorem impl_keys (a : Option Addr) (c : Nat) (l : Chs) (now ts : Int) (w : World) (hr : ChRow 0 w.heap.size w a l) (hbd : ChsBd 1048576 l) :
    Calls Try.prog 13 #[.agg #[.slice a l.length c, .int .i64 now], .int .i64 ts] w fun e w' => ∃ a' c', e = .returned (.tuple #[.slice a' (keysR l now ts).length c', .int .i64 (hourN l now ts)]) ∧ NuOwn w.heap.size w'.heap.size w' a' (keysR l now ts) ∧ Below w.heap.size w w' := by
  have HR : Hid (∀ W0, Below w.heap.size w W0 → ChRow 0 W0.heap.size W0 a l) := fun W0 hB => ChRow.up hr hB
  have HE : Hid _ := hbd
  clear hr hbd
  obtain ⟨V, hV⟩ : ∃ V : World, V = (w.alloc (.cells #[.slice a l.length c, .int .i64 now] 25)).alloc (.cells #[.int .i64 ts] 3) := ⟨_, rfl⟩
  have zV : V.heap.size = w.heap.size + 2 := by rw [hV]; simp
  have bV : Below w.heap.size w V := by
    rw [hV]
    exact ((Below.refl _ _).alloc (Nat.le_refl _) _).alloc (by simp) _
  have c0 : V.heap[w.heap.size]? = some (.cells #[.slice a l.length c, .int .i64 now] 25 (0, 0)) := by
    rw [hV, Below.heap_alloc _ _ _ (by simp)]; exact heap_alloc_new _ _
  have c1 : V.heap[w.heap.size + 1]? = some (.cells #[.int .i64 ts] 3 (0, 0)) := by
    rw [hV]
    have := heap_alloc_new (w.alloc (.cells #[.slice a l.length c, .int .i64 now] 25)) (.cells #[.int .i64 ts] 3)
    simpa using this
  have KV : Hid (∀ W, Below V.heap.size V W → W.heap[w.heap.size]? = some (.cells #[.slice a l.length c, .int .i64 now] 25 (0, 0)) ∧ W.heap[w.heap.size + 1]? = some (.cells #[.int .i64 ts] 3 (0, 0)) ∧ Below w.heap.size w W) := fun W h =>
    ⟨(h.block _ (by omega)).trans c0, (h.block _ (by omega)).trans c1, bV.trans (h.mono (by omega))⟩
  have BV : Hid _ := bV
  clear c0 c1 bV
  go_enter Try.func13, Try.ntmps13
  go_wp2_with fail
  rw [← hV]
  clear hV
  refine (impl_hourFault a c l now ts _ (HR.out _ BV.out) HE.out).mono ?_
  rintro e w1 ⟨rfl, hb1⟩
  have Q1 : Hid (Below V.heap.size V w1) := hb1
  have z1 := hb1.size
  clear hb1
  by_cases h0 : hourN l now ts = 0
  case neg =>
    have HK : Hid (keysR l now ts = []) := by rw [Hid, keysR, if_neg h0]
    have h0' : (hourN l now ts != 0) = true := by simpa using h0
    obtain ⟨z, hz⟩ : ∃ z, z = hourN l now ts := ⟨_, rfl⟩
    have HZ : Hid (z = hourN l now ts) := hz
    rw [← hz] at h0' ⊢
    have Q : Hid _ := (KV.out _ Q1.out).2.2
    clear h0 hz
    go_wp2_with fail
    go_ret2
    exact ⟨none, 0, ret_k (by rw [HK.out]; rfl) HZ.out, .inl HK.out, Q.out⟩
  have hs := (hourN_zero h0).1
  have H16 : Hid (l.length = 16) := (storeB_all hs).1
  have HS : Hid (∀ i (h : i < l.length), Rise l[i]) := fun i h => store_rise hs h
  have HKR : Hid (keysR l now ts = keysK l ts 16) := by rw [Hid, keysR, if_pos h0]
  have H0 : Hid (0 = hourN l now ts) := h0.symm
  rw [h0]
  have T1 := KV.out _ Q1.out
  have x0 := fun o => row_cell T1.1 o
  have C1 : Hid _ := T1.2.1
  clear h0 hs T1
  go_wp2_with fail
  refine (of_chains_chg (w.heap.size + 1) ts a c l now _ (row_cell C1.out 0) (by omega) (HR.out _ (KV.out _ Q1.out).2.2) HE.out HS.out).mono ?_
  rintro e w2 ⟨N, cs, rfl, hN, hh, hcs, hb2⟩
  have HH : Hid _ := hh
  have HC : Hid _ := hcs
  have Q2 : Hid (Below V.heap.size V w2) := Q1.out.trans (hb2.mono (by omega))
  have z2 := hb2.size
  have hNl : N < w2.heap.size := (Array.getElem?_eq_some_iff.1 hh).1
  clear hh hcs hb2 x0 C1
  go_wp2_with fail
  go_loopw [8, 22] (fun s i w' => ∃ (k : Nat), k ≤ l.length ∧ i = .int .i64 k ∧ Below w2.heap.size w2 w' ∧ Hid (w'.ownsRow w2.heap.size 3 1 s (keysK l ts k).length (nuV (keysK l ts k)))) (fun _ i _ => l.length - (intOf i).toNat)
  case atStart => exact ⟨0, by omega, rfl, Below.refl _ _, ⟨rfl, .inl ⟨rfl, rfl⟩⟩⟩
  case round =>
    obtain ⟨k, hk, rfl, hb, HO⟩ := hrel
    obtain ⟨wo, rfl⟩ : ∃ x, x = wr := ⟨_, rfl⟩
    have h16 := H16.out
    have hz := hb.size
    have QB : Hid (Below w2.heap.size w2 wo) := hb
    have hkl := keysK_len l ts k
    by_cases hlt : k < l.length
    · have hk16 : k < 16 := by omega
      have d0 : wo.cell? ⟨N, k, none⟩ = some (.bool (chgB l[k] ts)) := (row_cell ((hb.block N hNl).trans HH.out) k).trans (HC.out k hlt)
      have HKS : Hid (keysK l ts (k + 1) = if chgB l[k] ts = true then keysK l ts k ++ [(k : Int)] else keysK l ts k) := by rw [Hid, keysK, chAt_eq hlt]
      clear h16 hb
      cases hg : chgB l[k] ts
      · have HK2 : Hid (keysK l ts (k + 1) = keysK l ts k) := by rw [Hid, HKS.out, hg]; simp
        rw [hg] at d0
        clear hg HKS
        go_wp2_with fail
        exact ⟨⟨k + 1, by omega, by go_num, QB.out, by rw [HK2.out]; exact HO⟩, by simp [intOf]; omega⟩
      · have HK2 : Hid (keysK l ts (k + 1) = keysK l ts k ++ [(k : Int)]) := by rw [Hid, HKS.out, hg]; simp
        rw [hg] at d0
        clear hg HKS
        have hbn : Below wo.heap.size wo (wo.alloc (.cells #[.int .i64 (k : Int)] 3)) := (Below.refl _ _).alloc (Nat.le_refl _) _
        obtain ⟨g, cap, W', hrun, o1, o2, o3, o4⟩ := app_num (keysK l ts k) (k : Int) u8 w2.heap.size wo.heap.size (wo.alloc (.cells #[.int .i64 (k : Int)] 3)) (own_below0 HO.out hbn) (heap_alloc_new _ _) (by omega) (by simp; omega)
        have HRUN : Hid _ := hrun
        have Q3 : Hid (Below w2.heap.size w2 W') := (QB.out.alloc (by omega) _).grown o2 (by simp; omega) (fun k hk => (own_ge HO.out k hk).1)
        have O3 : Hid (W'.ownsRow w2.heap.size 3 1 (.slice (some ⟨g, 0, none⟩) ((keysK l ts k).length + 1) cap) (keysK l ts (k + 1)).length (nuV (keysK l ts (k + 1)))) := by
          rw [Hid, HK2.out]; simpa using o1
        clear hrun o1 o2 o3 o4 hbn HK2
        go_wp2_with (first | (at_builtin; refine wpList_append_run rfl _ _ _ rfl _ _ _ _ rfl rfl HRUN.out ?_) | fail)
        exact ⟨⟨k + 1, by omega, by go_num, Q3.out, O3⟩, by simp [intOf]; omega⟩
    · obtain rfl : k = 16 := by omega
      obtain ⟨a', c', hv, ho⟩ := NuOwn.of HO.out
      have HO2 : Hid _ := ho
      have Q : Hid (Below w.heap.size w wo) := (KV.out _ (Q2.out.trans (hb.mono (by omega)))).2.2
      subst hv
      clear ho hb h16
      go_wp2_with fail
      go_ret2
      have hfin : NuOwn w.heap.size wo.heap.size wo a' (keysR l now ts) := by rw [HKR.out]; exact NuOwn.wide HO2.out (by omega) (Nat.le_refl _)
      have hval : Value.slice a' (keysK l ts 16).length c' = .slice a' (keysR l now ts).length c' := by rw [HKR.out]
      first | exact ⟨a', c', ret_k hval H0.out, hfin, Q.out⟩ | exact ⟨a', ⟨c', ret_k hval H0.out⟩, hfin, Q.out⟩
set_option maxHeartbeats 4000000 in
theorem spec_keys (a : Option Addr) (c : Nat) (l : Chs) (now ts : Int) (w : World) (hr : ChRow 0 w.heap.size w a l) (hbd : ChsBd 1048576 l) :
    Calls Try.prog 14 #[.agg #[.slice a l.length c, .int .i64 now], .int .i64 ts] w fun e w' => ∃ a' c', e = .returned (.tuple #[.slice a' (keysR l now ts).length c', .int .i64 (hourN l now ts)]) ∧ NuRow w.heap.size w'.heap.size w' a' (keysR l now ts) ∧ Below w.heap.size w w' := by
  have HR : Hid (∀ W0, Below w.heap.size w W0 → ChRow 0 W0.heap.size W0 a l) := fun W0 hB => ChRow.up hr hB
  have B0 : Hid (Below w.heap.size w (w.alloc (.cells #[.slice a l.length c, .int .i64 now] 25))) := (Below.refl _ _).alloc (Nat.le_refl _) _
  have HE : Hid _ := hbd
  have HA : Hid _ := ask_hour0 l now ts
  clear hr hbd
  go_enter Try.func14, Try.ntmps14
  go_wp2_with fail
  refine (spec_ask a c l now 0 ts _ (HR.out _ B0.out) HE.out).mono ?_
  rintro e w1 ⟨rfl, hb1⟩
  rw [HA.out]
  have C1 : Hid (w1.heap[w.heap.size]? = some (.cells #[.slice a l.length c, .int .i64 now] 25 (0, 0))) := (hb1.block _ (by simp)).trans (heap_alloc_new _ _)
  have Q1 : Hid (Below w.heap.size w w1) := below_one hb1
  have z1 : w.heap.size + 1 ≤ w1.heap.size := size_one hb1
  clear hb1
  by_cases h0 : hourN l now ts = 0
  case neg =>
    have HK : Hid (keysR l now ts = []) := by rw [Hid, keysR, if_neg h0]
    have h0' : (hourN l now ts != 0) = true := by simpa using h0
    obtain ⟨z, hz⟩ : ∃ z, z = hourN l now ts := ⟨_, rfl⟩
    have HZ : Hid (z = hourN l now ts) := hz
    rw [← hz] at h0' ⊢
    clear h0 hz
    go_wp2_with fail
    go_ret2
    exact ⟨_, 0, ret_k (by rw [HK.out]; rfl) HZ.out, .inl HK.out, Q1.out.alloc (by omega) _⟩
  have hs := (hourN_zero h0).1
  have H16 : Hid (l.length = 16) := (storeB_all hs).1
  have HKR : Hid (keysR l now ts = keysK l ts 16) := by rw [Hid, keysR, if_pos h0]
  have H0 : Hid (0 = hourN l now ts) := h0.symm
  rw [h0]
  clear h0 hs
  go_wp2_with fail
  obtain ⟨V, hV⟩ : ∃ V : World, V = w1.alloc (.cells #[] 3) := ⟨_, rfl⟩
  have zV : V.heap.size = w1.heap.size + 1 := by rw [hV]; simp
  have bV : Below w1.heap.size w1 V := by rw [hV]; exact (Below.refl _ _).alloc (Nat.le_refl _) _
  have oV : V.ownsRow w1.heap.size 3 1 (.slice (some ⟨w1.heap.size, 0, none⟩) 0 0) 0 [] := ⟨rfl, .inr ⟨w1.heap.size, 0, #[], rfl, Nat.le_refl _, by rw [hV]; exact heap_alloc_new _ _, Nat.le_refl _, Nat.zero_le _, rfl, rfl⟩⟩
  have OV : Hid _ := oV
  have BV : Hid _ := bV
  rw [← hV]
  clear hV oV bV
  go_loopw [7, 8] (fun s i w' => ∃ (k : Nat), k ≤ l.length ∧ i = .int .i64 k ∧ Below w1.heap.size w1 w' ∧ Hid (w'.ownsRow w1.heap.size 3 1 s (keysK l ts k).length (nuV (keysK l ts k)))) (fun _ i _ => l.length - (intOf i).toNat)
  case atStart => exact ⟨0, by omega, rfl, BV.out, OV⟩
  case round =>
    obtain ⟨k, hk, rfl, hb, HO⟩ := hrel
    obtain ⟨wo, rfl⟩ : ∃ x, x = wr := ⟨_, rfl⟩
    have h16 := H16.out
    have hz := hb.size
    have QB : Hid (Below w1.heap.size w1 wo) := hb
    have hkl := keysK_len l ts k
    by_cases hlt : k < l.length
    · have x0 := fun o => row_cell ((hb.block w.heap.size (by omega)).trans C1.out) o
      have HKS : Hid (keysK l ts (k + 1) = if chgB l[k] ts = true then keysK l ts k ++ [(k : Int)] else keysK l ts k) := by rw [Hid, keysK, chAt_eq hlt]
      have hk16 : (k : Int) < 16 := by omega
      have QW : Hid (Below w.heap.size w wo) := Q1.out.trans (hb.mono (by omega))
      clear h16 hb
      go_wp2_with fail
      refine (spec_changed a c l now ts k _ (HR.out _ QW.out) HE.out hlt).mono ?_
      rintro e w3 ⟨rfl, hb3⟩
      have Q3 : Hid (Below w1.heap.size w1 w3) := QB.out.trans (hb3.mono (by omega))
      have O3 : Hid (w3.ownsRow w1.heap.size 3 1 u7 (keysK l ts k).length (nuV (keysK l ts k))) := own_below0 HO.out hb3
      have z3 := hb3.size
      clear hb3 x0 HO QB
      cases hg : chgB l[k] ts
      · have HK2 : Hid (keysK l ts (k + 1) = keysK l ts k) := by rw [Hid, HKS.out, hg]; simp
        clear hg HKS
        go_wp2_with fail
        exact ⟨⟨k + 1, by omega, by go_num, Q3.out, by rw [HK2.out]; exact O3⟩, by simp [intOf]; omega⟩
      · have HK2 : Hid (keysK l ts (k + 1) = keysK l ts k ++ [(k : Int)]) := by rw [Hid, HKS.out, hg]; simp
        clear hg HKS
        have hbn : Below w3.heap.size w3 (w3.alloc (.cells #[.int .i64 (k : Int)] 3)) := (Below.refl _ _).alloc (Nat.le_refl _) _
        obtain ⟨g, cap, W', hrun, o1, o2, o3, o4⟩ := app_num (keysK l ts k) (k : Int) u7 w1.heap.size w3.heap.size (w3.alloc (.cells #[.int .i64 (k : Int)] 3)) (own_below0 O3.out hbn) (heap_alloc_new _ _) (by omega) (by simp; omega)
        have HRUN : Hid _ := hrun
        have Q4 : Hid (Below w1.heap.size w1 W') := (Q3.out.alloc (by omega) _).grown o2 (by simp; omega) (fun k hk => (own_ge O3.out k hk).1)
        have O4 : Hid (W'.ownsRow w1.heap.size 3 1 (.slice (some ⟨g, 0, none⟩) ((keysK l ts k).length + 1) cap) (keysK l ts (k + 1)).length (nuV (keysK l ts (k + 1)))) := by
          rw [Hid, HK2.out]; simpa using o1
        clear hrun o1 o2 o3 o4 hbn HK2
        go_wp2_with (first | (at_builtin; refine wpList_append_run rfl _ _ _ rfl _ _ _ _ rfl rfl HRUN.out ?_) | fail)
        exact ⟨⟨k + 1, by omega, by go_num, Q4.out, O4⟩, by simp [intOf]; omega⟩
    · obtain rfl : k = 16 := by omega
      obtain ⟨a', c', hv, ho⟩ := NuOwn.of HO.out
      have HO2 : Hid _ := ho
      have Q : Hid (Below w.heap.size w wo) := Q1.out.trans (hb.mono (by omega))
      have hk16 : ¬ ((16 : Nat) : Int) < 16 := by omega
      subst hv
      clear ho hb h16
      go_wp2_with fail
      go_ret2
      have hfin : NuRow w.heap.size wo.heap.size wo a' (keysR l now ts) := by rw [HKR.out]; exact NuRow.wide (NuOwn.row HO2.out) (by omega) (Nat.le_refl _)
      have hval : Value.slice a' (keysK l ts 16).length c' = .slice a' (keysR l now ts).length c' := by rw [HKR.out]
      first | exact ⟨a', c', ret_k hval H0.out, hfin, Q.out⟩ | exact ⟨a', ⟨c', ret_k hval H0.out⟩, hfin, Q.out⟩
end Go.Proofs.Ytljnhecdelimfaa.G
