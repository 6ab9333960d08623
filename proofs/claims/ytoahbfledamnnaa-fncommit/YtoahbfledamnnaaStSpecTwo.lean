/- The specification's StoreOK, whole. -/
import Derived.Test.YtoahbfledamnnaaStUpMath
import Derived.WalkSmall
namespace Go.Proofs.Ytoahbfledamnnaa.G
open Go.ChangeShapes Go.WideShapes Go.ChangeAt Go.RowKit
set_option linter.unusedVariables false

set_option maxHeartbeats 8000000 in
set_option maxRecDepth 40000 in
theorem spec_storeOK (a : Option Addr) (c : Nat) (l : Chs) (now : Int) (w : World) (hr : ChRow 0 w.heap.size w a l) (hbd : ChsBd 1048576 l) :
    Calls Try.prog 59 #[.agg #[.slice a l.length c, .int .i64 now]] w fun e w' => e = .returned (.bool (storeB l now)) ∧ Below w.heap.size w w' := by
  have B0 : Hid (Below w.heap.size w (w.alloc (.cells #[.slice a l.length c, .int .i64 now] 25))) := (Below.refl _ _).alloc (Nat.le_refl _) _
  obtain ⟨hl, ht⟩ := hbd
  by_cases h16 : l.length = 16
  case neg =>
    have HN : Hid (false = storeB l now) := (storeB_len h16).symm
    have h16' : ((l.length : Int) != 16) = true := by simp; omega
    go_enter Try.func59, Try.ntmps59
    go_wp2_with fail
    go_ret
    exact ⟨ret_b HN.out, B0.out⟩
  have h16' : ((l.length : Int) != 16) = false := by simp; omega
  have H16 : Hid (l.length = 16) := h16
  cases hn : inS now 0 100000
  · have HN : Hid (false = storeB l now) := (storeB_now (inB_not.1 hn)).symm
    have HI : Hid _ := hn
    clear h16 hn
    go_enter Try.func59, Try.ntmps59
    go_wp2_with (first | (go_at_call 70; refine (spec_inS _ _ _ _ HI.out).mono ?_; rintro e w' ⟨rfl, rfl⟩))
    go_ret
    exact ⟨ret_b HN.out, B0.out⟩
  have HS : Hid (storeB l now = chainsB l now) := storeB_chains h16 ((inS_iff _ _ _).1 hn)
  have HI : Hid _ := hn
  have HR : Hid (ChRow 0 _ _ a l) := ChRow.up hr B0.out
  have HT : Hid (∀ x ∈ l, x.length ≤ 1048576) := ht
  clear h16 hn hr ht
  go_enter Try.func59, Try.ntmps59
  go_wp2_with (first | (go_at_call 70; refine (spec_inS _ _ _ _ HI.out).mono ?_; rintro e w' ⟨rfl, rfl⟩))
  obtain ⟨V, hV⟩ : ∃ V, V = w.alloc (.cells #[.slice a l.length c, .int .i64 now] 25) := ⟨_, rfl⟩
  have zV : V.heap.size = w.heap.size + 1 := by rw [hV]; simp
  have cV : V.heap[w.heap.size]? = some (.cells #[.slice a l.length c, .int .i64 now] 25 (0, 0)) := by rw [hV]; exact heap_alloc_new _ _
  rw [← hV] at HR B0 ⊢
  have CV : Hid (V.heap[w.heap.size]? = some (.cells #[.slice a l.length c, .int .i64 now] 25 (0, 0))) := cV
  clear hV cV
  go_loopw [3] (fun i w' => ∃ (k : Nat), k ≤ l.length ∧ i = .int .i64 k ∧ Below V.heap.size V w' ∧ Hid (∀ i (hi : i < l.length), i < k → chainB i now l[i] = true)) (fun i _ => l.length - (intOf i).toNat)
  case atStart => exact ⟨0, by omega, rfl, Below.refl _ _, fun i _ h => by omega⟩
  case round =>
    obtain ⟨wo, rfl⟩ : ∃ x, x = wr := ⟨_, rfl⟩
    obtain ⟨k, hk1, rfl, hb, HK⟩ := hrel
    have hz := hb.size
    have e16 := H16.out
    by_cases hlt : k < l.length
    case neg =>
      have HN : Hid (true = storeB l now) := by rw [Hid, HS.out]; exact (chainsB_true (fun i hi => HK.out i hi (by omega))).symm
      have Q : Hid (Below w.heap.size w wo) := B0.out.trans (hb.mono (by omega))
      have hk16 : ¬ (k : Int) < 16 := by omega
      clear e16
      go_wp2_with fail
      go_ret
      exact ⟨ret_b HN.out, Q.out⟩
    have hk16 : (k : Int) < 16 := by omega
    clear e16
    have HX : Hid (l[k].length ≤ 1048576) := HT.out l[k] (List.getElem_mem hlt)
    have hX := HX.out
    have HB : Hid (Below V.heap.size V wo) := hb
    clear hb
    go_wp2_with fail
    go_loopw [4] (fun j w' => ∃ (m : Nat), m ≤ l[k].length ∧ j = .int .i64 m ∧ Below V.heap.size V w' ∧ Hid (∀ i, i < m → okB k now l[k] i = true)) (fun j _ => l[k].length - (intOf j).toNat)
    case atStart => exact ⟨0, by omega, rfl, HB.out, fun i h => by omega⟩
    case round =>
      obtain ⟨wi, rfl⟩ : ∃ x, x = wr := ⟨_, rfl⟩
      obtain ⟨m, hm1, rfl, hb, HM⟩ := hrel
      have hz := hb.size
      have cw := fun o => (hb.cell (p := ⟨w.heap.size, o, none⟩) (show w.heap.size < V.heap.size by omega)).trans (row_cell CV.out o)
      have Q : Hid (Below w.heap.size w wi) := B0.out.trans (hb.mono (by omega))
      obtain ⟨b, o, a3, c3, ha, _, hbl, d0, _, r3⟩ := ChRow.cells (ChRow.keep HR.out (agree hb (Nat.le_refl _))) k hlt
      subst ha
      by_cases hmt : m < l[k].length
      case neg =>
        have HC : Hid (chainB k now l[k] = true) := chainB_true (fun i hi => HM.out i (by omega))
        clear r3
        go_wp2_with fail
        refine ⟨⟨k + 1, by omega, by go_num, hb, ?_⟩, by simp [intOf]; omega⟩
        intro i hi1 hi2
        by_cases e : i = k
        · subst e; exact HC.out
        · exact HK.out i hi1 (by omega)
      have R3 : Hid (VeRow 0 wi.heap.size wi a3 l[k]) := VeRow.wide r3 (Nat.le_refl _) hb.size
      obtain ⟨b2, o2, ha2, _, hbl2, f0, f1⟩ := VeRow.cells R3.out m hmt
      subst ha2
      clear r3
      go_wp2_with fail
      obtain ⟨U, hU⟩ : ∃ U, U = wi.alloc (.cells #[.int .i64 l[k][m].ts, .int .i64 l[k][m].v] 61) := ⟨_, rfl⟩
      rw [← hU]
      have zU : U.heap.size = wi.heap.size + 1 := by rw [hU]; simp
      have BU : Hid (Below wi.heap.size wi U) := by rw [hU]; exact (Below.refl _ _).alloc (Nat.le_refl _) _
      have cu := fun o => row_cell (show U.heap[wi.heap.size]? = some (.cells #[.int .i64 l[k][m].ts, .int .i64 l[k][m].v] 61 (0, 0)) by rw [hU]; exact heap_alloc_new _ _) o
      have cx := fun o => (BU.out.cell (p := ⟨w.heap.size, o, none⟩) (show w.heap.size < wi.heap.size by omega)).trans (cw o)
      have dx := (BU.out.cell (p := ⟨b, o + k, none⟩) (show b < wi.heap.size by omega)).trans d0
      clear hU d0 f0 f1 cw
      have HP : Hid (∀ (h : 0 < m), U.cell? ⟨b2, o2 + (m - 1) * 2, none⟩ = some (.int .i64 (l[k][m - 1]'(by omega)).ts)) := fun h => by
        obtain ⟨b9, o9, e9, _, _, h9, _⟩ := VeRow.cells R3.out (m - 1) (by omega)
        simp only [Option.some.injEq, Addr.mk.injEq, and_true] at e9
        obtain ⟨rfl, rfl⟩ := e9
        exact (BU.out.cell (p := ⟨b2, o2 + (m - 1) * 2, none⟩) (show b2 < wi.heap.size by omega)).trans h9
      have QU : Hid (Below w.heap.size w U) := Q.out.trans (BU.out.mono (by omega))
      have RU : Hid (Below V.heap.size V U) := hb.trans (BU.out.mono (by omega))
      cases hA : inS l[k][m].ts 1 now
      · have HN : Hid (false = storeB l now) := by rw [Hid, HS.out]; exact (chainsB_false hlt (chainB_false hmt (okB_spec1 hmt HM.out (inB_not.1 hA)))).symm
        have HA : Hid _ := hA
        clear hA
        go_quiet ((first | (go_at_call 70; exact Calls.quiet_of_same (spec_inS _ _ _ _ HA.out))))
        go_wp2_with fail
        go_ret
        exact ⟨ret_b HN.out, below_drewN QU.out _⟩
      have HA : Hid _ := hA
      clear hA
      cases hV : valB k l[k][m].v
      · have HN : Hid (false = storeB l now) := by rw [Hid, HS.out]; exact (chainsB_false hlt (chainB_false hmt (okB_no3 (by rw [vAt_eq hmt]; exact hV)))).symm
        have HV : Hid _ := hV
        clear hV
        go_quiet ((first | (go_at_call 70; exact Calls.quiet_of_same (spec_inS _ _ _ _ HA.out)) | (go_at_call 71; exact Calls.quiet_of_same (spec_value _ _ _ (by omega) HV.out))))
        go_wp2_with fail
        go_ret
        exact ⟨ret_b HN.out, below_drewN QU.out _⟩
      have HV : Hid _ := hV
      clear hV
      by_cases hm0 : 0 < m
      · obtain ⟨j, rfl⟩ : ∃ j, m = j + 1 := ⟨m - 1, by omega⟩
        have hP := HP.out hm0
        simp only [Nat.add_sub_cancel] at hP
        have hj : ((j + 1 : Nat) : Int) - 1 = j := by omega
        have hd : (0 : Int) < ((j + 1 : Nat) : Int) := by omega
        have hj2 : (j : Int) < l[k].length := by omega
        by_cases hge : l[k][j + 1].ts ≤ l[k][j].ts
        · have HN : Hid (false = storeB l now) := by rw [Hid, HS.out]; exact (chainsB_false hlt (chainB_false hmt (okB_spec4 hmt hm0 (by simpa using hge)))).symm
          go_quiet ((first | (go_at_call 70; exact Calls.quiet_of_same (spec_inS _ _ _ _ HA.out)) | (go_at_call 71; exact Calls.quiet_of_same (spec_value _ _ _ (by omega) HV.out))))
          go_wp2_with fail
          go_ret
          exact ⟨ret_b HN.out, below_drewN QU.out _⟩
        · have HO : Hid (okB k now l[k] (j + 1) = true) := okB_spec hmt HM.out ((inS_iff _ _ _).1 HA.out).1 ((inS_iff _ _ _).1 HA.out).2 HV.out (fun _ => by simpa using hge)
          go_quiet ((first | (go_at_call 70; exact Calls.quiet_of_same (spec_inS _ _ _ _ HA.out)) | (go_at_call 71; exact Calls.quiet_of_same (spec_value _ _ _ (by omega) HV.out))))
          go_wp2_with fail
          refine ⟨⟨j + 1 + 1, by omega, by go_num, below_drewN RU.out _, ?_⟩, by simp [intOf]; omega⟩
          intro i hi
          by_cases e : i = j + 1
          · subst e; exact HO.out
          · exact HM.out i (by omega)
      · obtain rfl : m = 0 := by omega
        have HO : Hid (okB k now l[k] 0 = true) := okB_spec hmt HM.out ((inS_iff _ _ _).1 HA.out).1 ((inS_iff _ _ _).1 HA.out).2 HV.out (fun h => absurd h hm0)
        clear HP
        go_quiet ((first | (go_at_call 70; exact Calls.quiet_of_same (spec_inS _ _ _ _ HA.out)) | (go_at_call 71; exact Calls.quiet_of_same (spec_value _ _ _ (by omega) HV.out))))
        go_wp2_with fail
        refine ⟨⟨0 + 1, by omega, by go_num, below_drewN RU.out _, ?_⟩, by simp [intOf]; omega⟩
        intro i hi
        obtain rfl : i = 0 := by omega
        exact HO.out
end Go.Proofs.Ytoahbfledamnnaa.G
