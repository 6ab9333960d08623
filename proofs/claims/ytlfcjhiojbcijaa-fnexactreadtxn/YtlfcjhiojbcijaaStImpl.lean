/- What the program's text of StoreOK computes. -/
import Derived.Test.YtlfcjhiojbcijaaStMath
namespace Go.Proofs.Ytlfcjhiojbcijaa.G
open Go.ChangeShapes Go.WideShapes Go.ChangeAt Go.RowKit
set_option linter.unusedVariables false

theorem ret_b {a b : Bool} (h : a = b) : Ending.returned (.bool a) = .returned (.bool b) := by rw [h]
set_option maxHeartbeats 400000 in
theorem impl_isKey (key : Int) (w : World) : Calls Try.prog 29 #[.int .i64 key] w fun e w' => e = .returned (.bool (keyS key)) ∧ w' = w := by
  go_enter Try.func29, Try.ntmps29
  go_wp2
  all_goals (go_ret; exact ⟨ret_b (by unfold keyS; rw [Bool.eq_iff_iff]; simp; try omega), rfl⟩)
set_option maxHeartbeats 400000 in
theorem impl_isInt (v : Int) (w : World) : Calls Try.prog 75 #[.int .i64 v] w fun e w' => e = .returned (.bool (intB v)) ∧ w' = w := by
  go_enter Try.func75, Try.ntmps75
  go_wp2
  all_goals (go_ret; exact ⟨ret_b (by unfold intB; rw [Bool.eq_iff_iff]; simp; try omega), rfl⟩)
theorem keyB_iff (key : Int) : keyS key = true ↔ 0 ≤ key ∧ key < 16 := by simp [keyS]
set_option maxHeartbeats 1000000 in
theorem impl_putOK (key v : Int) (w : World) : Calls Try.prog 67 #[.agg #[.int .i64 key, .int .i64 v]] w fun e w' => e = .returned (.bool (putB key v)) ∧ Below w.heap.size w w' := by
  have B0 : Hid (Below w.heap.size w (w.alloc (.cells #[.int .i64 key, .int .i64 v] 81))) := (Below.refl _ _).alloc (Nat.le_refl _) _
  cases hk : keyS key
  · have HN : Hid (false = putB key v) := by simp [Hid, putB, hk]
    go_enter Try.func67, Try.ntmps67
    go_wp2_with (first | (go_at_call 29; refine (impl_isKey _ _).mono ?_; rintro e w' ⟨rfl, rfl⟩; rw [hk]))
    go_ret
    exact ⟨ret_b HN.out, B0.out⟩
  · obtain ⟨g1, g2⟩ := (keyB_iff key).1 hk
    by_cases h2 : key % 2 = 0
    · have HN : Hid (intB v = putB key v) := by simp only [Hid, putB, hk, valB]; rw [if_neg (by omega)]; simp
      have h2' : (key % 2 == 0) = true := by simpa using h2
      go_enter Try.func67, Try.ntmps67
      go_wp2_with (first | (go_at_call 29; refine (impl_isKey _ _).mono ?_; rintro e w' ⟨rfl, rfl⟩; rw [hk]) | (go_at_call 75; refine (impl_isInt _ _).mono ?_; rintro e w' ⟨rfl, rfl⟩))
      go_ret
      exact ⟨ret_b HN.out, B0.out⟩
    · have HN : Hid (nodeB v = putB key v) := by simp only [Hid, putB, hk, valB]; rw [if_pos (by omega)]; simp
      have h2' : (key % 2 == 0) = false := by simpa using h2
      go_enter Try.func67, Try.ntmps67
      go_wp2_with (first | (go_at_call 29; refine (impl_isKey _ _).mono ?_; rintro e w' ⟨rfl, rfl⟩; rw [hk]) | (go_at_call 75; refine (impl_isInt _ _).mono ?_; rintro e w' ⟨rfl, rfl⟩))
      all_goals (go_ret; exact ⟨ret_b (by rw [← HN.out]; unfold nodeB; rw [Bool.eq_iff_iff]; simp; try omega), B0.out⟩)
set_option maxHeartbeats 2000000 in
theorem impl_chainOK (key : Nat) (a : Option Addr) (c : Nat) (l : List Ve) (now : Int) (w : World) (hr : VeRow 0 w.heap.size w a l) (hl : l.length ≤ 1048576) (hk : key < 16) :
    Calls Try.prog 74 #[.int .i64 key, .slice a l.length c, .int .i64 now] w fun e w' => e = .returned (.bool (chainB key now l)) ∧ Below w.heap.size w w' := by
  have HR : Hid (VeRow 0 w.heap.size w a l) := hr
  clear hr
  go_enter Try.func74, Try.ntmps74
  go_wp2_with fail
  go_loopw [7, 12] (fun t i w' => ∃ (k : Nat), k ≤ l.length ∧ i = .int .i64 k ∧ t = .int .i64 (prevTs l k) ∧ Below w.heap.size w w' ∧ Hid (∀ i, i < k → okB key now l i = true)) (fun _ i _ => l.length - (intOf i).toNat)
  case atStart => exact ⟨0, by omega, rfl, rfl, Below.refl _ _, fun i h => by omega⟩
  case round =>
    rename_i wr
    obtain ⟨k, hk1, rfl, rfl, hb, HK⟩ := hrel
    by_cases hlt : k < l.length
    · obtain ⟨b, o, ha, _, hbl, d0, d1⟩ := VeRow.cells (VeRow.keep HR.out (agree hb (Nat.le_refl _))) k hlt
      subst ha
      have hz := hb.size
      have Q : Hid (Below w.heap.size w (wr.alloc (.cells #[.int .i64 l[k].ts, .int .i64 l[k].v] 92))) := hb.alloc hz _
      have ets : Hid (tsAt l k = l[k].ts) := tsAt_eq hlt
      have ev : Hid (vAt l k = l[k].v) := vAt_eq hlt
      by_cases h1 : l[k].ts ≤ prevTs l k
      · have HN : Hid (false = chainB key now l) := (chainB_false hlt (okB_no1 (by rw [ets.out]; omega))).symm
        generalize prevTs l k = pt at *
        go_wp2_with fail
        go_ret
        refine ⟨ret_b HN.out, ?_⟩
        repeat (first | exact hb | refine Below.setCell ?_ (by first | omega | (simp <;> omega)) _ | refine Below.alloc ?_ (by first | omega | (simp <;> omega)) _)
      by_cases h2 : now < l[k].ts
      · have HN : Hid (false = chainB key now l) := (chainB_false hlt (okB_no2 (by rw [ets.out]; omega))).symm
        generalize prevTs l k = pt at *
        go_wp2_with fail
        go_ret
        refine ⟨ret_b HN.out, ?_⟩
        repeat (first | exact hb | refine Below.setCell ?_ (by first | omega | (simp <;> omega)) _ | refine Below.alloc ?_ (by first | omega | (simp <;> omega)) _)
      have hkB : keyS (key : Int) = true := (keyB_iff _).2 ⟨by omega, by omega⟩
      cases hv : putB (key : Int) l[k].v
      · have HN : Hid (false = chainB key now l) := (chainB_false hlt (okB_no3 (by rw [ev.out]; simpa [putB, hkB] using hv))).symm
        generalize prevTs l k = pt at *
        clear hkB
        go_wp2_with (first | (go_at_call 67; refine (impl_putOK _ _ _).mono ?_; rintro e w1 ⟨rfl, hb1⟩; rw [hv]))
        go_ret
        refine ⟨ret_b HN.out, ?_⟩
        refine Below.trans ?_ (hb1.mono (by first | omega | (simp <;> omega)))
        repeat (first | exact hb | refine Below.setCell ?_ (by first | omega | (simp <;> omega)) _ | refine Below.alloc ?_ (by first | omega | (simp <;> omega)) _)
      · have HO : Hid (okB key now l k = true) := okB_mk (by rw [ets.out]; omega) (by rw [ets.out]; omega) (by rw [ev.out]; simpa [putB, hkB] using hv)
        have HP : Hid (prevTs l (k + 1) = l[k].ts) := ets.out
        generalize prevTs l k = pt at *
        clear hkB
        go_wp2_with (first | (go_at_call 67; refine (impl_putOK _ _ _).mono ?_; rintro e w1 ⟨rfl, hb1⟩; rw [hv]; have kc := fun o => hb1.cell (p := ⟨wr.heap.size, o, none⟩) (by simp)))
        refine ⟨⟨k + 1, by omega, by go_num, by rw [HP.out], ?_, ?_⟩, by simp [intOf]; omega⟩
        · refine Below.trans ?_ (hb1.mono (by first | omega | (simp <;> omega)))
          repeat (first | exact hb | refine Below.setCell ?_ (by first | omega | (simp <;> omega)) _ | refine Below.alloc ?_ (by first | omega | (simp <;> omega)) _)
        · intro i hi
          by_cases e : i = k
          · subst e; exact HO.out
          · exact HK.out i (by omega)
    · have HN : Hid (true = chainB key now l) := (chainB_true (fun i hi => HK.out i (by omega))).symm
      generalize prevTs l k = pt at *
      go_wp2_with fail
      go_ret
      exact ⟨ret_b HN.out, hb⟩
set_option maxHeartbeats 2000000 in
theorem impl_storeOK (a : Option Addr) (c : Nat) (l : Chs) (now : Int) (w : World) (hr : ChRow 0 w.heap.size w a l) (hbd : ChsBd 1048576 l) :
    Calls Try.prog 66 #[.agg #[.slice a l.length c, .int .i64 now]] w fun e w' => e = .returned (.bool (storeB l now)) ∧ Below w.heap.size w w' := by
  have B0 : Hid (Below w.heap.size w (w.alloc (.cells #[.slice a l.length c, .int .i64 now] 38))) := (Below.refl _ _).alloc (Nat.le_refl _) _
  obtain ⟨hl, ht⟩ := hbd
  by_cases h16 : l.length = 16
  case neg =>
    have HN : Hid (false = storeB l now) := (storeB_len h16).symm
    have h16' : ((l.length : Int) != 16) = true := by simp; omega
    go_enter Try.func66, Try.ntmps66
    go_wp2_with fail
    go_ret
    exact ⟨ret_b HN.out, B0.out⟩
  have h16' : ((l.length : Int) != 16) = false := by simp; omega
  have H16 : Hid (l.length = 16) := h16
  by_cases hn1 : now < 0
  · have HN : Hid (false = storeB l now) := (storeB_now (by omega)).symm
    clear h16
    go_enter Try.func66, Try.ntmps66
    go_wp2_with fail
    go_ret
    exact ⟨ret_b HN.out, B0.out⟩
  by_cases hn2 : 100000 < now
  · have HN : Hid (false = storeB l now) := (storeB_now (by omega)).symm
    clear h16
    go_enter Try.func66, Try.ntmps66
    go_wp2_with fail
    go_ret
    exact ⟨ret_b HN.out, B0.out⟩
  have HS : Hid (storeB l now = chainsB l now) := storeB_chains h16 ⟨by omega, by omega⟩
  have HR : Hid (ChRow 0 _ _ a l) := ChRow.up hr B0.out
  have HT : Hid (∀ x ∈ l, x.length ≤ 1048576) := ht
  clear h16 hr ht
  go_enter Try.func66, Try.ntmps66
  go_wp2_with fail
  obtain ⟨V, hV⟩ : ∃ V, V = w.alloc (.cells #[.slice a l.length c, .int .i64 now] 38) := ⟨_, rfl⟩
  have zV : V.heap.size = w.heap.size + 1 := by rw [hV]; simp
  have cV : V.heap[w.heap.size]? = some (.cells #[.slice a l.length c, .int .i64 now] 38 (0, 0)) := by rw [hV]; exact heap_alloc_new _ _
  rw [← hV] at HR B0 ⊢
  have CV : Hid (V.heap[w.heap.size]? = some (.cells #[.slice a l.length c, .int .i64 now] 38 (0, 0))) := cV
  clear hV cV
  go_loopw [22] (fun i w' => ∃ (k : Nat), k ≤ l.length ∧ i = .int .i64 k ∧ Below V.heap.size V w' ∧ Hid (∀ i (hi : i < l.length), i < k → chainB i now l[i] = true)) (fun i _ => l.length - (intOf i).toNat)
  case atStart => exact ⟨0, by omega, rfl, Below.refl _ _, fun i _ h => by omega⟩
  case round =>
    rename_i wr
    obtain ⟨k, hk1, rfl, hb, HK⟩ := hrel
    have hz := hb.size
    have cw := fun o => (hb.cell (p := ⟨w.heap.size, o, none⟩) (show w.heap.size < V.heap.size by omega)).trans (row_cell CV.out o)
    have Q : Hid (Below w.heap.size w wr) := B0.out.trans (hb.mono (by omega))
    by_cases hlt : k < l.length
    · obtain ⟨b, o, a3, c3, ha, _, hbl, d0, _, r3⟩ := ChRow.cells (ChRow.keep HR.out (agree hb (Nat.le_refl _))) k hlt
      subst ha
      have R3 : Hid (VeRow 0 wr.heap.size wr a3 l[k]) := VeRow.wide r3 (Nat.le_refl _) hb.size
      have HX : Hid (l[k].length ≤ 1048576) := HT.out l[k] (List.getElem_mem hlt)
      have hk16 : k < 16 := by have := H16.out; omega
      clear r3
      cases hv : chainB k now l[k]
      · have HN : Hid (false = storeB l now) := by rw [Hid, HS.out]; exact (chainsB_false hlt hv).symm
        go_wp2_with (first | (go_at_call 74; refine (impl_chainOK k a3 c3 l[k] now _ R3.out HX.out hk16).mono ?_; rintro e w1 ⟨rfl, hb1⟩; rw [hv]))
        go_ret
        exact ⟨ret_b HN.out, Q.out.trans (hb1.mono (by omega))⟩
      · go_wp2_with (first | (go_at_call 74; refine (impl_chainOK k a3 c3 l[k] now _ R3.out HX.out hk16).mono ?_; rintro e w1 ⟨rfl, hb1⟩; rw [hv]))
        refine ⟨⟨k + 1, by omega, by go_num, hb.trans (hb1.mono (by omega)), ?_⟩, by simp [intOf]; omega⟩
        intro i hi1 hi2
        by_cases e : i = k
        · subst e; exact hv
        · exact HK.out i hi1 (by omega)
    · have HN : Hid (true = storeB l now) := by rw [Hid, HS.out]; exact (chainsB_true (fun i hi => HK.out i hi (by omega))).symm
      go_wp2_with fail
      go_ret
      exact ⟨ret_b HN.out, Q.out⟩
end Go.Proofs.Ytlfcjhiojbcijaa.G
