/- The specification's TxnOK and Conflicts. -/
import Derived.Test.YtlfcjhiojbcijaaStTxMath
import Derived.Test.YtlfcjhiojbcijaaStNums
import Derived.Deep.CutBlock
import Derived.Deep.CutRange
namespace Go.Proofs.Ytlfcjhiojbcijaa.G
open Go.ChangeShapes Go.WideShapes Go.ChangeAt Go.RowKit
set_option linter.unusedVariables false

/-- A transaction's rows: keys that were read, writes. -/
def TxRow (lo hi : Nat) (w : World) (ra wa : Option Addr) (rs : List Int) (ws : List Ve) : Prop := NuRow lo hi w ra rs ∧ VeRow lo hi w wa ws
theorem TxRow.keep {lo hi : Nat} {w w' : World} {ra wa : Option Addr} {rs : List Int} {ws : List Ve} (h : TxRow lo hi w ra wa rs ws) (hk : Agree lo hi w w') : TxRow lo hi w' ra wa rs ws := ⟨NuRow.keep h.1 hk, VeRow.keep h.2 hk⟩
theorem TxRow.wide {lo hi lo' hi' : Nat} {w : World} {ra wa : Option Addr} {rs : List Int} {ws : List Ve} (h : TxRow lo hi w ra wa rs ws) (e1 : lo' ≤ lo) (e2 : hi ≤ hi') : TxRow lo' hi' w ra wa rs ws := ⟨NuRow.wide h.1 e1 e2, VeRow.wide h.2 e1 e2⟩
theorem TxRow.up {w w' : World} {ra wa : Option Addr} {rs : List Int} {ws : List Ve} (h : TxRow 0 w.heap.size w ra wa rs ws) (hb : Below w.heap.size w w') : TxRow 0 w'.heap.size w' ra wa rs ws := ⟨NuRow.up h.1 hb, VeRow.up h.2 hb⟩
def TxBd (m : Nat) (rs : List Int) (ws : List Ve) : Prop := rs.length ≤ m ∧ ws.length ≤ m
theorem NuRow.take {lo hi : Nat} {w : World} {a : Option Addr} {x : List Int} (h : NuRow lo hi w a x) (n : Nat) : NuRow lo hi w a (x.take n) := by
  rcases h with rfl | ⟨b, o, e, h1, h2, h3⟩
  · exact .inl (by simp)
  · exact .inr ⟨b, o, e, h1, h2, fun i y hy => h3 i y (by rw [List.getElem?_take] at hy; split at hy; exact hy; cases hy)⟩
set_option maxHeartbeats 1000000 in
theorem spec_has (a : Option Addr) (c : Nat) (x : List Int) (n : Int) (w : World) (hr : NuRow 0 w.heap.size w a x) (hl : x.length ≤ 1048576) {B : Bool} (hB : decide (n ∈ x) = B) :
    Calls Try.prog 48 #[.slice a x.length c, .int .i64 n] w fun e w' => e = .returned (.bool B) ∧ w' = w := by
  have HR : Hid _ := hr
  have HB : Hid (decide (n ∈ x) = B) := hB
  clear hr hB
  go_enter Try.func48, Try.ntmps48
  go_wp2_with fail
  go_loop [5] (fun i => ∃ (k : Nat), k ≤ x.length ∧ i = .int .i64 k ∧ Hid (∀ i (h : i < x.length), i < k → x[i] ≠ n)) (fun i => x.length - (intOf i).toNat)
  case atStart => exact ⟨0, by omega, rfl, fun i _ h => by omega⟩
  case round =>
    obtain ⟨k, hk, rfl, HK⟩ := hrel
    by_cases hlt : k < x.length
    · obtain ⟨b, o, ha, _, hbl, d0⟩ := NuRow.cells HR.out k hlt
      subst ha
      have hlt' : (k : Int) < x.length := by omega
      by_cases he : x[k] = n
      · have HT : Hid (true = B) := by rw [Hid, ← HB.out]; exact (decide_eq_true (by rw [← he]; exact List.getElem_mem hlt)).symm
        rw [he] at d0
        clear he
        go_wp2_with fail
        go_ret
        exact ⟨congrArg (fun b => Ending.returned (.bool b)) HT.out, rfl⟩
      · have he' : (x[k] == n) = false := by simpa using he
        have HK2 : Hid (∀ i (h : i < x.length), i < k + 1 → x[i] ≠ n) := fun i h1 h2 => by
          by_cases e : i = k
          · subst e; exact he
          · exact HK.out i h1 (by omega)
        clear he
        go_wp2_with fail
        go_round
        case rel => exact ⟨k + 1, by omega, by go_num, HK2⟩
        case measure => simp [intOf]; omega
    · have HT : Hid (false = B) := by
        rw [Hid, ← HB.out]
        refine (decide_eq_false fun h => ?_).symm
        obtain ⟨i, hi, e⟩ := List.getElem_of_mem h
        exact HK.out i hi (by omega) e
      go_wp2_with fail
      go_ret
      exact ⟨congrArg (fun b => Ending.returned (.bool b)) HT.out, rfl⟩
set_option maxHeartbeats 4000000 in
theorem spec_txOK (a ra wa : Option Addr) (c rc wc : Nat) (l : Chs) (now st : Int) (rs : List Int) (ws : List Ve) (w : World) (hr : TxRow 0 w.heap.size w ra wa rs ws) (hbd : TxBd 1048576 rs ws) (hcap : rs.length ≤ rc) :
    Calls Try.prog 46 #[.agg #[.slice a l.length c, .int .i64 now], .agg #[.int .i64 st, .slice ra rs.length rc, .slice wa ws.length wc]] w fun e w' => e = .returned (.bool (txB now st rs ws)) ∧ Below w.heap.size w w' := by
  obtain ⟨V, hV⟩ : ∃ V, V = (w.alloc (.cells #[.slice a l.length c, .int .i64 now] 38)).alloc (.cells #[.int .i64 st, .slice ra rs.length rc, .slice wa ws.length wc] 33) := ⟨_, rfl⟩
  have bV : Below w.heap.size w V := by
    rw [hV]
    repeat (first | exact Below.refl _ _ | refine Below.alloc ?_ (by first | omega | (simp <;> omega)) _)
  have zV : V.heap.size = w.heap.size + 2 := by rw [hV]; simp
  have c0 : V.heap[w.heap.size]? = some (.cells #[.slice a l.length c, .int .i64 now] 38 (0, 0)) := by
    rw [hV, Below.heap_alloc _ _ _ (by simp)]; exact heap_alloc_new _ _
  have c1 : V.heap[w.heap.size + 1]? = some (.cells #[.int .i64 st, .slice ra rs.length rc, .slice wa ws.length wc] 33 (0, 0)) := by
    rw [hV]
    have := heap_alloc_new (w.alloc (.cells #[.slice a l.length c, .int .i64 now] 38)) (.cells #[.int .i64 st, .slice ra rs.length rc, .slice wa ws.length wc] 33)
    simpa using this
  have KV : Hid (∀ W, Below V.heap.size V W → W.heap[w.heap.size]? = some (.cells #[.slice a l.length c, .int .i64 now] 38 (0, 0)) ∧ W.heap[w.heap.size + 1]? = some (.cells #[.int .i64 st, .slice ra rs.length rc, .slice wa ws.length wc] 33 (0, 0)) ∧ Below w.heap.size w W) := fun W h =>
    ⟨(h.block _ (by omega)).trans c0, (h.block _ (by omega)).trans c1, bV.trans (h.mono (by omega))⟩
  have HR : Hid (∀ W0, Below w.heap.size w W0 → TxRow 0 W0.heap.size W0 ra wa rs ws) := fun W0 hB => TxRow.up hr hB
  have hl1 := hbd.1
  have hl2 := hbd.2
  have x0 := fun o => row_cell c0 o
  have x1 := fun o => row_cell c1 o
  clear hr hbd c0 c1 bV
  go_enter Try.func46, Try.ntmps46
  go_upto_region 1 with fail
  rw [← hV]
  clear hV
  cases hS : inS st 0 now
  · have HN : Hid (false = txB now st rs ws) := by rw [Hid, txB, hS]; rfl
    have H : Hid _ := hS
    clear hS
    go_wp2_with (first | (go_at_call 22; refine (spec_inS _ _ _ _ H.out).mono ?_; rintro e w' ⟨rfl, hw'⟩; rw [hw']) | fail)
    go_ret
    exact ⟨ret_b HN.out, (KV.out _ (Below.refl _ _)).2.2⟩
  have H : Hid (inS st 0 now = true) := hS
  clear hS
  cases hP : putsB ws
  · have HN : Hid (false = txB now st rs ws) := by rw [Hid, txB, H.out, hP]; rfl
    have HP : Hid _ := hP
    clear hP
    go_wp2_with (first | (go_at_call 22; refine (spec_inS _ _ _ _ H.out).mono ?_; rintro e w' ⟨rfl, hw'⟩; rw [hw']) | fail)
    refine (spec_puts wa wc ws _ (HR.out _ (KV.out _ (Below.refl _ _)).2.2).2 hl2).mono ?_
    rintro e w1 ⟨rfl, b1⟩
    rw [HP.out]
    have Q : Hid _ := (KV.out _ b1).2.2
    clear b1
    go_wp2_with fail
    go_ret
    exact ⟨ret_b HN.out, Q.out⟩
  have HP : Hid (putsB ws = true) := hP
  clear hP
  go_wp2_with (first | (go_at_call 22; refine (spec_inS _ _ _ _ H.out).mono ?_; rintro e w' ⟨rfl, hw'⟩; rw [hw']) | fail)
  refine (spec_puts wa wc ws _ (HR.out _ (KV.out _ (Below.refl _ _)).2.2).2 hl2).mono ?_
  rintro e w1 ⟨rfl, b1⟩
  rw [HP.out]
  have B1 : Hid (Below V.heap.size V w1) := b1
  clear b1 x0 x1
  have HX : Hid (txB now st rs ws = readsB rs) := by rw [Hid, txB, H.out, HP.out]; rfl
  go_wp2_with fail
  go_loopw [5] (fun i w' => ∃ (k : Nat), k ≤ rs.length ∧ i = .int .i64 k ∧ Hid (Below V.heap.size V w') ∧ Hid (∀ i, i < k → rdB rs i = true)) (fun i _ => rs.length - (intOf i).toNat)
  case atStart => exact ⟨0, by omega, rfl, B1, fun i h => by omega⟩
  case round =>
    obtain ⟨wo, rfl⟩ : ∃ x, x = wr := ⟨_, rfl⟩
    obtain ⟨k, hk, rfl, HB, HK⟩ := hrel
    obtain ⟨t0, t1, t2⟩ := KV.out _ HB.out
    have x0 := fun o => row_cell t0 o
    have x1 := fun o => row_cell t1 o
    have Q : Hid _ := t2
    have RW : Hid _ := HR.out _ t2
    clear t0 t1 t2
    by_cases hlt : k < rs.length
    case neg =>
      have HN : Hid (true = txB now st rs ws) := by rw [Hid, HX.out]; exact (readsB_true fun i hi => HK.out i (by omega)).symm
      go_wp2_with fail
      go_ret
      exact ⟨ret_b HN.out, Q.out⟩
    obtain ⟨b, o, ha, _, hbl, d0⟩ := NuRow.cells RW.out.1 k hlt
    have RT : Hid (NuRow 0 wo.heap.size wo ra (rs.take k)) := NuRow.take RW.out.1 k
    subst ha
    have hlt' : (k : Int) < rs.length := by omega
    have hkc : (k : Int) ≤ rc := by omega
    have hkl : (rs.take k).length = k := by simp; omega
    have HKL : Hid _ := hkl
    clear hkl
    cases hA : inS rs[k] 0 15
    · have HN : Hid (false = txB now st rs ws) := by rw [Hid, HX.out]; exact (readsB_false hlt (by rw [rdB_eq hlt, hA]; rfl)).symm
      have HA : Hid _ := hA
      clear hA
      go_wp2_with fail
      go_quiet ((first | (go_at_call 22; exact Calls.quiet_of_same (spec_inS _ _ _ _ HA.out))))
      go_wp2_with fail
      go_ret
      exact ⟨ret_b HN.out, below_drewN Q.out _⟩
    have HA : Hid (inS rs[k] 0 15 = true) := hA
    clear hA
    cases hM : decide (rs[k] ∈ rs.take k)
    · have HO : Hid (rdB rs k = true) := by rw [Hid, rdB_eq hlt, HA.out, hM]; rfl
      have HQ : Hid (∀ n, Calls Try.prog 48 #[.slice (some ⟨b, o, none⟩) k rc, .int .i64 rs[k]] (wo.drewN n) fun e w' => e = .returned (.bool false) ∧ w' = wo.drewN n) := fun n => by
        have hq := spec_has (some ⟨b, o, none⟩) rc (rs.take k) rs[k] (wo.drewN n) (NuRow.up RT.out (below_drewN (Below.refl _ _) n)) (by rw [HKL.out]; omega) hM
        rw [HKL.out] at hq
        exact hq
      clear hM
      go_wp2_with fail
      go_quiet ((first | (go_at_call 22; exact Calls.quiet_of_same (spec_inS _ _ _ _ HA.out)) | (go_at_call 48; exact Calls.quiet_of_same (HQ.out _))))
      go_wp2_with fail
      refine ⟨⟨k + 1, by omega, by go_num, below_drewN HB.out _, ?_⟩, by simp [intOf]; omega⟩
      intro i hi
      by_cases e : i = k
      · subst e; exact HO.out
      · exact HK.out i (by omega)
    · have HN : Hid (false = txB now st rs ws) := by rw [Hid, HX.out]; exact (readsB_false hlt (by rw [rdB_eq hlt, HA.out, hM]; rfl)).symm
      have HQ : Hid (∀ n, Calls Try.prog 48 #[.slice (some ⟨b, o, none⟩) k rc, .int .i64 rs[k]] (wo.drewN n) fun e w' => e = .returned (.bool true) ∧ w' = wo.drewN n) := fun n => by
        have hq := spec_has (some ⟨b, o, none⟩) rc (rs.take k) rs[k] (wo.drewN n) (NuRow.up RT.out (below_drewN (Below.refl _ _) n)) (by rw [HKL.out]; omega) hM
        rw [HKL.out] at hq
        exact hq
      clear hM
      go_wp2_with fail
      go_quiet ((first | (go_at_call 22; exact Calls.quiet_of_same (spec_inS _ _ _ _ HA.out)) | (go_at_call 48; exact Calls.quiet_of_same (HQ.out _))))
      go_wp2_with fail
      go_ret
      exact ⟨ret_b HN.out, below_drewN Q.out _⟩
end Go.Proofs.Ytlfcjhiojbcijaa.G
