/- A region that draws its order, by one fact an operation: what each leaves in its slot holds on in every later world. -/
import Derived.Test.YtaeknfjmbjeloaaStPutsOK
import Derived.Test.YtaeknfjmbjeloaaStTo
import Derived.Deep.CutBlock
import Derived.Deep.CutRange
import Derived.Deep.AppendLies
import Derived.Laws.CopyOwn
import Derived.Deep.AppendSrc
import Derived.Deep.Upon
import Derived.Test.YtaeknfjmbjeloaaStUpMath
import Derived.RegionTactic
namespace Go.Proofs.Ytaeknfjmbjeloaa.G
set_option linter.unusedVariables false

/-- One key that was read: in range, and not read ahead. -/
def rdB (rs : List Int) (i : Nat) : Bool := inS ((rs[i]?).getD 0) 0 15 && !decide ((rs[i]?).getD 0 ∈ rs.take i)
def readsB (rs : List Int) : Bool := (List.range rs.length).all (rdB rs)
def txB (now st : Int) (rs : List Int) (ws : List Ve) : Bool := inS st 0 now && putsB ws && readsB rs
def txnB (l : Chs) (now st : Int) (rs : List Int) (ws : List Ve) : Bool := storeB l now && txB now st rs ws
theorem rdB_eq {rs : List Int} {i : Nat} (h : i < rs.length) : rdB rs i = (inS rs[i] 0 15 && !decide (rs[i] ∈ rs.take i)) := by simp [rdB, h]
theorem readsB_true {rs : List Int} (h : ∀ i, i < rs.length → rdB rs i = true) : readsB rs = true := by
  unfold readsB; rw [List.all_eq_true]; intro i hi; exact h i (List.mem_range.1 hi)
theorem readsB_false {rs : List Int} {i : Nat} (hi : i < rs.length) (h : rdB rs i = false) : readsB rs = false := by
  unfold readsB; rw [List.all_eq_false]; exact ⟨i, List.mem_range.2 hi, by simp [h]⟩
theorem readsB_at {rs : List Int} (h : readsB rs = true) {i : Nat} (hi : i < rs.length) : (0 ≤ rs[i] ∧ rs[i] < 16) ∧ rs[i] ∉ rs.take i := by
  unfold readsB at h; rw [List.all_eq_true] at h
  have := h i (List.mem_range.2 hi)
  rw [rdB_eq hi, Bool.and_eq_true, inS_iff] at this
  exact ⟨by omega, by simpa using this.2⟩
theorem txnB_all {l : Chs} {now st : Int} {rs : List Int} {ws : List Ve} (h : txnB l now st rs ws = true) : storeB l now = true ∧ (0 ≤ st ∧ st ≤ now) ∧ putsB ws = true ∧ readsB rs = true := by
  simp only [txnB, txB, Bool.and_eq_true, inS_iff] at h
  exact ⟨h.1, h.2.1.1, h.2.1.2, h.2.2⟩
/-- What a transaction reads. -/
def rdV (l : Chs) (st : Int) (ws : List Ve) (key : Int) : Int := (lastW key ws).getD (readV (chAt l key.toNat) st)
/-- What it has read then. -/
def rdK (rs : List Int) (ws : List Ve) (key : Int) : List Int := if (lastW key ws).isSome = true ∨ key ∈ rs then rs else rs ++ [key]
/-- Something that it read was written since, and it writes. -/
def confB (l : Chs) (st : Int) (rs : List Int) (ws : List Ve) : Bool := rs.any (fun k => chgB (chAt l k.toNat) st) && decide (0 < ws.length)
theorem pig : ∀ (t S : List Int), t.Pairwise (fun x y => x ≠ y) → (∀ x ∈ t, x ∈ S) → t.length ≤ S.length
  | [], S, _, _ => Nat.zero_le _
  | x :: t, S, hp, hs => by
    have h1 := pig t (S.erase x) (List.pairwise_cons.1 hp).2 (fun y hy => (List.mem_erase_of_ne (fun e => (List.pairwise_cons.1 hp).1 y hy e.symm)).2 (hs y (by simp [hy])))
    have h2 := List.length_erase_of_mem (hs x (by simp))
    have h3 : 0 < S.length := List.length_pos_of_mem (hs x (by simp))
    simp only [List.length_cons]; omega
theorem readsB_len {rs : List Int} (h : readsB rs = true) : rs.length ≤ 16 := by
  have := pig rs ((List.range 16).map Int.ofNat) (by
    rw [List.pairwise_iff_getElem]
    intro i j hi hj hij e
    refine (readsB_at h hj).2 ?_
    rw [List.mem_iff_getElem]
    exact ⟨i, by simp; omega, by simp [e]⟩) (fun x hx => by
    obtain ⟨i, hi, rfl⟩ := List.getElem_of_mem hx
    have := (readsB_at h hi).1
    rw [List.mem_map]
    exact ⟨rs[i].toNat, by rw [List.mem_range]; omega, by show ((rs[i].toNat : Nat) : Int) = _; omega⟩)
  simpa using this
theorem rdK_len {rs : List Int} {ws : List Ve} {key : Int} (h : readsB rs = true) : (rdK rs ws key).length ≤ 17 := by
  have := readsB_len h
  unfold rdK
  split
  · omega
  · simp; omega
/-- What Commit tells. -/
def CoIs (l : Chs) (now st : Int) (rs : List Int) (ws : List Ve) (m : Chs) (nr h cd : Int) : Prop :=
  (ws.length = 0 ∧ m = l ∧ nr = now ∧ h = st ∧ cd = 0) ∨
  (0 < ws.length ∧ confB l st rs ws = true ∧ m = l ∧ nr = now ∧ h = 0 ∧ cd = 16) ∨
  (0 < ws.length ∧ confB l st rs ws = false ∧ now = 100000 ∧ m = l ∧ nr = now ∧ h = 0 ∧ cd = 7) ∨
  (0 < ws.length ∧ confB l st rs ws = false ∧ now ≠ 100000 ∧ m = wrAll (now + 1) l ws ∧ nr = now + 1 ∧ h = now + 1 ∧ cd = 0)
end Go.Proofs.Ytaeknfjmbjeloaa.G
namespace Go.Proofs.Ytaeknfjmbjeloaa.G
open Go.ChangeShapes Go.WideShapes Go.ChangeAt Go.RowKit
set_option linter.unusedVariables false

/-- A transaction's rows: keys that were read, writes. -/
def TxRow (lo hi : Nat) (w : World) (ra wa : Option Addr) (rs : List Int) (ws : List Ve) : Prop := NuRow lo hi w ra rs ∧ VeRow lo hi w wa ws
theorem TxRow.keep {lo hi : Nat} {w w' : World} {ra wa : Option Addr} {rs : List Int} {ws : List Ve} (h : TxRow lo hi w ra wa rs ws) (hk : Agree lo hi w w') : TxRow lo hi w' ra wa rs ws := ⟨NuRow.keep h.1 hk, VeRow.keep h.2 hk⟩
theorem TxRow.wide {lo hi lo' hi' : Nat} {w : World} {ra wa : Option Addr} {rs : List Int} {ws : List Ve} (h : TxRow lo hi w ra wa rs ws) (e1 : lo' ≤ lo) (e2 : hi ≤ hi') : TxRow lo' hi' w ra wa rs ws := ⟨NuRow.wide h.1 e1 e2, VeRow.wide h.2 e1 e2⟩
theorem TxRow.up {w w' : World} {ra wa : Option Addr} {rs : List Int} {ws : List Ve} (h : TxRow 0 w.heap.size w ra wa rs ws) (hb : Below w.heap.size w w') : TxRow 0 w'.heap.size w' ra wa rs ws := ⟨NuRow.up h.1 hb, VeRow.up h.2 hb⟩
def TxBd (m : Nat) (rs : List Int) (ws : List Ve) : Prop := rs.length ≤ m ∧ ws.length ≤ m
theorem NuRow.take {lo hi : Nat} {w : World} {a : Option Addr} {x : List Int} (h : NuRow lo hi w a x) (n : Nat) : NuRow lo hi w a (x.take n) := by
  rcases h with rfl | ⟨b, o, e, h1, h2, h3⟩
  · exact .inl (by simp)
  · exact .inr ⟨b, o, e, h1, h2, fun i y hy => h3 i y (by rw [List.getElem?_take] at hy; split at hy; exact hy; cases hy)⟩
set_option maxHeartbeats 1000000 in
theorem spec_has (a : Option Addr) (c : Nat) (x : List Int) (n : Int) (w : World) (hr : NuRow 0 w.heap.size w a x) (hl : x.length ≤ 1048576) {B : Bool} (hB : decide (n ∈ x) = B) :
    Calls Try.prog 65 #[.slice a x.length c, .int .i64 n] w fun e w' => e = .returned (.bool B) ∧ w' = w := by
  have HR : Hid _ := hr
  have HB : Hid (decide (n ∈ x) = B) := hB
  clear hr hB
  go_enter Try.func65, Try.ntmps65
  go_wp2_with fail
  go_loop [5] (fun i => ∃ (k : Nat), k ≤ x.length ∧ i = .int .i64 k ∧ Hid (∀ i (h : i < x.length), i < k → x[i] ≠ n)) (fun i => x.length - (intOf i).toNat)
  case atStart => exact ⟨0, by omega, rfl, fun i _ h => by omega⟩
  case round =>
    obtain ⟨k, hk, rfl, HK⟩ := hrel
    by_cases hlt : k < x.length
    · obtain ⟨b, o, ha, _, hbl, d0⟩ := NuRow.cells HR.out k hlt
      subst ha
      have hlt' : (k : Int) < x.length := by omega
      by_cases he : x[k] = n
      · have HT : Hid (true = B) := by rw [Hid, ← HB.out]; exact (decide_eq_true (by rw [← he]; exact List.getElem_mem hlt)).symm
        rw [he] at d0
        clear he
        go_wp2_with fail
        go_ret
        exact ⟨congrArg (fun b => Ending.returned (.bool b)) HT.out, rfl⟩
      · have he' : (x[k] == n) = false := by simpa using he
        have HK2 : Hid (∀ i (h : i < x.length), i < k + 1 → x[i] ≠ n) := fun i h1 h2 => by
          by_cases e : i = k
          · subst e; exact he
          · exact HK.out i h1 (by omega)
        clear he
        go_wp2_with fail
        go_round
        case rel => exact ⟨k + 1, by omega, by go_num, HK2⟩
        case measure => simp [intOf]; omega
    · have HT : Hid (false = B) := by
        rw [Hid, ← HB.out]
        refine (decide_eq_false fun h => ?_).symm
        obtain ⟨i, hi, e⟩ := List.getElem_of_mem h
        exact HK.out i hi (by omega) e
      go_wp2_with fail
      go_ret
      exact ⟨congrArg (fun b => Ending.returned (.bool b)) HT.out, rfl⟩
set_option maxHeartbeats 4000000 in
theorem spec_txOK (a ra wa : Option Addr) (c rc wc : Nat) (l : Chs) (now st : Int) (rs : List Int) (ws : List Ve) (w : World) (hr : TxRow 0 w.heap.size w ra wa rs ws) (hbd : TxBd 1048576 rs ws) (hcap : rs.length ≤ rc) :
    Calls Try.prog 60 #[.agg #[.slice a l.length c, .int .i64 now], .agg #[.int .i64 st, .slice ra rs.length rc, .slice wa ws.length wc]] w fun e w' => e = .returned (.bool (txB now st rs ws)) ∧ Below w.heap.size w w' := by
  obtain ⟨V, hV⟩ : ∃ V, V = (w.alloc (.cells #[.slice a l.length c, .int .i64 now] 25)).alloc (.cells #[.int .i64 st, .slice ra rs.length rc, .slice wa ws.length wc] 30) := ⟨_, rfl⟩
  have bV : Below w.heap.size w V := by
    rw [hV]
    repeat (first | exact Below.refl _ _ | refine Below.alloc ?_ (by first | omega | (simp <;> omega)) _)
  have zV : V.heap.size = w.heap.size + 2 := by rw [hV]; simp
  have c0 : V.heap[w.heap.size]? = some (.cells #[.slice a l.length c, .int .i64 now] 25 (0, 0)) := by
    rw [hV, Below.heap_alloc _ _ _ (by simp)]; exact heap_alloc_new _ _
  have c1 : V.heap[w.heap.size + 1]? = some (.cells #[.int .i64 st, .slice ra rs.length rc, .slice wa ws.length wc] 30 (0, 0)) := by
    rw [hV]
    have := heap_alloc_new (w.alloc (.cells #[.slice a l.length c, .int .i64 now] 25)) (.cells #[.int .i64 st, .slice ra rs.length rc, .slice wa ws.length wc] 30)
    simpa using this
  have KV : Hid (∀ W, Below V.heap.size V W → W.heap[w.heap.size]? = some (.cells #[.slice a l.length c, .int .i64 now] 25 (0, 0)) ∧ W.heap[w.heap.size + 1]? = some (.cells #[.int .i64 st, .slice ra rs.length rc, .slice wa ws.length wc] 30 (0, 0)) ∧ Below w.heap.size w W) := fun W h =>
    ⟨(h.block _ (by omega)).trans c0, (h.block _ (by omega)).trans c1, bV.trans (h.mono (by omega))⟩
  have HR : Hid (∀ W0, Below w.heap.size w W0 → TxRow 0 W0.heap.size W0 ra wa rs ws) := fun W0 hB => TxRow.up hr hB
  have hl1 := hbd.1
  have hl2 := hbd.2
  have x0 := fun o => row_cell c0 o
  have x1 := fun o => row_cell c1 o
  clear hr hbd c0 c1 bV
  go_enter Try.func60, Try.ntmps60
  go_upto_region 1 with fail
  rw [← hV]
  clear hV
  cases hS : inS st 0 now
  · have HN : Hid (false = txB now st rs ws) := by rw [Hid, txB, hS]; rfl
    have H : Hid _ := hS
    clear hS
    go_wp2_with (first | (go_at_call 69; refine (spec_inS _ _ _ _ H.out).mono ?_; rintro e w' ⟨rfl, hw'⟩; rw [hw']) | fail)
    go_ret
    exact ⟨ret_b HN.out, (KV.out _ (Below.refl _ _)).2.2⟩
  have H : Hid (inS st 0 now = true) := hS
  clear hS
  cases hP : putsB ws
  · have HN : Hid (false = txB now st rs ws) := by rw [Hid, txB, H.out, hP]; rfl
    have HP : Hid _ := hP
    clear hP
    go_wp2_with (first | (go_at_call 69; refine (spec_inS _ _ _ _ H.out).mono ?_; rintro e w' ⟨rfl, hw'⟩; rw [hw']) | fail)
    refine (spec_puts wa wc ws _ (HR.out _ (KV.out _ (Below.refl _ _)).2.2).2 hl2).mono ?_
    rintro e w1 ⟨rfl, b1⟩
    rw [HP.out]
    have Q : Hid _ := (KV.out _ b1).2.2
    clear b1
    go_wp2_with fail
    go_ret
    exact ⟨ret_b HN.out, Q.out⟩
  have HP : Hid (putsB ws = true) := hP
  clear hP
  go_wp2_with (first | (go_at_call 69; refine (spec_inS _ _ _ _ H.out).mono ?_; rintro e w' ⟨rfl, hw'⟩; rw [hw']) | fail)
  refine (spec_puts wa wc ws _ (HR.out _ (KV.out _ (Below.refl _ _)).2.2).2 hl2).mono ?_
  rintro e w1 ⟨rfl, b1⟩
  rw [HP.out]
  have B1 : Hid (Below V.heap.size V w1) := b1
  clear b1 x0 x1
  have HX : Hid (txB now st rs ws = readsB rs) := by rw [Hid, txB, H.out, HP.out]; rfl
  go_wp2_with fail
  go_loopw [5] (fun i w' => ∃ (k : Nat), k ≤ rs.length ∧ i = .int .i64 k ∧ Hid (Below V.heap.size V w') ∧ Hid (∀ i, i < k → rdB rs i = true)) (fun i _ => rs.length - (intOf i).toNat)
  case atStart => exact ⟨0, by omega, rfl, B1, fun i h => by omega⟩
  case round =>
    obtain ⟨wo, rfl⟩ : ∃ x, x = wr := ⟨_, rfl⟩
    obtain ⟨k, hk, rfl, HB, HK⟩ := hrel
    obtain ⟨t0, t1, t2⟩ := KV.out _ HB.out
    have x0 := fun o => row_cell t0 o
    have x1 := fun o => row_cell t1 o
    have Q : Hid _ := t2
    have RW : Hid _ := HR.out _ t2
    clear t0 t1 t2
    by_cases hlt : k < rs.length
    case neg =>
      have HN : Hid (true = txB now st rs ws) := by rw [Hid, HX.out]; exact (readsB_true fun i hi => HK.out i (by omega)).symm
      go_wp2_with fail
      go_ret
      exact ⟨ret_b HN.out, Q.out⟩
    obtain ⟨b, o, ha, _, hbl, d0⟩ := NuRow.cells RW.out.1 k hlt
    have RT : Hid (NuRow 0 wo.heap.size wo ra (rs.take k)) := NuRow.take RW.out.1 k
    subst ha
    have hlt' : (k : Int) < rs.length := by omega
    have hkc : (k : Int) ≤ rc := by omega
    have hkl : (rs.take k).length = k := by simp; omega
    have HKL : Hid _ := hkl
    clear hkl
    cases hA : inS rs[k] 0 15
    · have HN : Hid (false = txB now st rs ws) := by rw [Hid, HX.out]; exact (readsB_false hlt (by rw [rdB_eq hlt, hA]; rfl)).symm
      have HA : Hid _ := hA
      clear hA
      go_wp2_with fail
      go_quiet ((first | (go_at_call 69; exact Calls.quiet_of_same (spec_inS _ _ _ _ HA.out))))
      go_wp2_with fail
      go_ret
      exact ⟨ret_b HN.out, below_drewN Q.out _⟩
    have HA : Hid (inS rs[k] 0 15 = true) := hA
    clear hA
    cases hM : decide (rs[k] ∈ rs.take k)
    · have HO : Hid (rdB rs k = true) := by rw [Hid, rdB_eq hlt, HA.out, hM]; rfl
      have HQ : Hid (∀ n, Calls Try.prog 65 #[.slice (some ⟨b, o, none⟩) k rc, .int .i64 rs[k]] (wo.drewN n) fun e w' => e = .returned (.bool false) ∧ w' = wo.drewN n) := fun n => by
        have hq := spec_has (some ⟨b, o, none⟩) rc (rs.take k) rs[k] (wo.drewN n) (NuRow.up RT.out (below_drewN (Below.refl _ _) n)) (by rw [HKL.out]; omega) hM
        rw [HKL.out] at hq
        exact hq
      clear hM
      go_wp2_with fail
      go_quiet ((first | (go_at_call 69; exact Calls.quiet_of_same (spec_inS _ _ _ _ HA.out)) | (go_at_call 65; exact Calls.quiet_of_same (HQ.out _))))
      go_wp2_with fail
      refine ⟨⟨k + 1, by omega, by go_num, below_drewN HB.out _, ?_⟩, by simp [intOf]; omega⟩
      intro i hi
      by_cases e : i = k
      · subst e; exact HO.out
      · exact HK.out i (by omega)
    · have HN : Hid (false = txB now st rs ws) := by rw [Hid, HX.out]; exact (readsB_false hlt (by rw [rdB_eq hlt, HA.out, hM]; rfl)).symm
      have HQ : Hid (∀ n, Calls Try.prog 65 #[.slice (some ⟨b, o, none⟩) k rc, .int .i64 rs[k]] (wo.drewN n) fun e w' => e = .returned (.bool true) ∧ w' = wo.drewN n) := fun n => by
        have hq := spec_has (some ⟨b, o, none⟩) rc (rs.take k) rs[k] (wo.drewN n) (NuRow.up RT.out (below_drewN (Below.refl _ _) n)) (by rw [HKL.out]; omega) hM
        rw [HKL.out] at hq
        exact hq
      clear hM
      go_wp2_with fail
      go_quiet ((first | (go_at_call 69; exact Calls.quiet_of_same (spec_inS _ _ _ _ HA.out)) | (go_at_call 65; exact Calls.quiet_of_same (HQ.out _))))
      go_wp2_with fail
      go_ret
      exact ⟨ret_b HN.out, below_drewN Q.out _⟩
end Go.Proofs.Ytaeknfjmbjeloaa.G
namespace Go.Proofs.Ytaeknfjmbjeloaa.G
open Go.ChangeShapes Go.WideShapes Go.ChangeAt Go.RowKit
set_option linter.unusedVariables false

theorem listThree {α : Type} {l : List α} (h : l.length = 3) : ∃ v0 v1 v2, l = [v0, v1, v2] := by
  match l, h with
  | [v0, v1, v2], _ => exact ⟨v0, v1, v2, rfl⟩
/-- Writes that a call owns. -/
def PuOwn (lo hi : Nat) (w : World) (a : Option Addr) (x : List Ve) : Prop := x = [] ∨ ∃ g, a = some ⟨g, 0, none⟩ ∧ lo ≤ g ∧ g < hi ∧ PuBlk w g x
theorem PuOwn.keep {lo hi : Nat} {w w' : World} {a : Option Addr} {x : List Ve} (h : PuOwn lo hi w a x) (hk : Agree lo hi w w') : PuOwn lo hi w' a x := by
  rcases h with h | ⟨g, e, h1, h2, h3⟩
  · exact .inl h
  · exact .inr ⟨g, e, h1, h2, h3.move (hk g h1 h2)⟩
theorem PuOwn.wide {lo hi lo' hi' : Nat} {w : World} {a : Option Addr} {x : List Ve} (h : PuOwn lo hi w a x) (e1 : lo' ≤ lo) (e2 : hi ≤ hi') : PuOwn lo' hi' w a x := by
  rcases h with h | ⟨g, e, h1, h2, h3⟩
  · exact .inl h
  · exact .inr ⟨g, e, by omega, by omega, h3⟩
theorem PuOwn.row {lo hi : Nat} {w : World} {a : Option Addr} {x : List Ve} (h : PuOwn lo hi w a x) : VeRow lo hi w a x := by
  rcases h with h | ⟨g, e, h1, h2, h3⟩
  · exact .inl h
  · rw [e]; exact h3.row h1 h2
def TxOwn (lo hi : Nat) (w : World) (ra wa : Option Addr) (rs : List Int) (ws : List Ve) : Prop := NuOwn lo hi w ra rs ∧ PuOwn lo hi w wa ws
theorem TxOwn.keep {lo hi : Nat} {w w' : World} {ra wa : Option Addr} {rs : List Int} {ws : List Ve} (h : TxOwn lo hi w ra wa rs ws) (hk : Agree lo hi w w') : TxOwn lo hi w' ra wa rs ws := ⟨NuOwn.keep h.1 hk, PuOwn.keep h.2 hk⟩
theorem TxOwn.wide {lo hi lo' hi' : Nat} {w : World} {ra wa : Option Addr} {rs : List Int} {ws : List Ve} (h : TxOwn lo hi w ra wa rs ws) (e1 : lo' ≤ lo) (e2 : hi ≤ hi') : TxOwn lo' hi' w ra wa rs ws := ⟨NuOwn.wide h.1 e1 e2, PuOwn.wide h.2 e1 e2⟩
theorem TxOwn.row {lo hi : Nat} {w : World} {ra wa : Option Addr} {rs : List Int} {ws : List Ve} (h : TxOwn lo hi w ra wa rs ws) : TxRow lo hi w ra wa rs ws := ⟨NuOwn.row h.1, PuOwn.row h.2⟩
/-- Marks in a transaction. -/
def PuMkd (lo hi : Nat) (w : World) (a : Option Addr) (n : Nat) (K : Int) : Prop := n = 0 ∨ ∃ g, a = some ⟨g, 0, none⟩ ∧ lo ≤ g ∧ g < hi ∧ PuMk w g K n
theorem PuMkd.keep {lo hi : Nat} {w w' : World} {a : Option Addr} {n : Nat} {K : Int} (h : PuMkd lo hi w a n K) (hk : Agree lo hi w w') : PuMkd lo hi w' a n K := by
  rcases h with h | ⟨g, e, h1, h2, h3⟩
  · exact .inl h
  · exact .inr ⟨g, e, h1, h2, h3.move (hk g h1 h2)⟩
def TxMk (lo hi : Nat) (w : World) (ra wa : Option Addr) (n m : Nat) (K : Int) : Prop := NuMk lo hi w ra n K ∧ PuMkd lo hi w wa m (K + n)
theorem TxMk.keep {lo hi : Nat} {w w' : World} {ra wa : Option Addr} {n m : Nat} {K : Int} (h : TxMk lo hi w ra wa n m K) (hk : Agree lo hi w w') : TxMk lo hi w' ra wa n m K := ⟨NuMk.keep h.1 hk, PuMkd.keep h.2 hk⟩
end Go.Proofs.Ytaeknfjmbjeloaa.G
namespace Go.Proofs.Ytaeknfjmbjeloaa.G
open Go.ChangeShapes Go.WideShapes Go.ChangeAt Go.RowKit
set_option linter.unusedVariables false

/-- A chain's cell value, its versions in a block from lo up that is not the row's. -/
def KidX (row : Option Nat) (lo : Nat) (w : World) (v : Value) (x : List Ve) : Prop :=
  ∃ a c, v = .slice a x.length c ∧ x.length ≤ c ∧ (x = [] ∨ ∃ b, a = some ⟨b, 0, none⟩ ∧ lo ≤ b ∧ b < w.heap.size ∧ some b ≠ row ∧ VeBlk w b x)
def Kids (row : Option Nat) (lo : Nat) (w : World) (vs : List Value) (l : Chs) : Prop := ∀ (i : Nat) (x : List Ve), l[i]? = some x → ∃ v, vs[i]? = some v ∧ KidX row lo w v x
theorem KidX.keep {row row' : Option Nat} {lo : Nat} {w w' : World} {v : Value} {x : List Ve} (h : KidX row lo w v x) (hs : w.heap.size ≤ w'.heap.size) (hk : ∀ k, lo ≤ k → k < w.heap.size → some k ≠ row → w'.heap[k]? = w.heap[k]? ∧ some k ≠ row') : KidX row' lo w' v x := by
  obtain ⟨a, c, h1, h2, h3⟩ := h
  refine ⟨a, c, h1, h2, ?_⟩
  rcases h3 with h3 | ⟨b, g1, g2, g3, g4, g5⟩
  · exact .inl h3
  · obtain ⟨f1, f2⟩ := hk b g2 g3 g4
    exact .inr ⟨b, g1, g2, by omega, f2, g5.move f1⟩
theorem Kids.keep {row row' : Option Nat} {lo : Nat} {w w' : World} {vs : List Value} {l : Chs} (h : Kids row lo w vs l) (hs : w.heap.size ≤ w'.heap.size) (hk : ∀ k, lo ≤ k → k < w.heap.size → some k ≠ row → w'.heap[k]? = w.heap[k]? ∧ some k ≠ row') : Kids row' lo w' vs l := fun i x hx => by
  obtain ⟨v, h1, h2⟩ := h i x hx
  exact ⟨v, h1, h2.keep hs hk⟩
theorem Kids.snoc {row : Option Nat} {lo : Nat} {w : World} {vs : List Value} {l : Chs} {v : Value} {x : List Ve} (h : Kids row lo w vs l) (hl : vs.length = l.length) (hv : KidX row lo w v x) : Kids row lo w (vs ++ [v]) (l ++ [x]) := fun i y hy => by
  by_cases hi : i < l.length
  · rw [List.getElem?_append_left hi] at hy
    obtain ⟨u, h1, h2⟩ := h i y hy
    exact ⟨u, by rw [List.getElem?_append_left (by omega)]; exact h1, h2⟩
  · rw [List.getElem?_append_right (by omega)] at hy
    have : i - l.length < 1 := by have := (List.getElem?_eq_some_iff.1 hy).1; simpa using this
    have e : i - l.length = 0 := by omega
    rw [e] at hy
    simp only [List.getElem?_cons_zero, Option.some.injEq] at hy
    subst hy
    exact ⟨v, by rw [List.getElem?_append_right (by omega), hl, e]; rfl, hv⟩
theorem KidX.one {row : Option Nat} {lo : Nat} {w : World} {v : Value} {x : List Ve} (h : KidX row lo w v x) : v.oneCell' = true := by
  obtain ⟨a, c, rfl, _⟩ := h; rfl
/-- The row and its chains, as a store's chains. -/
theorem Kids.row {lo : Nat} {w : World} {v : Value} {vs : List Value} {l : Chs} (ho : w.ownsRow lo 58 1 v l.length vs) (hk : Kids v.ownBlock lo w vs l) : ∃ a c, v = .slice a l.length c ∧ ChRow lo w.heap.size w a l := by
  obtain ⟨hl, ho⟩ := ho
  rcases ho with ⟨rfl, h0⟩ | ⟨g, cap, cur, rfl, h1, h2, h3, h4, h5, h6⟩
  · have : l = [] := List.eq_nil_of_length_eq_zero h0
    subst this
    exact ⟨none, 0, rfl, .inl rfl⟩
  · refine ⟨_, _, rfl, .inr ⟨g, 0, rfl, h1, (Array.getElem?_eq_some_iff.1 h2).1, fun i x hx => ?_⟩⟩
    obtain ⟨u, g1, a3, c3, rfl, q2, q3⟩ := hk i x hx
    have hi := (List.getElem?_eq_some_iff.1 hx).1
    refine ⟨a3, c3, ?_, q2, ?_⟩
    · rw [row_rd h2]
      rw [← h6, List.getElem?_take, if_pos (by omega)] at g1
      simpa using g1
    · rcases q3 with q3 | ⟨b, e1, e2, e3, e4, e5⟩
      · exact .inl q3
      · rw [e1]; exact e5.row e2 e3
theorem KidX.low {row : Option Nat} {lo lo' : Nat} {w : World} {v : Value} {x : List Ve} (h : KidX row lo w v x) (hl : lo' ≤ lo) : KidX row lo' w v x := by
  obtain ⟨a, c, h1, h2, h3⟩ := h
  refine ⟨a, c, h1, h2, ?_⟩
  rcases h3 with h3 | ⟨b, g1, g2, g3, g4, g5⟩
  · exact .inl h3
  · exact .inr ⟨b, g1, by omega, g3, g4, g5⟩
theorem Kids.low {row : Option Nat} {lo lo' : Nat} {w : World} {vs : List Value} {l : Chs} (h : Kids row lo w vs l) (hl : lo' ≤ lo) : Kids row lo' w vs l := fun i x hx => by
  obtain ⟨v, h1, h2⟩ := h i x hx
  exact ⟨v, h1, h2.low hl⟩
theorem own_low {w : World} {base base' size n : Nat} {e : TypeId} {v : Value} {xs : List Value} (h : w.ownsRow base e size v n xs) (hb : base' ≤ base) : w.ownsRow base' e size v n xs := by
  refine ⟨h.1, ?_⟩
  rcases h.2 with h0 | ⟨g, cap, cur, rfl, h1, h2, h3⟩
  · exact .inl h0
  · exact .inr ⟨g, cap, cur, rfl, by omega, h2, h3⟩
theorem own_set {w : World} {base size n : Nat} {e : TypeId} {v : Value} {xs : List Value} (h : w.ownsRow base e size v n xs) {w' : World} (hk : ∀ g, v.ownBlock = some g → w'.heap[g]? = w.heap[g]?) : w'.ownsRow base e size v n xs := by
  refine ⟨h.1, ?_⟩
  rcases h.2 with h0 | ⟨g, cap, cur, rfl, h1, h2, h3⟩
  · exact .inl h0
  · exact .inr ⟨g, cap, cur, rfl, h1, (hk g rfl).trans h2, h3⟩
/-- A row of chains that grows, told by a struct's cell: the struct lies in block b, the row from lo up outside of it, the chains behind it. -/
structure Grow (b : Nat) (now : Int) (w : World) (v : Value) (vs : List Value) (l : Chs) : Prop where
  cell : w.heap[b]? = some (.cells #[v, .int .i64 now] 25 (0, 0))
  own : w.ownsRow (b - 1) 58 1 v l.length vs
  off : v.ownBlock ≠ some b
  kids : Kids v.ownBlock (b + 1) w vs l
theorem Grow.len {b : Nat} {now : Int} {w : World} {v : Value} {vs : List Value} {l : Chs} (h : Grow b now w v vs l) : vs.length = l.length := by have := h.own.1; omega
theorem Grow.below {b : Nat} {now : Int} {w w' : World} {v : Value} {vs : List Value} {l : Chs} (h : Grow b now w v vs l) (hb : Below w.heap.size w w') : Grow b now w' v vs l := by
  have hlt := (Array.getElem?_eq_some_iff.1 h.cell).1
  refine ⟨(hb.block _ hlt).trans h.cell, own_set h.own (fun g hg => ?_), h.off, h.kids.keep hb.size (fun k h1 h2 h3 => ⟨hb.block k h2, h3⟩)⟩
  refine hb.block g ?_
  rcases h.own.2 with ⟨e, _⟩ | ⟨g', cap, cur, e, _, h2, _⟩
  · subst e; cases hg
  · subst e
    simp only [Value.ownBlock, Option.some.injEq] at hg
    subst hg
    exact (Array.getElem?_eq_some_iff.1 h2).1
theorem Grow.row {b : Nat} {now : Int} {w : World} {v : Value} {vs : List Value} {l : Chs} (h : Grow b now w v vs l) : ∃ a c, v = .slice a l.length c ∧ ChRow (b - 1) w.heap.size w a l := Kids.row h.own (h.kids.low (by omega))
end Go.Proofs.Ytaeknfjmbjeloaa.G
namespace Go.Proofs.Ytaeknfjmbjeloaa.G
open Go.ChangeShapes Go.WideShapes Go.ChangeAt Go.RowKit
set_option linter.unusedVariables false

theorem run_copy_two {P : Program} (w : World) (dT sT ty elem : TypeId) (g o dLen dCap : Nat) (a : Addr) (sLen sCap n : Nat) (cur : Array Value) (t : TypeId) (cs : List Value)
    (hu : P.underlying dT = some (.slice elem)) (hs : (P.info? elem).map (·.size) = some 2)
    (hg : w.heap[g]? = some (.cells cur t (0, 0))) (hm : Nat.min sLen dLen = n) (hn : cs.length = n * 2)
    (hsrc : ∀ j v, cs[j]? = some v → w.cell? (a.add j) = some v) (hfit : o + cs.length ≤ cur.size) (h1 : ∀ v ∈ cs, v.oneCell' = true) :
    (Builtin.copy_ #[dT, sT] ty #[.slice (some ⟨g, o, none⟩) dLen dCap, .slice (some a) sLen sCap]).run P w =
      .ok (goInt n) (w.setRow g (cur.toList.take o ++ cs ++ cur.toList.drop (o + cs.length)).toArray) := by
  have hl := run_loadCells_list (P := P) w a cs hsrc
  have hst := run_storeCells_at P g o t cs 0 cur w hg (by simpa using hfit) h1
  rw [hn] at hl
  cases hq : P.info? elem with
  | none => simp [hq] at hs
  | some i =>
    have hi : i.size = 2 := by simpa [hq] using hs
    simp [Builtin.copy_, run_underlying hu, Builtin.lenOf, Builtin.firstCells, sizeOf, typeInfo, hq, hi, hm, hl, hst]
theorem run_copy_two0 {P : Program} (w : World) (dT sT ty elem : TypeId) (g o dCap : Nat) (d a : Option Addr) (sCap : Nat) (hu : P.underlying dT = some (.slice elem)) (hs : (P.info? elem).map (·.size) = some 2) :
    (Builtin.copy_ #[dT, sT] ty #[.slice d 0 dCap, .slice a 0 sCap]).run P w = .ok (goInt 0) w := by
  cases hq : P.info? elem with
  | none => simp [hq] at hs
  | some i =>
    cases a with
    | none => cases d <;> simp [Builtin.copy_, run_underlying hu, Builtin.lenOf, Builtin.firstCells, sizeOf, typeInfo, hq, storeCells]
    | some a =>
      have hl := run_loadCells_list (P := P) w a [] (by simp)
      rw [List.length_nil] at hl
      cases d <;> simp [Builtin.copy_, run_underlying hu, Builtin.lenOf, Builtin.firstCells, sizeOf, typeInfo, hq, hl, storeCells]
/-- The cells of a chain. -/
def veCells (l : List Ve) : List Value := l.flatMap fun x => [.int .i64 x.ts, .int .i64 x.v]
theorem veCells_len (l : List Ve) : (veCells l).length = l.length * 2 := by
  induction l with
  | nil => rfl
  | cons x l ih => simp only [veCells, List.flatMap_cons, List.length_append] at ih ⊢; rw [ih]; simp; omega
theorem veCells_at : ∀ (l : List Ve) (i : Nat) (x : Ve), l[i]? = some x → (veCells l)[i * 2]? = some (.int .i64 x.ts) ∧ (veCells l)[i * 2 + 1]? = some (.int .i64 x.v)
  | [], i, x, h => by simp at h
  | y :: l, 0, x, h => by
    simp only [List.getElem?_cons_zero, Option.some.injEq] at h
    subst h
    simp [veCells]
  | y :: l, i + 1, x, h => by
    have := veCells_at l i x (by simpa using h)
    have e : veCells (y :: l) = .int .i64 y.ts :: .int .i64 y.v :: veCells l := rfl
    rw [e, show (i + 1) * 2 = i * 2 + 1 + 1 by omega, show i * 2 + 1 + 1 + 1 = i * 2 + 1 + 1 + 1 from rfl]
    simp only [List.getElem?_cons_succ]
    exact this
theorem veCells_one (l : List Ve) : ∀ v ∈ veCells l, v.oneCell' = true := by
  intro v hv
  simp only [veCells, List.mem_flatMap, List.mem_cons, List.not_mem_nil, or_false] at hv
  obtain ⟨x, _, rfl | rfl⟩ := hv <;> rfl
theorem veCells_src {w : World} {b o : Nat} {l : List Ve} (h : ∀ i x, l[i]? = some x → VeAt (rdOf w b) (o + i * 2) x) : ∀ j v, (veCells l)[j]? = some v → w.cell? ((⟨b, o, none⟩ : Addr).add j) = some v := by
  intro j v hv
  have hj : j < l.length * 2 := by rw [← veCells_len]; exact (List.getElem?_eq_some_iff.1 hv).1
  have hi : j / 2 < l.length := by omega
  have hx := List.getElem?_eq_getElem hi
  obtain ⟨h0, h1⟩ := h _ _ hx
  obtain ⟨g0, g1⟩ := veCells_at l _ _ hx
  simp only [add_plain]
  by_cases hm : j % 2 = 0
  · have e : j = j / 2 * 2 := by omega
    rw [← e] at g0
    rw [hv] at g0
    rw [← e] at h0
    rw [g0]; exact h0
  · have e : j = j / 2 * 2 + 1 := by omega
    rw [← e] at g1
    rw [hv] at g1
    have h1' : rdOf w b (o + j) = some (.int .i64 l[j / 2].v) := by have := h1; rw [show o + j / 2 * 2 + 1 = o + j by omega] at this; exact this
    rw [g1]; exact h1'
theorem infoS_Ve : (Try.prog.info? 61).map (·.size) = some 2 := by kernel_rfl
set_option maxHeartbeats 2000000 in
theorem copy_chain (a : Option Addr) (c : Nat) (l : List Ve) (w : World) (hr : VeRow 0 w.heap.size w a l) (hl : l.length ≤ 1048576) :
    Calls Try.prog 51 #[.slice a l.length c] w fun e w' => e = .returned (.slice (some ⟨w.heap.size, 0, none⟩) l.length l.length) ∧ VeBlk w' w.heap.size l ∧ Below w.heap.size w w' := by
  obtain ⟨i27, hi, hz, hsz, hby⟩ := info_Ve
  have hmk := run_make (P := Try.prog) w 58 61 i27 _ Try.underlying58 hi hz .i64 .i64 (l.length : Int) (l.length : Int) (by omega) (by omega) (by rw [hby]; omega) (by omega)
  rw [hsz, Int.toNat_natCast] at hmk
  clear hi hz hsz hby
  have hs0 := size_madeCells (Value.agg #[.int .i64 0, .int .i64 0]).cells (l.length * 2)
  generalize madeCells (Value.agg #[.int .i64 0, .int .i64 0]).cells (l.length * 2) = cs0 at *
  obtain ⟨V, hV⟩ : ∃ V, V = w.alloc (.cells cs0 61) := ⟨_, rfl⟩
  have bV : Below w.heap.size w V := by rw [hV]; exact (Below.refl _ _).alloc (Nat.le_refl _) _
  have cV : V.heap[w.heap.size]? = some (.cells cs0 61 (0, 0)) := by rw [hV]; exact heap_alloc_new _ _
  have hrun : ∃ W, (Builtin.copy_ #[58, 58] 3 #[.slice (some ⟨w.heap.size, 0, none⟩) l.length l.length, .slice a l.length c]).run Try.prog V = .ok (goInt l.length) W ∧ VeBlk W w.heap.size l ∧ Below w.heap.size w W := by
    by_cases h0 : l = []
    · subst h0
      exact ⟨V, run_copy_two0 V _ _ _ _ 0 0 _ _ _ _ Try.underlying58 infoS_Ve, ⟨cs0, cV, by simp, fun i x hx => by simp at hx⟩, bV⟩
    · rcases hr with h | ⟨b, o, rfl, _, hb, hx⟩
      · exact absurd h h0
      have hsrc := veCells_src (w := V) (b := b) (o := o) (l := l) (fun i x h => by
        have := hx i x h
        have e : rdOf V b = rdOf w b := (agree bV (Nat.le_refl _)).rd (Nat.zero_le _) hb
        rw [e]; exact this)
      have hlen := veCells_len l
      refine ⟨_, run_copy_two V _ _ _ _ w.heap.size 0 _ _ _ _ _ l.length cs0 _ (veCells l) Try.underlying58 infoS_Ve cV (Nat.min_self _) hlen hsrc (by omega) (veCells_one l), ?_, below_setRow bV (Nat.le_refl _) _⟩
      have hlist : (List.take 0 cs0.toList ++ veCells l ++ List.drop (0 + (veCells l).length) cs0.toList) = veCells l := by
        rw [List.drop_eq_nil_of_le (by simp; omega)]; simp
      rw [hlist]
      refine ⟨_, setRow_heap V w.heap.size cs0 _ _ _ cV, by simp [hlen], fun i x hx => ?_⟩
      obtain ⟨g0, g1⟩ := veCells_at l i x hx
      exact ⟨by simpa using g0, by simpa using g1⟩
  obtain ⟨W, hW, vW, bW⟩ := hrun
  have HV : Hid (VeBlk W w.heap.size l ∧ Below w.heap.size w W) := ⟨vW, bW⟩
  rw [hV] at hW
  clear hr vW bW bV cV hs0 hV
  go_enter Try.func51, Try.ntmps51
  go_wp2_with fail
  go_ret
  exact ⟨rfl, HV.out.1, HV.out.2⟩
end Go.Proofs.Ytaeknfjmbjeloaa.G
namespace Go.Proofs.Ytaeknfjmbjeloaa.G
open Go.ChangeShapes Go.WideShapes Go.ChangeAt Go.RowKit
set_option linter.unusedVariables false

theorem app_fresh (l : List Ve) (a g : Option Addr) (c : Nat) (W : World) (hr : VeRow 0 W.heap.size W a l) (hl : l.length ≤ 1048576) :
    ∃ a' c' W', (Builtin.append_ #[58, 58] 58 #[.slice g 0 0, .slice a l.length c]).run Try.prog W = .ok (.slice a' l.length c') W' ∧ l.length ≤ c' ∧ (l = [] ∨ (a' = some ⟨W.heap.size, 0, none⟩ ∧ VeBlk W' W.heap.size l)) ∧ Below W.heap.size W W' := by
  obtain ⟨i, hi, hz, hsz, hby⟩ := info_Ve
  have ht := Try.underlying58
  by_cases h0 : l = []
  · subst h0
    have hsrc : Src Try.prog i.size 58 (.slice a 0 c) 0 [] W := by
      cases a
      · exact Src.ofNil W ht c
      · exact Src.ofSlice W ht _ 0 c [] (by simp) (by simp) (by simp)
    exact ⟨g, 0, W, run_append_nothing (P := Try.prog) W _ _ _ _ i ht hi g 0 0 (Nat.le_refl _) _ hsrc, Nat.zero_le _, .inl rfl, Below.refl _ _⟩
  · rcases hr with h | ⟨b, o, rfl, _, hb, hx⟩
    · exact absurd h h0
    have hlen := veCells_len l
    have hpos : 0 < l.length := List.length_pos_iff.2 h0
    have hsrc : Src Try.prog i.size 58 (.slice (some ⟨b, o, none⟩) l.length c) l.length (veCells l) W := Src.ofSlice W ht _ _ c _ (by rw [hsz]; exact hlen) (veCells_src hx) (veCells_one l)
    have hold : (Builtin.firstCells i.size 0 (.slice g 0 0)).run Try.prog W.drew = .ok ([] : List Value).toArray W.drew := by
      cases g with
      | none => exact run_firstCells_none W.drew i.size 0 0 0
      | some g => exact run_firstCells_some W.drew i.size 0 g 0 0 [] (by simp) (by simp)
    have hrun := run_append_grow_src (P := Try.prog) W 58 58 58 61 i _ ht hi hz g 0 0 [] hold _ l.length (veCells l) hsrc (by omega) (by omega) (growslice_fits (by omega) (by rw [hby]; omega))
    simp only [Nat.zero_add, List.nil_append] at hrun
    refine ⟨_, _, _, hrun, grownCap_ge _ _ _ _, .inr ⟨rfl, ?_⟩, ((Below.refl _ _).drew).alloc (Nat.le_refl _) _⟩
    refine ⟨_, heap_alloc_new W.drew _, by simp [hlen], fun j x hx => ?_⟩
    obtain ⟨g0, g1⟩ := veCells_at l j x hx
    have hj := (List.getElem?_eq_some_iff.1 hx).1
    refine ⟨?_, ?_⟩
    · rw [Array.getElem?_append_left (by simp [hlen]; omega)]; simpa using g0
    · rw [Array.getElem?_append_left (by simp [hlen]; omega)]; simpa using g1
theorem app_row (k : Nat) (v u : Value) (vs : List Value) (base h : Nat) (W : World) (ho : W.ownsRow base 58 1 v k vs) (hu : W.heap[h]? = some (.cells #[u] 58 (0, 0))) (h1 : u.oneCell' = true) (hk : k ≤ 1048576) (hb : base ≤ W.heap.size) :
    ∃ g cap W', (Builtin.append_ #[23, 23] 23 #[v, .slice (some ⟨h, 0, none⟩) 1 1]).run Try.prog W = .ok (.slice (some ⟨g, 0, none⟩) (k + 1) cap) W' ∧ W'.ownsRow base 58 1 (.slice (some ⟨g, 0, none⟩) (k + 1) cap) (k + 1) (vs ++ [u]) ∧ W.grownBy W' v.ownBlock ∧ (v.ownBlock = some g ∨ g = W.heap.size) ∧ g < W'.heap.size := by
  obtain ⟨i, hi, hz, hsz, hby⟩ := info_Ch
  exact run_append_lies (P := Try.prog) W 23 23 base 58 i _ 1 24 Try.underlying23 hi hz hsz hby rfl (by decide) v k vs ho ⟨h, 0, none⟩ 1 1 [u] rfl (fun j x hx => by
    have hj : j = 0 := by have := (List.getElem?_eq_some_iff.1 hx).1; simpa using this
    subst hj
    simp only [List.getElem?_cons_zero, Option.some.injEq] at hx
    subst hx
    rw [add_plain]
    exact row_cell hu 0) (fun x hx => by rw [List.mem_singleton.1 hx]; exact h1) (by omega) (by unfold maxLen; omega) (by omega) hb W.heap.size rfl
theorem wp_append_run {P : Program} {o : Oper} {a : Act} {K : Act → World → Prop} {Q : Exit → Act → World → Prop} {w : World} (s x : Operand) (t : TypeId)
    (ho : o.op = .call { callee := .builtin .append, args := #[s, x], argTypes := #[t, t] }) (sv xv rv : Value) (w' : World) (hs : a.eval s = sv) (hx : a.eval x = xv)
    (hr : (Builtin.append_ #[t, t] o.type #[sv, xv]).run P w = .ok rv w') (h : K (a.put o.dst rv) w') : o.wp P a w K Q := by
  unfold Oper.wp execOp
  simp only [ho, resolve, invoke, builtin, Sem.run_bind, Sem.run_pure, Result.andThen_ok, List.map_toArray, List.map_cons, List.map_nil, hs, hx, hr]
  exact h
end Go.Proofs.Ytaeknfjmbjeloaa.G
namespace Go.Proofs.Ytaeknfjmbjeloaa.G
open Go.ChangeShapes Go.WideShapes Go.ChangeAt Go.RowKit
set_option linter.unusedVariables false

/-- One slot written. -/
def upd (u : Nat → Value) (d : Nat) (v : Value) : Nat → Value := fun n => if n = d then v else u n
theorem upd_at (u : Nat → Value) (d : Nat) (v : Value) : upd u d v d = v := by simp [upd]
theorem upd_ne (u : Nat → Value) {d n : Nat} (v : Value) (h : n ≠ d) : upd u d v n = u n := by simp [upd, h]
/-- Every edge goes back. -/
def backB (ops : Array Oper) : Bool := (List.range ops.size).all fun i => match ops[i]? with
  | some o => o.after.all fun e => decide (e.on < i)
  | none => true
/-- Operation n is the last, and waits for all. -/
def lastB (ops : Array Oper) (n : Nat) : Bool := decide (ops.size = n + 1) && (List.range n).all fun i => match ops[n]? with
  | some o => o.after.toList.any fun e => decide (e.on = i) && Region.binds .any e
  | none => false
theorem cntF : ∀ (l : List Bool) (i : Nat), l[i]? = some false → (l.set i true).count false + 1 = l.count false
  | [], i, h => by simp at h
  | b :: l, 0, h => by
    simp only [List.getElem?_cons_zero, Option.some.injEq] at h
    subst h
    simp
  | b :: l, i + 1, h => by
    have := cntF l i (by simpa using h)
    simp only [List.set_cons_succ, List.count_cons]
    omega
theorem getD_lt {L : Array Bool} {i : Nat} (h : L.getD i true = false) : i < L.size := by
  rcases Nat.lt_or_ge i L.size with h' | h'
  · exact h'
  · simp [Array.getElem?_eq_none h'] at h
theorem getD_get {L : Array Bool} {i : Nat} (h : L.getD i true = false) : L.toList[i]? = some false := by
  have hi := getD_lt h
  simp only [Array.getD_eq_getD_getElem?, Array.getElem?_eq_getElem hi, Option.getD_some] at h
  simp [hi, h]
theorem getD_other {L : Array Bool} {i : Nat} (hi : i < L.size) (h : ¬ L.getD i false = true) : L.getD i true = false := by
  simp only [Array.getD_eq_getD_getElem?, Array.getElem?_eq_getElem hi, Option.getD_some] at h ⊢
  simpa using h
theorem getD_both {L : Array Bool} {i : Nat} (hi : i < L.size) (h : L.getD i false = true) : L.getD i true = true := by
  simp only [Array.getD_eq_getD_getElem?, Array.getElem?_eq_getElem hi, Option.getD_some] at h ⊢
  exact h
theorem some_ready {ops : Array Oper} (hback : backB ops = true) {L : Array Bool} (hs : L.size = ops.size) : ∀ (k i : Nat), i < k → L.getD i true = false → ∃ j, j ∈ Region.ready .any ops L
  | 0, i, hk, _ => by omega
  | k + 1, i, hk, hi => by
    have hlt := getD_lt hi
    have ho : ops[i]? = some (ops[i]'(by omega)) := Array.getElem?_eq_getElem (by omega)
    by_cases hr : i ∈ Region.ready .any ops L
    · exact ⟨i, hr⟩
    · rw [mem_ready] at hr
      have : ¬ ∀ e ∈ (ops[i]'(by omega)).after, Region.binds .any e = true → L.getD e.on false = true := fun hh => hr ⟨hi, _, ho, hh⟩
      simp only [Classical.not_forall] at this
      obtain ⟨e, he, hb, hne⟩ := this
      have hbk := hback
      unfold backB at hbk
      rw [List.all_eq_true] at hbk
      have h2 := hbk i (by rw [List.mem_range]; omega)
      rw [ho] at h2
      simp only [Array.all_eq_true_iff_forall_mem, decide_eq_true_eq] at h2
      have h3 := h2 e he
      exact some_ready hback hs k e.on (by omega) (getD_other (by omega) hne)

theorem region_rel {P : Program} {ops : Array Oper} {Q : Exit → Act → World → Prop} {id : Nat} {W0 : World} {n : Nat} (hm : P.follows .mixedOrders = true) (hback : backB ops = true) (hlast : lastB ops n = true)
    (fr : (Nat → Value) → Act) (u0 : Nat → Value) (dst : Nat → Nat) (hdst : ∀ i j, i < n → j < n → dst i = dst j → i = j)
    (Pv : Nat → Value → World → Prop) (J : (Nat → Value) → World → Prop)
    (hP : ∀ i v w w', Pv i v w → Below w.heap.size w w' → Pv i v w') (hJ0 : J u0 W0.drew)
    (hstep : ∀ u w i, i < n → Below W0.heap.size W0 w → J u w → (∀ o, ops[i]? = some o → ∀ e ∈ o.after, Region.binds .any e = true → Pv e.on (u (dst e.on)) w) →
      wpOp P ops Q i (fun a' w' => ∃ v, a' = fr (upd u (dst i) v) ∧ Below w.heap.size w w' ∧ Pv i v w' ∧ J (upd u (dst i) v) w') (fr u) w)
    (hend : ∀ u w, Below W0.heap.size W0 w → J u w → (∀ i, i < n → Pv i (u (dst i)) w) → wpOp P ops Q n (fun a' w' => Q .normal a' w') (fr u) w) :
    (Code.region id ops true).wp P Q (fr u0) W0 := by
  unfold lastB at hlast
  rw [Bool.and_eq_true, decide_eq_true_eq] at hlast
  obtain ⟨hsz, hall⟩ := hlast
  refine wp_region_any hm ?_
  have key : ∀ (fuel : Nat) (L : Array Bool) (u : Nat → Value) (w : World), L.size = n + 1 → L.toList.count false ≤ fuel → L.getD n true = false → Below W0.heap.size W0 w → J u w →
      (∀ i, i < n → L.getD i false = true → Pv i (u (dst i)) w) → wpAny P .any ops Q fuel L (fr u) w := by
    intro fuel
    induction fuel with
    | zero =>
      intro L u w hs hc hn hb hj hp
      have h1 := cntF L.toList n (getD_get hn)
      omega
    | succ fuel ih =>
      intro L u w hs hc hn hb hj hp
      refine ⟨fun h0 => ?_, fun i hi => ?_⟩
      · obtain ⟨j, hj'⟩ := some_ready hback (hs.trans hsz.symm) (n + 1) n (by omega) hn
        rw [h0] at hj'
        cases hj'
      · rw [mem_ready] at hi
        obtain ⟨hL, o, ho, hdep⟩ := hi
        have hlt := getD_lt hL
        by_cases hin : i = n
        · subst hin
          have hdone : ∀ j, j < i → L.getD j false = true := by
            intro j hj2
            rw [List.all_eq_true] at hall
            have h2 := hall j (by rw [List.mem_range]; exact hj2)
            rw [ho] at h2
            simp only [List.any_eq_true, Bool.and_eq_true, decide_eq_true_eq] at h2
            obtain ⟨e, he, he1, he2⟩ := h2
            have := hdep e (Array.mem_toList_iff.1 he) he2
            rwa [he1] at this
          refine wpOp_mono (fun a' w' hq => wpAny_done ?_ hq fuel) (hend u w hb hj (fun j hj2 => hp j hj2 (hdone j hj2)))
          rw [List.eq_nil_iff_forall_not_mem]
          intro j hj2
          rw [mem_ready] at hj2
          obtain ⟨h1, -⟩ := hj2
          have hjl := getD_lt h1
          rw [Array.size_setIfInBounds] at hjl
          by_cases hji : j = i
          · subst hji
            simp [hlt] at h1
          · rw [getD_set_ne true (Ne.symm hji), getD_both (by omega) (hdone j (by omega))] at h1
            cases h1
        · refine wpOp_mono ?_ (hstep u w i (by omega) hb hj (fun o' ho' e he hbi => ?_))
          · rintro a' w' ⟨v, rfl, hb2, hp2, hj2⟩
            refine ih _ _ _ (by rw [Array.size_setIfInBounds]; exact hs) ?_ (by rw [getD_set_ne true hin]; exact hn) (hb.trans (hb2.mono hb.size)) hj2 ?_
            · have h1 := cntF L.toList i (getD_get hL)
              rw [Array.toList_setIfInBounds]
              omega
            · intro j hjn hjl
              by_cases hji : j = i
              · subst hji
                rw [upd_at]
                exact hp2
              · rw [getD_set_ne false (Ne.symm hji)] at hjl
                rw [upd_ne _ _ (fun h => hji (hdst j i hjn (by omega) h))]
                exact hP _ _ _ _ (hp j hjn hjl) hb2
          · rw [ho] at ho'
            simp only [Option.some.injEq] at ho'
            subst ho'
            have h1 := hdep e he hbi
            unfold backB at hback
            rw [List.all_eq_true] at hback
            have h2 := hback i (by rw [List.mem_range]; omega)
            rw [ho] at h2
            simp only [Array.all_eq_true_iff_forall_mem, decide_eq_true_eq] at h2
            have h3 := h2 e he
            exact hp e.on (by omega) h1
  have hrep : (Array.replicate ops.size false).toList.count false = ops.size := by simp
  exact key ops.size _ u0 _ (by rw [Array.size_replicate]; exact hsz) (by rw [hrep]; exact Nat.le_refl _) (by simp [hsz]) ((Below.refl _ _).drew) hJ0 (fun i hi h => by
    rw [hsz] at h
    simp [show i < n + 1 by omega] at h)
end Go.Proofs.Ytaeknfjmbjeloaa.G
