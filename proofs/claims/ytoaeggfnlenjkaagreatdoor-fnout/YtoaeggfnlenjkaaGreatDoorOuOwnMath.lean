/- Lists of answers' values that grow by append: their own lists lie in blocks of their own. -/
import Derived.Test.YtoaeggfnlenjkaaGreatDoorDigitsD
import Derived.RegionTactic
import Derived.Test.YtoaeggfnlenjkaaGreatDoorOuOwn
import Derived.Deep.AppendLies
import Derived.Deep.AppendSrc
import Derived.Deep.Upon
namespace Go.Proofs.YtoaeggfnlenjkaaGreatDoor.G
open Go.ChangeShapes Go.WideShapes Go.ChangeAt Go.RowKit
set_option linter.unusedVariables false

/-- One slot written. -/
def upd (u : Nat → Value) (d : Nat) (v : Value) : Nat → Value := fun n => if n = d then v else u n
theorem upd_at (u : Nat → Value) (d : Nat) (v : Value) : upd u d v d = v := by simp [upd]
theorem upd_ne (u : Nat → Value) {d n : Nat} (v : Value) (h : n ≠ d) : upd u d v n = u n := by simp [upd, h]
/-- Every edge goes back. -/
def backB (ops : Array Oper) : Bool := (List.range ops.size).all fun i => match ops[i]? with
  | some o => o.after.all fun e => decide (e.on < i)
  | none => true
/-- Operation n is the last, and waits for all. -/
def lastB (ops : Array Oper) (n : Nat) : Bool := decide (ops.size = n + 1) && (List.range n).all fun i => match ops[n]? with
  | some o => o.after.toList.any fun e => decide (e.on = i) && Region.binds .any e
  | none => false
theorem cntF : ∀ (l : List Bool) (i : Nat), l[i]? = some false → (l.set i true).count false + 1 = l.count false
  | [], i, h => by simp at h
  | b :: l, 0, h => by
    simp only [List.getElem?_cons_zero, Option.some.injEq] at h
    subst h
    simp
  | b :: l, i + 1, h => by
    have := cntF l i (by simpa using h)
    simp only [List.set_cons_succ, List.count_cons]
    omega
theorem getD_lt {L : Array Bool} {i : Nat} (h : L.getD i true = false) : i < L.size := by
  rcases Nat.lt_or_ge i L.size with h' | h'
  · exact h'
  · simp [Array.getElem?_eq_none h'] at h
theorem getD_get {L : Array Bool} {i : Nat} (h : L.getD i true = false) : L.toList[i]? = some false := by
  have hi := getD_lt h
  simp only [Array.getD_eq_getD_getElem?, Array.getElem?_eq_getElem hi, Option.getD_some] at h
  simp [hi, h]
theorem getD_other {L : Array Bool} {i : Nat} (hi : i < L.size) (h : ¬ L.getD i false = true) : L.getD i true = false := by
  simp only [Array.getD_eq_getD_getElem?, Array.getElem?_eq_getElem hi, Option.getD_some] at h ⊢
  simpa using h
theorem getD_both {L : Array Bool} {i : Nat} (hi : i < L.size) (h : L.getD i false = true) : L.getD i true = true := by
  simp only [Array.getD_eq_getD_getElem?, Array.getElem?_eq_getElem hi, Option.getD_some] at h ⊢
  exact h
theorem some_ready {ops : Array Oper} (hback : backB ops = true) {L : Array Bool} (hs : L.size = ops.size) : ∀ (k i : Nat), i < k → L.getD i true = false → ∃ j, j ∈ Region.ready .any ops L
  | 0, i, hk, _ => by omega
  | k + 1, i, hk, hi => by
    have hlt := getD_lt hi
    have ho : ops[i]? = some (ops[i]'(by omega)) := Array.getElem?_eq_getElem (by omega)
    by_cases hr : i ∈ Region.ready .any ops L
    · exact ⟨i, hr⟩
    · rw [mem_ready] at hr
      have : ¬ ∀ e ∈ (ops[i]'(by omega)).after, Region.binds .any e = true → L.getD e.on false = true := fun hh => hr ⟨hi, _, ho, hh⟩
      simp only [Classical.not_forall] at this
      obtain ⟨e, he, hb, hne⟩ := this
      have hbk := hback
      unfold backB at hbk
      rw [List.all_eq_true] at hbk
      have h2 := hbk i (by rw [List.mem_range]; omega)
      rw [ho] at h2
      simp only [Array.all_eq_true_iff_forall_mem, decide_eq_true_eq] at h2
      have h3 := h2 e he
      exact some_ready hback hs k e.on (by omega) (getD_other (by omega) hne)

theorem region_rel {P : Program} {ops : Array Oper} {Q : Exit → Act → World → Prop} {id : Nat} {W0 : World} {n : Nat} (hm : P.follows .mixedOrders = true) (hback : backB ops = true) (hlast : lastB ops n = true)
    (fr : (Nat → Value) → Act) (u0 : Nat → Value) (dst : Nat → Nat) (hdst : ∀ i j, i < n → j < n → dst i = dst j → i = j)
    (Pv : Nat → Value → World → Prop) (J : (Nat → Value) → World → Prop)
    (hP : ∀ i v w w', Pv i v w → Below w.heap.size w w' → Pv i v w') (hJ0 : J u0 W0.drew)
    (hstep : ∀ u w i, i < n → Below W0.heap.size W0 w → J u w → (∀ o, ops[i]? = some o → ∀ e ∈ o.after, Region.binds .any e = true → Pv e.on (u (dst e.on)) w) →
      wpOp P ops Q i (fun a' w' => ∃ v, a' = fr (upd u (dst i) v) ∧ Below w.heap.size w w' ∧ Pv i v w' ∧ J (upd u (dst i) v) w') (fr u) w)
    (hend : ∀ u w, Below W0.heap.size W0 w → J u w → (∀ i, i < n → Pv i (u (dst i)) w) → wpOp P ops Q n (fun a' w' => Q .normal a' w') (fr u) w) :
    (Code.region id ops true).wp P Q (fr u0) W0 := by
  unfold lastB at hlast
  rw [Bool.and_eq_true, decide_eq_true_eq] at hlast
  obtain ⟨hsz, hall⟩ := hlast
  refine wp_region_any hm ?_
  have key : ∀ (fuel : Nat) (L : Array Bool) (u : Nat → Value) (w : World), L.size = n + 1 → L.toList.count false ≤ fuel → L.getD n true = false → Below W0.heap.size W0 w → J u w →
      (∀ i, i < n → L.getD i false = true → Pv i (u (dst i)) w) → wpAny P .any ops Q fuel L (fr u) w := by
    intro fuel
    induction fuel with
    | zero =>
      intro L u w hs hc hn hb hj hp
      have h1 := cntF L.toList n (getD_get hn)
      omega
    | succ fuel ih =>
      intro L u w hs hc hn hb hj hp
      refine ⟨fun h0 => ?_, fun i hi => ?_⟩
      · obtain ⟨j, hj'⟩ := some_ready hback (hs.trans hsz.symm) (n + 1) n (by omega) hn
        rw [h0] at hj'
        cases hj'
      · rw [mem_ready] at hi
        obtain ⟨hL, o, ho, hdep⟩ := hi
        have hlt := getD_lt hL
        by_cases hin : i = n
        · subst hin
          have hdone : ∀ j, j < i → L.getD j false = true := by
            intro j hj2
            rw [List.all_eq_true] at hall
            have h2 := hall j (by rw [List.mem_range]; exact hj2)
            rw [ho] at h2
            simp only [List.any_eq_true, Bool.and_eq_true, decide_eq_true_eq] at h2
            obtain ⟨e, he, he1, he2⟩ := h2
            have := hdep e (Array.mem_toList_iff.1 he) he2
            rwa [he1] at this
          refine wpOp_mono (fun a' w' hq => wpAny_done ?_ hq fuel) (hend u w hb hj (fun j hj2 => hp j hj2 (hdone j hj2)))
          rw [List.eq_nil_iff_forall_not_mem]
          intro j hj2
          rw [mem_ready] at hj2
          obtain ⟨h1, -⟩ := hj2
          have hjl := getD_lt h1
          rw [Array.size_setIfInBounds] at hjl
          by_cases hji : j = i
          · subst hji
            simp [hlt] at h1
          · rw [getD_set_ne true (Ne.symm hji), getD_both (by omega) (hdone j (by omega))] at h1
            cases h1
        · refine wpOp_mono ?_ (hstep u w i (by omega) hb hj (fun o' ho' e he hbi => ?_))
          · rintro a' w' ⟨v, rfl, hb2, hp2, hj2⟩
            refine ih _ _ _ (by rw [Array.size_setIfInBounds]; exact hs) ?_ (by rw [getD_set_ne true hin]; exact hn) (hb.trans (hb2.mono hb.size)) hj2 ?_
            · have h1 := cntF L.toList i (getD_get hL)
              rw [Array.toList_setIfInBounds]
              omega
            · intro j hjn hjl
              by_cases hji : j = i
              · subst hji
                rw [upd_at]
                exact hp2
              · rw [getD_set_ne false (Ne.symm hji)] at hjl
                rw [upd_ne _ _ (fun h => hji (hdst j i hjn (by omega) h))]
                exact hP _ _ _ _ (hp j hjn hjl) hb2
          · rw [ho] at ho'
            simp only [Option.some.injEq] at ho'
            subst ho'
            have h1 := hdep e he hbi
            unfold backB at hback
            rw [List.all_eq_true] at hback
            have h2 := hback i (by rw [List.mem_range]; omega)
            rw [ho] at h2
            simp only [Array.all_eq_true_iff_forall_mem, decide_eq_true_eq] at h2
            have h3 := h2 e he
            exact hp e.on (by omega) h1
  have hrep : (Array.replicate ops.size false).toList.count false = ops.size := by simp
  exact key ops.size _ u0 _ (by rw [Array.size_replicate]; exact hsz) (by rw [hrep]; exact Nat.le_refl _) (by simp [hsz]) ((Below.refl _ _).drew) hJ0 (fun i hi h => by
    rw [hsz] at h
    simp [show i < n + 1 by omega] at h)
end Go.Proofs.YtoaeggfnlenjkaaGreatDoor.G
namespace Go.Proofs.YtoaeggfnlenjkaaGreatDoor.G
open Go.ChangeShapes Go.WideShapes Go.ChangeAt Go.RowKit
set_option linter.unusedVariables false

/-- Every edge that binds goes back. -/
def back3B (ops : Array Oper) : Bool := (List.range ops.size).all fun i => match ops[i]? with
  | some o => o.after.all fun e => !Region.binds .any e || decide (e.on < i)
  | none => true
theorem some_ready3 {ops : Array Oper} (hback : back3B ops = true) {L : Array Bool} (hs : L.size = ops.size) : ∀ (k i : Nat), i < k → L.getD i true = false → ∃ j, j ∈ Region.ready .any ops L
  | 0, i, hk, _ => by omega
  | k + 1, i, hk, hi => by
    have hlt := getD_lt hi
    have ho : ops[i]? = some (ops[i]'(by omega)) := Array.getElem?_eq_getElem (by omega)
    by_cases hr : i ∈ Region.ready .any ops L
    · exact ⟨i, hr⟩
    · rw [mem_ready] at hr
      have : ¬ ∀ e ∈ (ops[i]'(by omega)).after, Region.binds .any e = true → L.getD e.on false = true := fun hh => hr ⟨hi, _, ho, hh⟩
      simp only [Classical.not_forall] at this
      obtain ⟨e, he, hb, hne⟩ := this
      have hbk := hback
      unfold back3B at hbk
      rw [List.all_eq_true] at hbk
      have h2 := hbk i (by rw [List.mem_range]; omega)
      rw [ho] at h2
      simp only [Array.all_eq_true_iff_forall_mem, Bool.or_eq_true, Bool.not_eq_true', decide_eq_true_eq] at h2
      have h3 : e.on < i := by
        rcases h2 e he with h4 | h4
        · rw [hb] at h4; cases h4
        · exact h4
      exact some_ready3 hback hs k e.on (by omega) (getD_other (by omega) hne)

theorem region_rel3 {P : Program} {ops : Array Oper} {Q : Exit → Act → World → Prop} {id : Nat} {W0 : World} {n : Nat} (hm : P.follows .mixedOrders = true) (hback : back3B ops = true) (hlast : lastB ops n = true)
    (fr : (Nat → Value) → Act) (u0 : Nat → Value) (dst : Nat → Nat) (hdst : ∀ i j, i < n → j < n → dst i = dst j → i = j)
    (Pv : Nat → Value → World → Prop) (J : Array Bool → (Nat → Value) → World → Prop)
    (hJ0 : J (Array.replicate ops.size false) u0 W0.drew)
    (hstep : ∀ L u w i, i < n → L.size = n + 1 → L.getD i true = false → Below W0.heap.size W0 w → J L u w → (∀ o, ops[i]? = some o → ∀ e ∈ o.after, Region.binds .any e = true → L.getD e.on false = true ∧ Pv e.on (u (dst e.on)) w) →
      wpOp P ops Q i (fun a' w' => ∃ v, a' = fr (upd u (dst i) v) ∧ Below W0.heap.size w w' ∧ (∀ j x, Pv j x w → Pv j x w') ∧ Pv i v w' ∧ J (L.setIfInBounds i true) (upd u (dst i) v) w') (fr u) w)
    (hend : ∀ L u w, L.size = n + 1 → (∀ i, i < n → L.getD i false = true) → Below W0.heap.size W0 w → J L u w → (∀ i, i < n → Pv i (u (dst i)) w) → wpOp P ops Q n (fun a' w' => Q .normal a' w') (fr u) w) :
    (Code.region id ops true).wp P Q (fr u0) W0 := by
  unfold lastB at hlast
  rw [Bool.and_eq_true, decide_eq_true_eq] at hlast
  obtain ⟨hsz, hall⟩ := hlast
  refine wp_region_any hm ?_
  have key : ∀ (fuel : Nat) (L : Array Bool) (u : Nat → Value) (w : World), L.size = n + 1 → L.toList.count false ≤ fuel → L.getD n true = false → Below W0.heap.size W0 w → J L u w →
      (∀ i, i < n → L.getD i false = true → Pv i (u (dst i)) w) → wpAny P .any ops Q fuel L (fr u) w := by
    intro fuel
    induction fuel with
    | zero =>
      intro L u w hs hc hn hb hj hp
      have h1 := cntF L.toList n (getD_get hn)
      omega
    | succ fuel ih =>
      intro L u w hs hc hn hb hj hp
      refine ⟨fun h0 => ?_, fun i hi => ?_⟩
      · obtain ⟨j, hj'⟩ := some_ready3 hback (hs.trans hsz.symm) (n + 1) n (by omega) hn
        rw [h0] at hj'
        cases hj'
      · rw [mem_ready] at hi
        obtain ⟨hL, o, ho, hdep⟩ := hi
        have hlt := getD_lt hL
        by_cases hin : i = n
        · subst hin
          have hdone : ∀ j, j < i → L.getD j false = true := by
            intro j hj2
            rw [List.all_eq_true] at hall
            have h2 := hall j (by rw [List.mem_range]; exact hj2)
            rw [ho] at h2
            simp only [List.any_eq_true, Bool.and_eq_true, decide_eq_true_eq] at h2
            obtain ⟨e, he, he1, he2⟩ := h2
            have := hdep e (Array.mem_toList_iff.1 he) he2
            rwa [he1] at this
          refine wpOp_mono (fun a' w' hq => wpAny_done ?_ hq fuel) (hend L u w hs hdone hb hj (fun j hj2 => hp j hj2 (hdone j hj2)))
          rw [List.eq_nil_iff_forall_not_mem]
          intro j hj2
          rw [mem_ready] at hj2
          obtain ⟨h1, -⟩ := hj2
          have hjl := getD_lt h1
          rw [Array.size_setIfInBounds] at hjl
          by_cases hji : j = i
          · subst hji
            simp [hlt] at h1
          · rw [getD_set_ne true (Ne.symm hji), getD_both (by omega) (hdone j (by omega))] at h1
            cases h1
        · refine wpOp_mono ?_ (hstep L u w i (by omega) hs hL hb hj (fun o' ho' e he hbi => ?_))
          · rintro a' w' ⟨v, rfl, hb2, hst, hp2, hj2⟩
            refine ih _ _ _ (by rw [Array.size_setIfInBounds]; exact hs) ?_ (by rw [getD_set_ne true hin]; exact hn) (hb.trans hb2) hj2 ?_
            · have h1 := cntF L.toList i (getD_get hL)
              rw [Array.toList_setIfInBounds]
              omega
            · intro j hjn hjl
              by_cases hji : j = i
              · subst hji
                rw [upd_at]
                exact hp2
              · rw [getD_set_ne false (Ne.symm hji)] at hjl
                rw [upd_ne _ _ (fun h => hji (hdst j i hjn (by omega) h))]
                exact hst _ _ (hp j hjn hjl)
          · rw [ho] at ho'
            simp only [Option.some.injEq] at ho'
            subst ho'
            have h1 := hdep e he hbi
            unfold back3B at hback
            rw [List.all_eq_true] at hback
            have h2 := hback i (by rw [List.mem_range]; omega)
            rw [ho] at h2
            simp only [Array.all_eq_true_iff_forall_mem, Bool.or_eq_true, Bool.not_eq_true', decide_eq_true_eq] at h2
            have h3 : e.on < i := by
              rcases h2 e he with h4 | h4
              · rw [hbi] at h4; cases h4
              · exact h4
            exact ⟨h1, hp e.on (by omega) h1⟩
  have hrep : (Array.replicate ops.size false).toList.count false = ops.size := by simp
  exact key ops.size _ u0 _ (by rw [Array.size_replicate]; exact hsz) (by rw [hrep]; exact Nat.le_refl _) (by simp [hsz]) ((Below.refl _ _).drew) hJ0 (fun i hi h => by
    rw [hsz] at h
    simp [show i < n + 1 by omega] at h)
end Go.Proofs.YtoaeggfnlenjkaaGreatDoor.G
namespace Go.Proofs.YtoaeggfnlenjkaaGreatDoor.G
open Go.ChangeShapes Go.WideShapes Go.ChangeAt Go.RowKit
set_option linter.unusedVariables false

def waitB (ops : Array Oper) (m : Nat) : Bool := (List.range m).all fun i => match ops[m]? with
  | some o => o.after.toList.any fun e => decide (e.on = i) && Region.binds .any e
  | none => false
/-- The operations from n on, k of them, are the last, each waits for all ahead. -/
def tailB (ops : Array Oper) (n k : Nat) : Bool := decide (ops.size = n + k) && (List.range k).all fun t => waitB ops (n + t)
/-- The last operations, one behind the other. -/
def wpTail (P : Program) (ops : Array Oper) (Q : Exit → Act → World → Prop) : Nat → Nat → Act → World → Prop
  | _, 0 => fun a w => Q .normal a w
  | n, k + 1 => fun a w => wpOp P ops Q n (fun a1 w1 => wpTail P ops Q (n + 1) k a1 w1) a w
theorem wait_done {ops : Array Oper} {m : Nat} {L : Array Bool} {o : Oper} (ho : ops[m]? = some o) (hdep : ∀ e ∈ o.after, Region.binds .any e = true → L.getD e.on false = true) (hk : waitB ops m = true) : ∀ j, j < m → L.getD j false = true := by
  intro j hj
  unfold waitB at hk
  rw [List.all_eq_true] at hk
  have h2 := hk j (by rw [List.mem_range]; exact hj)
  rw [ho] at h2
  simp only [List.any_eq_true, Bool.and_eq_true, decide_eq_true_eq] at h2
  obtain ⟨e, he, he1, he2⟩ := h2
  have := hdep e (Array.mem_toList_iff.1 he) he2
  rwa [he1] at this
theorem tail_any {P : Program} {ops : Array Oper} {Q : Exit → Act → World → Prop} (hback : back3B ops = true) : ∀ (k m fuel : Nat) (L : Array Bool) (a : Act) (w : World), ops.size = m + k → L.size = m + k →
    (∀ t, t < k → waitB ops (m + t) = true) → (∀ j, j < m → L.getD j true = true) → (∀ j, m ≤ j → j < m + k → L.getD j true = false) → k ≤ fuel → wpTail P ops Q m k a w → wpAny P .any ops Q fuel L a w
  | 0, m, fuel, L, a, w, hsz, hs, hw, hd, hu, hf, h => by
    refine wpAny_done ?_ h fuel
    rw [List.eq_nil_iff_forall_not_mem]
    intro g hg
    rw [mem_ready] at hg
    obtain ⟨g1, -⟩ := hg
    have hgl := getD_lt g1
    rw [hd g (by omega)] at g1
    cases g1
  | k + 1, m, 0, L, a, w, hsz, hs, hw, hd, hu, hf, h => by omega
  | k + 1, m, fuel + 1, L, a, w, hsz, hs, hw, hd, hu, hf, h => by
    refine ⟨fun h0 => ?_, fun i hi => ?_⟩
    · obtain ⟨j, hj'⟩ := some_ready3 hback (hs.trans hsz.symm) (m + 1) m (by omega) (hu m (Nat.le_refl _) (by omega))
      rw [h0] at hj'
      cases hj'
    · rw [mem_ready] at hi
      obtain ⟨hL, o, ho, hdep⟩ := hi
      have hlt := getD_lt hL
      have him : i = m := by
        by_cases e1 : i < m
        · rw [hd i e1] at hL; cases hL
        · by_cases e2 : i = m
          · exact e2
          · obtain ⟨t, rfl⟩ : ∃ t, i = m + t := ⟨i - m, by omega⟩
            have h1 := wait_done ho hdep (hw t (by omega)) m (by omega)
            have h2 := hu m (Nat.le_refl _) (by omega)
            rw [getD_both (by omega) h1] at h2
            cases h2
      subst him
      refine wpOp_mono (fun a1 w1 hq => ?_) h
      refine tail_any hback k (i + 1) fuel _ a1 w1 (by omega) (by rw [Array.size_setIfInBounds]; omega) (fun t ht => ?_) (fun j hj => ?_) (fun j hj1 hj2 => ?_) (by omega) hq
      · have := hw (t + 1) (by omega)
        rwa [show i + (t + 1) = i + 1 + t by omega] at this
      · by_cases e : j = i
        · subst e; simp [hlt]
        · rw [getD_set_ne true (Ne.symm e)]; exact hd j (by omega)
      · rw [getD_set_ne true (by omega)]; exact hu j (by omega) (by omega)
theorem count_tail {n k : Nat} {L : Array Bool} (hs : L.size = n + k) (h : ∀ j, n ≤ j → j < n + k → L.getD j true = false) : k ≤ L.toList.count false := by
  have e : L.toList = L.toList.take n ++ L.toList.drop n := (List.take_append_drop _ _).symm
  have hd : L.toList.drop n = List.replicate k false := by
    rw [List.eq_replicate_iff]
    refine ⟨by simp [hs], fun b hb => ?_⟩
    obtain ⟨i, hi, rfl⟩ := List.getElem_of_mem hb
    have hi2 : n + i < L.size := by simp at hi; omega
    have := h (n + i) (by omega) (by omega)
    rw [Array.getD, dif_pos hi2] at this
    simpa using this
  rw [e, List.count_append, hd, List.count_replicate_self]
  omega
theorem region_rel4 {P : Program} {ops : Array Oper} {Q : Exit → Act → World → Prop} {id : Nat} {W0 : World} {n k : Nat} (hk0 : 0 < k) (hm : P.follows .mixedOrders = true) (hback : back3B ops = true) (hlast : tailB ops n k = true)
    (fr : (Nat → Value) → Act) (u0 : Nat → Value) (dst : Nat → Nat) (hdst : ∀ i j, i < n → j < n → dst i = dst j → i = j)
    (Pv : Nat → Value → World → Prop) (J : (Nat → Value) → World → Prop)
    (hP : ∀ i v w w', Pv i v w → Below w.heap.size w w' → Pv i v w') (hJ0 : J u0 W0.drew)
    (hstep : ∀ u w i, i < n → Below W0.heap.size W0 w → J u w → (∀ o, ops[i]? = some o → ∀ e ∈ o.after, Region.binds .any e = true → Pv e.on (u (dst e.on)) w) →
      wpOp P ops Q i (fun a' w' => ∃ v, a' = fr (upd u (dst i) v) ∧ Below w.heap.size w w' ∧ Pv i v w' ∧ J (upd u (dst i) v) w') (fr u) w)
    (hend : ∀ u w, Below W0.heap.size W0 w → J u w → (∀ i, i < n → Pv i (u (dst i)) w) → wpTail P ops Q n k (fr u) w) :
    (Code.region id ops true).wp P Q (fr u0) W0 := by
  unfold tailB at hlast
  rw [Bool.and_eq_true, decide_eq_true_eq, List.all_eq_true] at hlast
  obtain ⟨hsz, hall⟩ := hlast
  have hw : ∀ t, t < k → waitB ops (n + t) = true := fun t ht => hall t (List.mem_range.2 ht)
  refine wp_region_any hm ?_
  have key : ∀ (fuel : Nat) (L : Array Bool) (u : Nat → Value) (w : World), L.size = n + k → L.toList.count false ≤ fuel → (∀ j, n ≤ j → j < n + k → L.getD j true = false) → Below W0.heap.size W0 w → J u w →
      (∀ i, i < n → L.getD i false = true → Pv i (u (dst i)) w) → wpAny P .any ops Q fuel L (fr u) w := by
    intro fuel
    induction fuel with
    | zero =>
      intro L u w hs hc hn hb hj hp
      have h1 := cntF L.toList n (getD_get (hn n (Nat.le_refl _) (by omega)))
      omega
    | succ fuel ih =>
      intro L u w hs hc hn hb hj hp
      refine ⟨fun h0 => ?_, fun i hi => ?_⟩
      · obtain ⟨j, hj'⟩ := some_ready3 hback (hs.trans hsz.symm) (n + 1) n (by omega) (hn n (Nat.le_refl _) (by omega))
        rw [h0] at hj'
        cases hj'
      · rw [mem_ready] at hi
        obtain ⟨hL, o, ho, hdep⟩ := hi
        have hlt := getD_lt hL
        by_cases hin : n ≤ i
        · obtain ⟨t, rfl⟩ : ∃ t, i = n + t := ⟨i - n, by omega⟩
          have hdone := wait_done ho hdep (hw t (by omega))
          obtain rfl : t = 0 := by
            by_cases e : t = 0
            · exact e
            · have h1 := hdone n (by omega)
              have h2 := hn n (Nat.le_refl _) (by omega)
              rw [getD_both (by omega) h1] at h2
              cases h2
          rw [Nat.add_zero] at hdone hL ho
          have htail : wpAny P .any ops Q (fuel + 1) L (fr u) w := tail_any hback k n (fuel + 1) L (fr u) w hsz hs hw (fun j hj2 => getD_both (by omega) (hdone j hj2)) hn (by
            have : k ≤ L.toList.count false := count_tail hs hn
            omega) (hend u w hb hj (fun j hj2 => hp j hj2 (hdone j hj2)))
          exact htail.2 _ (by rw [mem_ready]; exact ⟨by rw [Nat.add_zero]; exact hL, o, by rw [Nat.add_zero]; exact ho, hdep⟩)
        · refine wpOp_mono ?_ (hstep u w i (by omega) hb hj (fun o' ho' e he hbi => ?_))
          · rintro a' w' ⟨v, rfl, hb2, hp2, hj2⟩
            refine ih _ _ _ (by rw [Array.size_setIfInBounds]; exact hs) ?_ (fun j hj1 hj2 => by rw [getD_set_ne true (by omega)]; exact hn j hj1 hj2) (hb.trans (hb2.mono hb.size)) hj2 ?_
            · have h1 := cntF L.toList i (getD_get hL)
              rw [Array.toList_setIfInBounds]
              omega
            · intro j hjn hjl
              by_cases hji : j = i
              · subst hji
                rw [upd_at]
                exact hp2
              · rw [getD_set_ne false (Ne.symm hji)] at hjl
                rw [upd_ne _ _ (fun h => hji (hdst j i hjn (by omega) h))]
                exact hP _ _ _ _ (hp j hjn hjl) hb2
          · rw [ho] at ho'
            simp only [Option.some.injEq] at ho'
            subst ho'
            have h1 := hdep e he hbi
            unfold back3B at hback
            rw [List.all_eq_true] at hback
            have h2 := hback i (by rw [List.mem_range]; omega)
            rw [ho] at h2
            simp only [Array.all_eq_true_iff_forall_mem, Bool.or_eq_true, Bool.not_eq_true', decide_eq_true_eq] at h2
            have h3 : e.on < i := by
              rcases h2 e he with h4 | h4
              · rw [hbi] at h4; cases h4
              · exact h4
            exact hp e.on (by omega) h1
  have hrep : (Array.replicate ops.size false).toList.count false = ops.size := by simp
  exact key ops.size _ u0 _ (by rw [Array.size_replicate]; exact hsz) (by rw [hrep]; exact Nat.le_refl _) (fun j hj1 hj2 => by simp [hsz, hj2]) ((Below.refl _ _).drew) hJ0 (fun i hi h => by
    rw [hsz] at h
    simp [show i < n + k by omega] at h)
end Go.Proofs.YtoaeggfnlenjkaaGreatDoor.G
namespace Go.Proofs.YtoaeggfnlenjkaaGreatDoor.G
open Go.ChangeShapes Go.WideShapes Go.ChangeAt Go.RowKit
set_option linter.unusedVariables false

theorem region_rel5 {P : Program} {ops : Array Oper} {Q : Exit → Act → World → Prop} {id : Nat} {W0 : World} {n k : Nat} (hk0 : 0 < k) (hm : P.follows .mixedOrders = true) (hback : back3B ops = true) (hlast : tailB ops n k = true)
    (fr : (Nat → Value) → Act) (u0 : Nat → Value) (dst : Nat → Nat) (hdst : ∀ i j, i < n → j < n → dst i = dst j → i = j)
    (Pv : Nat → Value → World → Prop) (J : Array Bool → (Nat → Value) → World → Prop)
    (hJ0 : J (Array.replicate ops.size false) u0 W0.drew)
    (hstep : ∀ L u w i, i < n → L.size = n + k → L.getD i true = false → J L u w → (∀ o, ops[i]? = some o → ∀ e ∈ o.after, Region.binds .any e = true → L.getD e.on false = true ∧ Pv e.on (u (dst e.on)) w) →
      wpOp P ops Q i (fun a' w' => ∃ v, a' = fr (upd u (dst i) v) ∧ (∀ j x, Pv j x w → Pv j x w') ∧ Pv i v w' ∧ J (L.setIfInBounds i true) (upd u (dst i) v) w') (fr u) w)
    (hend : ∀ L u w, L.size = n + k → (∀ i, i < n → L.getD i false = true) → J L u w → (∀ i, i < n → Pv i (u (dst i)) w) → wpTail P ops Q n k (fr u) w) :
    (Code.region id ops true).wp P Q (fr u0) W0 := by
  unfold tailB at hlast
  rw [Bool.and_eq_true, decide_eq_true_eq, List.all_eq_true] at hlast
  obtain ⟨hsz, hall⟩ := hlast
  have hw : ∀ t, t < k → waitB ops (n + t) = true := fun t ht => hall t (List.mem_range.2 ht)
  refine wp_region_any hm ?_
  have key : ∀ (fuel : Nat) (L : Array Bool) (u : Nat → Value) (w : World), L.size = n + k → L.toList.count false ≤ fuel → (∀ j, n ≤ j → j < n + k → L.getD j true = false) → J L u w →
      (∀ i, i < n → L.getD i false = true → Pv i (u (dst i)) w) → wpAny P .any ops Q fuel L (fr u) w := by
    intro fuel
    induction fuel with
    | zero =>
      intro L u w hs hc hn hj hp
      have h1 := cntF L.toList n (getD_get (hn n (Nat.le_refl _) (by omega)))
      omega
    | succ fuel ih =>
      intro L u w hs hc hn hj hp
      refine ⟨fun h0 => ?_, fun i hi => ?_⟩
      · obtain ⟨j, hj'⟩ := some_ready3 hback (hs.trans hsz.symm) (n + 1) n (by omega) (hn n (Nat.le_refl _) (by omega))
        rw [h0] at hj'
        cases hj'
      · rw [mem_ready] at hi
        obtain ⟨hL, o, ho, hdep⟩ := hi
        have hlt := getD_lt hL
        by_cases hin : n ≤ i
        · obtain ⟨t, rfl⟩ : ∃ t, i = n + t := ⟨i - n, by omega⟩
          have hdone := wait_done ho hdep (hw t (by omega))
          obtain rfl : t = 0 := by
            by_cases e : t = 0
            · exact e
            · have h1 := hdone n (by omega)
              have h2 := hn n (Nat.le_refl _) (by omega)
              rw [getD_both (by omega) h1] at h2
              cases h2
          rw [Nat.add_zero] at hdone hL ho
          have htail : wpAny P .any ops Q (fuel + 1) L (fr u) w := tail_any hback k n (fuel + 1) L (fr u) w hsz hs hw (fun j hj2 => getD_both (by omega) (hdone j hj2)) hn (by
            have : k ≤ L.toList.count false := count_tail hs hn
            omega) (hend L u w hs hdone hj (fun j hj2 => hp j hj2 (hdone j hj2)))
          exact htail.2 _ (by rw [mem_ready]; exact ⟨by rw [Nat.add_zero]; exact hL, o, by rw [Nat.add_zero]; exact ho, hdep⟩)
        · refine wpOp_mono ?_ (hstep L u w i (by omega) hs hL hj (fun o' ho' e he hbi => ?_))
          · rintro a' w' ⟨v, rfl, hk2, hp2, hj2⟩
            refine ih _ _ _ (by rw [Array.size_setIfInBounds]; exact hs) ?_ (fun j hj1 hj2 => by rw [getD_set_ne true (by omega)]; exact hn j hj1 hj2) hj2 ?_
            · have h1 := cntF L.toList i (getD_get hL)
              rw [Array.toList_setIfInBounds]
              omega
            · intro j hjn hjl
              by_cases hji : j = i
              · subst hji
                rw [upd_at]
                exact hp2
              · rw [getD_set_ne false (Ne.symm hji)] at hjl
                rw [upd_ne _ _ (fun h => hji (hdst j i hjn (by omega) h))]
                exact hk2 _ _ (hp j hjn hjl)
          · rw [ho] at ho'
            simp only [Option.some.injEq] at ho'
            subst ho'
            have h1 := hdep e he hbi
            unfold back3B at hback
            rw [List.all_eq_true] at hback
            have h2 := hback i (by rw [List.mem_range]; omega)
            rw [ho] at h2
            simp only [Array.all_eq_true_iff_forall_mem, Bool.or_eq_true, Bool.not_eq_true', decide_eq_true_eq] at h2
            have h3 : e.on < i := by
              rcases h2 e he with h4 | h4
              · rw [hbi] at h4; cases h4
              · exact h4
            exact ⟨h1, hp e.on (by omega) h1⟩
  have hrep : (Array.replicate ops.size false).toList.count false = ops.size := by simp
  exact key ops.size _ u0 _ (by rw [Array.size_replicate]; exact hsz) (by rw [hrep]; exact Nat.le_refl _) (fun j hj1 hj2 => by simp [hsz, hj2]) hJ0 (fun i hi h => by
    rw [hsz] at h
    simp [show i < n + k by omega] at h)
end Go.Proofs.YtoaeggfnlenjkaaGreatDoor.G
namespace Go.Proofs.YtoaeggfnlenjkaaGreatDoor.G
open Go.ChangeShapes Go.WideShapes Go.ChangeAt Go.RowKit
set_option linter.unusedVariables false

theorem wp_append_run {P : Program} {o : Oper} {a : Act} {K : Act → World → Prop} {Q : Exit → Act → World → Prop} {w : World} (s x : Operand) (t : TypeId)
    (ho : o.op = .call { callee := .builtin .append, args := #[s, x], argTypes := #[t, t] }) (sv xv rv : Value) (w' : World) (hs : a.eval s = sv) (hx : a.eval x = xv)
    (hr : (Builtin.append_ #[t, t] o.type #[sv, xv]).run P w = .ok rv w') (h : K (a.put o.dst rv) w') : o.wp P a w K Q := by
  unfold Oper.wp execOp
  simp only [ho, resolve, invoke, builtin, Sem.run_bind, Sem.run_pure, Result.andThen_ok, List.map_toArray, List.map_cons, List.map_nil, hs, hx, hr]
  exact h
/-- Texts copied by append onto nothing. -/
theorem app_keys (l : List ByteArray) (a g : Option Addr) (c : Nat) (W : World) (hr : KeRow 0 W.heap.size W a l) (hl : l.length ≤ 1048576) :
    ∃ a' c' W', (Builtin.append_ #[23, 23] 23 #[.slice g 0 0, .slice a l.length c]).run Tryz.prog W = .ok (.slice a' l.length c') W' ∧ l.length ≤ c' ∧ KeOwn W.heap.size W'.heap.size W' a' l ∧ Below W.heap.size W W' := by
  obtain ⟨i, hi, hz, hsz, hby⟩ := info_str
  have ht := Tryz.underlying23
  by_cases h0 : l = []
  · subst h0
    have hsrc : Src Tryz.prog i.size 23 (.slice a 0 c) 0 [] W := by
      cases a
      · exact Src.ofNil W ht c
      · exact Src.ofSlice W ht _ 0 c [] (by simp) (by simp) (by simp)
    exact ⟨g, 0, W, run_append_nothing (P := Tryz.prog) W _ _ _ _ i ht hi g 0 0 (Nat.le_refl _) _ hsrc, Nat.zero_le _, .inl rfl, Below.refl _ _⟩
  · rcases hr with h | ⟨b, o, rfl, _, hb, hx⟩
    · exact absurd h h0
    have hpos : 0 < l.length := List.length_pos_iff.2 h0
    have hcl : (l.map Value.string).length = l.length := by simp
    have hsrc : Src Tryz.prog i.size 23 (.slice (some ⟨b, o, none⟩) l.length c) l.length (l.map Value.string) W := Src.ofSlice W ht _ _ c _ (by rw [hsz]; simp) (fun j u hu => by
      rw [List.getElem?_map] at hu
      obtain ⟨x, hx1, rfl⟩ := Option.map_eq_some_iff.1 hu
      rw [add_plain]
      have := hx j x hx1
      rwa [Nat.mul_one] at this) (fun u hu => by
      obtain ⟨x, _, rfl⟩ := List.mem_map.1 hu
      rfl)
    have hold : (Builtin.firstCells i.size 0 (.slice g 0 0)).run Tryz.prog W.drew = .ok ([] : List Value).toArray W.drew := by
      cases g with
      | none => exact run_firstCells_none W.drew i.size 0 0 0
      | some g => exact run_firstCells_some W.drew i.size 0 g 0 0 [] (by simp) (by simp)
    have hrun := run_append_grow_src (P := Tryz.prog) W 23 23 23 9 i _ ht hi hz g 0 0 [] hold _ l.length (l.map Value.string) hsrc (by omega) (by omega) (growslice_fits (by omega) (by rw [hby]; omega))
    simp only [Nat.zero_add, List.nil_append] at hrun
    refine ⟨_, _, _, hrun, grownCap_ge _ _ _ _, .inr ⟨W.heap.size, _, rfl, Nat.le_refl _, ?_, heap_alloc_new W.drew _, ?_, fun j x hx => ?_⟩, ((Below.refl _ _).drew).alloc (Nat.le_refl _) _⟩
    · simp
    · simp
    · have hj := (List.getElem?_eq_some_iff.1 hx).1
      show (_ : Array Value)[j * 1]? = _
      rw [Nat.mul_one, Array.getElem?_append_left (by simp; omega)]
      simp [hx]
/-- One value's cells appended to a list. -/
theorem app_out (k : Nat) (v x0 x1 x2 x3 x4 : Value) (vs : List Value) (base h : Nat) (W : World) (ho : W.ownsRow base 26 5 v k vs) (hu : W.heap[h]? = some (.cells #[x0, x1, x2, x3, x4] 26 (0, 0))) (h1 : ∀ u ∈ [x0, x1, x2, x3, x4], u.oneCell' = true) (hk : k ≤ 1048576) (hb : base ≤ W.heap.size) :
    ∃ g cap W', (Builtin.append_ #[24, 24] 24 #[v, .slice (some ⟨h, 0, none⟩) 1 1]).run Tryz.prog W = .ok (.slice (some ⟨g, 0, none⟩) (k + 1) cap) W' ∧ W'.ownsRow base 26 5 (.slice (some ⟨g, 0, none⟩) (k + 1) cap) (k + 1) (vs ++ [x0, x1, x2, x3, x4]) ∧ W.grownBy W' v.ownBlock ∧ (v.ownBlock = some g ∨ g = W.heap.size) ∧ g < W'.heap.size := by
  obtain ⟨i, hi, hz, hsz, hby⟩ := info_out
  exact run_append_lies (P := Tryz.prog) W 24 24 base 26 i _ 5 80 Tryz.underlying24 hi hz hsz hby rfl (by decide) v k vs ho ⟨h, 0, none⟩ 1 1 [x0, x1, x2, x3, x4] rfl (fun j x hx => by
    rw [add_plain, Nat.zero_add, row_cell hu j, ← hx]
    simp) h1 (by omega) (by unfold maxLen; omega) (by omega) hb W.heap.size rfl
/-- Blocks from lo up stay but for one. -/
def ExceptO (lo : Nat) (row : Option Nat) (w W' : World) : Prop := w.heap.size ≤ W'.heap.size ∧ ∀ k, lo ≤ k → k < w.heap.size → some k ≠ row → W'.heap[k]? = w.heap[k]?
def KidsO (lo : Nat) (row : Option Nat) (w : World) (pre : List (Oh × Ous)) (vs : List Value) : Prop := ∀ W', ExceptO lo row w W' → OuPre lo W'.heap.size W' (appO pre .nil) (fun j => vs[j]?) 0 pre.length
theorem KidsO.step {lo : Nat} {row row' : Option Nat} {w w1 : World} {pre : List (Oh × Ous)} {vs : List Value} (h : KidsO lo row w pre vs) (hs : w.heap.size ≤ w1.heap.size) (hk : ∀ k, lo ≤ k → k < w.heap.size → some k ≠ row → w1.heap[k]? = w.heap[k]? ∧ some k ≠ row') : KidsO lo row' w1 pre vs := fun W' hW =>
  h W' ⟨Nat.le_trans hs hW.1, fun k h1 h2 h3 => (hW.2 k h1 (by omega) (hk k h1 h2 h3).2).trans (hk k h1 h2 h3).1⟩
theorem OuPre.snoc {lo hi : Nat} {w : World} {h : Oh} {sub : Ous} : ∀ (pre : List (Oh × Ous)) (rd : Nat → Option Value) (o : Nat), OuPre lo hi w (appO pre .nil) rd o pre.length → OhAt lo hi w rd (o + 5 * pre.length) h → (∃ a c, rd (o + 5 * pre.length + 4) = some (.slice a sub.len c) ∧ OuRow lo hi w a sub) → OuPre lo hi w (appO (pre ++ [(h, sub)]) .nil) rd o (pre.length + 1)
  | [], rd, o, _, hh, hs => .inr ⟨by simpa using hh, by simpa [OuRow] using hs, trivial⟩
  | x :: pre, rd, o, hp, hh, hs => by
    rcases hp with hp | ⟨p1, p2, p3⟩
    · simp at hp
    · refine .inr ⟨p1, p2, ?_⟩
      simp only [List.length_cons] at hh hs ⊢
      exact OuPre.snoc pre rd (o + 5) (by simpa using p3) (by rw [show o + 5 + 5 * pre.length = o + 5 * (pre.length + 1) by omega]; exact hh) (by rw [show o + 5 + 5 * pre.length + 4 = o + 5 * (pre.length + 1) + 4 by omega]; exact hs)
theorem KidsO.more {lo m : Nat} {row : Option Nat} {w : World} {pre : List (Oh × Ous)} {vs : List Value} {h : Oh} {sub : Ous} {b1 b2 : Option Addr} {f1 f2 : Nat} (H : KidsO lo row w pre vs) (hlen : vs.length = pre.length * 5) (hlo : lo ≤ m) (hf : h.keys.length ≤ f1) (hrow : ∀ g, row = some g → g < m ∨ w.heap.size ≤ g)
    (A1 : KeRow m w.heap.size w b1 h.keys) (A2 : OuRow m w.heap.size w b2 sub) :
    KidsO lo row w (pre ++ [(h, sub)]) (vs ++ [.int .i64 h.k, .int .i64 h.n, .string h.t, .slice b1 h.keys.length f1, .slice b2 sub.len f2]) := by
  intro W' hW
  have hA : Agree m w.heap.size w W' := fun g h1 h2 => hW.2 g (by omega) h2 (fun e => by have := hrow g e.symm; omega)
  have P1 := OuPre.cells (rd' := fun j => (vs ++ [.int .i64 h.k, .int .i64 h.n, .string h.t, .slice b1 h.keys.length f1, .slice b2 sub.len f2])[j]?) (H W' hW) (fun j _ hj => by
    rw [List.getElem?_append_left (by omega)])
  have q : ∀ j, (vs ++ [.int .i64 h.k, .int .i64 h.n, .string h.t, .slice b1 h.keys.length f1, .slice b2 sub.len f2])[0 + 5 * pre.length + j]? = ([.int .i64 h.k, .int .i64 h.n, .string h.t, .slice b1 h.keys.length f1, .slice b2 sub.len f2] : List Value)[j]? := fun j => by
    rw [List.getElem?_append_right (by omega)]
    congr 1; omega
  have R1 : KeRow lo W'.heap.size W' b1 h.keys := KeRow.wide (KeRow.keep A1 hA) hlo hW.1
  have R2 : OuRow lo W'.heap.size W' b2 sub := OuRow.wide (OuRow.keep A2 hA) hlo hW.1
  have := OuPre.snoc (h := h) (sub := sub) pre _ 0 P1 ⟨q 0, q 1, q 2, b1, f1, q 3, hf, R1⟩ ⟨b2, f2, q 4, R2⟩
  simpa using this
theorem KidsO.row {lo base : Nat} {w : World} {v : Value} {n : Nat} {pre : List (Oh × Ous)} {vs : List Value} (hown : w.ownsRow base 26 5 v n vs) (hn : pre.length = n) (H : KidsO lo v.ownBlock w pre vs) {lo' : Nat} (h1 : lo' ≤ base) (h2 : lo' ≤ lo) : ∃ a c, v = .slice a n c ∧ OuRow lo' w.heap.size w a (appO pre .nil) := by
  have hp := H w ⟨Nat.le_refl _, fun _ _ _ _ => rfl⟩
  subst hn
  rcases hown.2 with ⟨rfl, h0⟩ | ⟨g, cap, cur, rfl, q1, q2, q3, q4, q5, q6⟩
  · refine ⟨none, 0, by rw [h0], .inl ?_⟩
    rw [List.length_eq_zero_iff.1 h0]; rfl
  · refine ⟨_, _, rfl, .inr ⟨g, 0, rfl, by omega, (Array.getElem?_eq_some_iff.1 q2).1, ?_⟩⟩
    rw [row_rd q2, appO_len]
    simp only [Ous.len, Nat.add_zero]
    refine OuPre.wide h2 (Nat.le_refl _) (OuPre.cells hp fun j _ hj => ?_)
    show cur[j]? = vs[j]?
    rw [← q6, List.getElem?_take, if_pos (by omega)]
    simp
theorem own_setO {w : World} {base size n : Nat} {e : TypeId} {v : Value} {xs : List Value} (h : w.ownsRow base e size v n xs) {w' : World} (hk : ∀ g, v.ownBlock = some g → w'.heap[g]? = w.heap[g]?) : w'.ownsRow base e size v n xs := by
  refine ⟨h.1, ?_⟩
  rcases h.2 with h0 | ⟨g, cap, cur, rfl, h1, h2, h3⟩
  · exact .inl h0
  · exact .inr ⟨g, cap, cur, rfl, h1, (hk g rfl).trans h2, h3⟩
theorem own_ltO {w : World} {base size n : Nat} {e : TypeId} {v : Value} {xs : List Value} (h : w.ownsRow base e size v n xs) (g : Nat) (hg : v.ownBlock = some g) : base ≤ g ∧ g < w.heap.size ∧ ∃ cs, w.heap[g]? = some (.cells cs e (0, 0)) := by
  rcases h.2 with ⟨e, _⟩ | ⟨g', cap, cur, e, h1, h2, _⟩
  · subst e; cases hg
  · subst e
    simp only [Value.ownBlock, Option.some.injEq] at hg
    subst hg
    exact ⟨h1, (Array.getElem?_eq_some_iff.1 h2).1, _, h2⟩
theorem own_belowO {w w' : World} {base size n : Nat} {e : TypeId} {v : Value} {xs : List Value} (h : w.ownsRow base e size v n xs) (hb : Below w.heap.size w w') : w'.ownsRow base e size v n xs := own_setO h (fun g hg => hb.block g (own_ltO h g hg).2.1)
/-- A list that grows, told by the last cell of a value in block B; its own lists lie from N1 up. -/
structure GrowO (N0 N1 B : Nat) (x0 x1 x2 x3 : Value) (w : World) (v : Value) (vs : List Value) (pre : List (Oh × Ous)) : Prop where
  cell : w.heap[B]? = some (.cells #[x0, x1, x2, x3, v] 26 (0, 0))
  own : w.ownsRow N0 26 5 v pre.length vs
  off : v.ownBlock ≠ some B
  kids : KidsO N1 v.ownBlock w pre vs
theorem GrowO.below {N0 N1 B : Nat} {x0 x1 x2 x3 : Value} {w w' : World} {v : Value} {vs : List Value} {pre : List (Oh × Ous)} (h : GrowO N0 N1 B x0 x1 x2 x3 w v vs pre) (hb : Below w.heap.size w w') : GrowO N0 N1 B x0 x1 x2 x3 w' v vs pre :=
  ⟨(hb.block _ (Array.getElem?_eq_some_iff.1 h.cell).1).trans h.cell, own_belowO h.own hb, h.off, h.kids.step hb.size (fun k h1 h2 h3 => ⟨hb.block k h2, h3⟩)⟩
theorem grown_reflO (w : World) (r : Option Nat) : w.grownBy w r := ⟨rfl, rfl, rfl, Nat.le_refl _, fun _ _ _ => rfl⟩
theorem grown_belowO {a w w' : World} {r : Option Nat} (h : a.grownBy w r) (hb : Below w.heap.size w w') : a.grownBy w' r :=
  ⟨hb.os.trans h.os, hb.tape.trans h.tape, hb.output.trans h.output, Nat.le_trans h.size hb.size, fun k hk hn => (hb.block k (Nat.lt_of_lt_of_le hk h.size)).trans (h.block k hk hn)⟩
theorem grown_transO {a w w' : World} {r : Option Nat} (h : a.grownBy w r) (g : w.grownBy w' r) : a.grownBy w' r :=
  ⟨g.os.trans h.os, g.tape.trans h.tape, g.output.trans h.output, Nat.le_trans h.size g.size, fun k hk hn => (g.block k (Nat.lt_of_lt_of_le hk h.size) hn).trans (h.block k hk hn)⟩
/-- Where the region of one append stands: x is the operation that appends, s the slot that it writes. -/
def GrJO (x s N0 N1 B : Nat) (x0 x1 x2 x3 : Value) (W0 : World) (v : Value) (vs : List Value) (pre : List (Oh × Ous)) (h : Oh) (sub : Ous) (L : Array Bool) (u : Nat → Value) (W : World) : Prop :=
  W0.grownBy W v.ownBlock ∧ (L.getD x false = false → GrowO N0 N1 B x0 x1 x2 x3 W v vs pre) ∧
  (L.getD x false = true → ∃ vs', W.ownsRow N0 26 5 (u s) (pre.length + 1) vs' ∧ (u s).ownBlock ≠ some B ∧ KidsO N1 (u s).ownBlock W (pre ++ [(h, sub)]) vs')
theorem GrJO.start {x s N0 N1 B : Nat} {x0 x1 x2 x3 : Value} {W0 : World} {v : Value} {vs : List Value} {pre : List (Oh × Ous)} {h : Oh} {sub : Ous} {n : Nat} {u : Nat → Value} (H : GrowO N0 N1 B x0 x1 x2 x3 W0 v vs pre) : GrJO x s N0 N1 B x0 x1 x2 x3 W0 v vs pre h sub (Array.replicate n false) u W0.drew := by
  refine ⟨grown_belowO (grown_reflO _ _) (Below.refl _ _).drew, fun _ => H.below (Below.refl _ _).drew, fun h => ?_⟩
  exfalso
  by_cases hx : x < n
  · simp [hx] at h
  · simp [hx] at h
theorem GrJO.step {x s N0 N1 B : Nat} {x0 x1 x2 x3 : Value} {W0 : World} {v : Value} {vs : List Value} {pre : List (Oh × Ous)} {h : Oh} {sub : Ous} {L : Array Bool} {u : Nat → Value} {W W' : World} (H : GrJO x s N0 N1 B x0 x1 x2 x3 W0 v vs pre h sub L u W) (hb : Below W.heap.size W W') {i d : Nat} {val : Value} (hi : i ≠ x) (hd : d ≠ s) :
    GrJO x s N0 N1 B x0 x1 x2 x3 W0 v vs pre h sub (L.setIfInBounds i true) (upd u d val) W' := by
  obtain ⟨h1, h2, h3⟩ := H
  refine ⟨grown_belowO h1 hb, fun hl => ?_, fun hl => ?_⟩
  · rw [getD_set_ne false hi] at hl; exact (h2 hl).below hb
  · rw [getD_set_ne false hi] at hl
    obtain ⟨vs', g1, g2, g3⟩ := h3 hl
    rw [upd_ne _ _ (Ne.symm hd)]
    exact ⟨vs', own_belowO g1 hb, g2, g3.step hb.size (fun k a1 a2 a3 => ⟨hb.block k a2, a3⟩)⟩
theorem GrJO.put {x s N0 N1 B : Nat} {x0 x1 x2 x3 : Value} {W0 : World} {v : Value} {vs : List Value} {pre : List (Oh × Ous)} {h : Oh} {sub : Ous} {L : Array Bool} {u : Nat → Value} {W W' : World} (H : GrJO x s N0 N1 B x0 x1 x2 x3 W0 v vs pre h sub L u W) (hx : x < L.size) (hl : L.getD x false = false) (hB0 : B < W0.heap.size) (hN : N1 ≤ W0.heap.size)
    (hrow : ∀ g, v.ownBlock = some g → g < W0.heap.size) {b1 b2 : Option Addr} {f1 f2 : Nat} (hf : h.keys.length ≤ f1) (A1 : KeRow W0.heap.size W.heap.size W b1 h.keys) (A2 : OuRow W0.heap.size W.heap.size W b2 sub) {g cap : Nat}
    (ho : W'.ownsRow N0 26 5 (.slice (some ⟨g, 0, none⟩) (pre.length + 1) cap) (pre.length + 1) (vs ++ [.int .i64 h.k, .int .i64 h.n, .string h.t, .slice b1 h.keys.length f1, .slice b2 sub.len f2])) (hg : W.grownBy W' v.ownBlock) (hat : v.ownBlock = some g ∨ g = W.heap.size) :
    GrJO x s N0 N1 B x0 x1 x2 x3 W0 v vs pre h sub (L.setIfInBounds x true) (upd u s (.slice (some ⟨g, 0, none⟩) (pre.length + 1) cap)) W' := by
  obtain ⟨h1, h2, h3⟩ := H
  have hG := h2 hl
  have hlen : vs.length = pre.length * 5 := by have := hG.own.1; omega
  have hzW := h1.size
  refine ⟨grown_transO h1 hg, fun hh => ?_, fun _ => ?_⟩
  · simp [hx] at hh
  · rw [upd_at]
    refine ⟨_, ho, ?_, ?_⟩
    · simp only [Value.ownBlock, ne_eq, Option.some.injEq]
      rcases hat with h | h
      · intro e; exact hG.off (by rw [h, e])
      · omega
    · have hk := KidsO.more (m := W0.heap.size) (f1 := f1) (f2 := f2) hG.kids hlen hN hf (fun g hg => .inl (hrow g hg)) A1 A2
      refine KidsO.step hk hg.size (fun k a1 a2 a3 => ⟨hg.block k a2 a3, ?_⟩)
      simp only [Value.ownBlock, ne_eq, Option.some.injEq]
      rcases hat with h | h
      · intro e; exact a3 (by rw [h, e])
      · omega
theorem GrJO.done {x s N0 N1 B : Nat} {x0 x1 x2 x3 : Value} {W0 : World} {v : Value} {vs : List Value} {pre : List (Oh × Ous)} {h : Oh} {sub : Ous} {L : Array Bool} {u : Nat → Value} {W : World} (H : GrJO x s N0 N1 B x0 x1 x2 x3 W0 v vs pre h sub L u W) (h0 : GrowO N0 N1 B x0 x1 x2 x3 W0 v vs pre) (hl : L.getD x false = true) (hBN : B < N1) :
    W.heap[B]? = some (.cells #[x0, x1, x2, x3, v] 26 (0, 0)) ∧ ∃ vs', GrowO N0 N1 B x0 x1 x2 x3 (W.setCell ⟨B, 4, none⟩ (u s)) (u s) vs' (pre ++ [(h, sub)]) := by
  obtain ⟨h1, h2, h3⟩ := H
  obtain ⟨vs', g1, g2, g3⟩ := h3 hl
  have hc : W.heap[B]? = some (.cells #[x0, x1, x2, x3, v] 26 (0, 0)) := (h1.block B (Array.getElem?_eq_some_iff.1 h0.cell).1 (fun e => h0.off e.symm)).trans h0.cell
  refine ⟨hc, vs', ⟨?_, ?_, g2, ?_⟩⟩
  · have := row_set hc 4 (u s)
    simpa using this
  · simp only [List.length_append, List.length_cons, List.length_nil, Nat.zero_add]
    exact own_setO g1 (fun g hg => heap_set _ _ _ _ _ (fun e => g2 (by rw [hg, e])))
  · exact KidsO.step g3 (by simp) (fun k a1 a2 a3 => ⟨heap_set _ _ _ _ _ (by omega), a3⟩)
end Go.Proofs.YtoaeggfnlenjkaaGreatDoor.G
