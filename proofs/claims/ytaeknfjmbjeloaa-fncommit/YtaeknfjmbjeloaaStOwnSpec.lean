/- The specification's copy of a store. -/
import Derived.Test.YtaeknfjmbjeloaaGRegion
import Derived.Test.YtaeknfjmbjeloaaStTo
namespace Go.Proofs.Ytaeknfjmbjeloaa.G
open Go.ChangeShapes Go.WideShapes Go.ChangeAt Go.RowKit
set_option linter.unusedVariables false

/-- Every edge that binds goes back. -/
def back3B (ops : Array Oper) : Bool := (List.range ops.size).all fun i => match ops[i]? with
  | some o => o.after.all fun e => !Region.binds .any e || decide (e.on < i)
  | none => true
theorem some_ready3 {ops : Array Oper} (hback : back3B ops = true) {L : Array Bool} (hs : L.size = ops.size) : ∀ (k i : Nat), i < k → L.getD i true = false → ∃ j, j ∈ Region.ready .any ops L
  | 0, i, hk, _ => by omega
  | k + 1, i, hk, hi => by
    have hlt := getD_lt hi
    have ho : ops[i]? = some (ops[i]'(by omega)) := Array.getElem?_eq_getElem (by omega)
    by_cases hr : i ∈ Region.ready .any ops L
    · exact ⟨i, hr⟩
    · rw [mem_ready] at hr
      have : ¬ ∀ e ∈ (ops[i]'(by omega)).after, Region.binds .any e = true → L.getD e.on false = true := fun hh => hr ⟨hi, _, ho, hh⟩
      simp only [Classical.not_forall] at this
      obtain ⟨e, he, hb, hne⟩ := this
      have hbk := hback
      unfold back3B at hbk
      rw [List.all_eq_true] at hbk
      have h2 := hbk i (by rw [List.mem_range]; omega)
      rw [ho] at h2
      simp only [Array.all_eq_true_iff_forall_mem, Bool.or_eq_true, Bool.not_eq_true', decide_eq_true_eq] at h2
      have h3 : e.on < i := by
        rcases h2 e he with h4 | h4
        · rw [hb] at h4; cases h4
        · exact h4
      exact some_ready3 hback hs k e.on (by omega) (getD_other (by omega) hne)

theorem region_rel3 {P : Program} {ops : Array Oper} {Q : Exit → Act → World → Prop} {id : Nat} {W0 : World} {n : Nat} (hm : P.follows .mixedOrders = true) (hback : back3B ops = true) (hlast : lastB ops n = true)
    (fr : (Nat → Value) → Act) (u0 : Nat → Value) (dst : Nat → Nat) (hdst : ∀ i j, i < n → j < n → dst i = dst j → i = j)
    (Pv : Nat → Value → World → Prop) (J : Array Bool → (Nat → Value) → World → Prop)
    (hJ0 : J (Array.replicate ops.size false) u0 W0.drew)
    (hstep : ∀ L u w i, i < n → L.size = n + 1 → L.getD i true = false → Below W0.heap.size W0 w → J L u w → (∀ o, ops[i]? = some o → ∀ e ∈ o.after, Region.binds .any e = true → L.getD e.on false = true ∧ Pv e.on (u (dst e.on)) w) →
      wpOp P ops Q i (fun a' w' => ∃ v, a' = fr (upd u (dst i) v) ∧ Below W0.heap.size w w' ∧ (∀ j x, Pv j x w → Pv j x w') ∧ Pv i v w' ∧ J (L.setIfInBounds i true) (upd u (dst i) v) w') (fr u) w)
    (hend : ∀ L u w, L.size = n + 1 → (∀ i, i < n → L.getD i false = true) → Below W0.heap.size W0 w → J L u w → (∀ i, i < n → Pv i (u (dst i)) w) → wpOp P ops Q n (fun a' w' => Q .normal a' w') (fr u) w) :
    (Code.region id ops true).wp P Q (fr u0) W0 := by
  unfold lastB at hlast
  rw [Bool.and_eq_true, decide_eq_true_eq] at hlast
  obtain ⟨hsz, hall⟩ := hlast
  refine wp_region_any hm ?_
  have key : ∀ (fuel : Nat) (L : Array Bool) (u : Nat → Value) (w : World), L.size = n + 1 → L.toList.count false ≤ fuel → L.getD n true = false → Below W0.heap.size W0 w → J L u w →
      (∀ i, i < n → L.getD i false = true → Pv i (u (dst i)) w) → wpAny P .any ops Q fuel L (fr u) w := by
    intro fuel
    induction fuel with
    | zero =>
      intro L u w hs hc hn hb hj hp
      have h1 := cntF L.toList n (getD_get hn)
      omega
    | succ fuel ih =>
      intro L u w hs hc hn hb hj hp
      refine ⟨fun h0 => ?_, fun i hi => ?_⟩
      · obtain ⟨j, hj'⟩ := some_ready3 hback (hs.trans hsz.symm) (n + 1) n (by omega) hn
        rw [h0] at hj'
        cases hj'
      · rw [mem_ready] at hi
        obtain ⟨hL, o, ho, hdep⟩ := hi
        have hlt := getD_lt hL
        by_cases hin : i = n
        · subst hin
          have hdone : ∀ j, j < i → L.getD j false = true := by
            intro j hj2
            rw [List.all_eq_true] at hall
            have h2 := hall j (by rw [List.mem_range]; exact hj2)
            rw [ho] at h2
            simp only [List.any_eq_true, Bool.and_eq_true, decide_eq_true_eq] at h2
            obtain ⟨e, he, he1, he2⟩ := h2
            have := hdep e (Array.mem_toList_iff.1 he) he2
            rwa [he1] at this
          refine wpOp_mono (fun a' w' hq => wpAny_done ?_ hq fuel) (hend L u w hs hdone hb hj (fun j hj2 => hp j hj2 (hdone j hj2)))
          rw [List.eq_nil_iff_forall_not_mem]
          intro j hj2
          rw [mem_ready] at hj2
          obtain ⟨h1, -⟩ := hj2
          have hjl := getD_lt h1
          rw [Array.size_setIfInBounds] at hjl
          by_cases hji : j = i
          · subst hji
            simp [hlt] at h1
          · rw [getD_set_ne true (Ne.symm hji), getD_both (by omega) (hdone j (by omega))] at h1
            cases h1
        · refine wpOp_mono ?_ (hstep L u w i (by omega) hs hL hb hj (fun o' ho' e he hbi => ?_))
          · rintro a' w' ⟨v, rfl, hb2, hst, hp2, hj2⟩
            refine ih _ _ _ (by rw [Array.size_setIfInBounds]; exact hs) ?_ (by rw [getD_set_ne true hin]; exact hn) (hb.trans hb2) hj2 ?_
            · have h1 := cntF L.toList i (getD_get hL)
              rw [Array.toList_setIfInBounds]
              omega
            · intro j hjn hjl
              by_cases hji : j = i
              · subst hji
                rw [upd_at]
                exact hp2
              · rw [getD_set_ne false (Ne.symm hji)] at hjl
                rw [upd_ne _ _ (fun h => hji (hdst j i hjn (by omega) h))]
                exact hst _ _ (hp j hjn hjl)
          · rw [ho] at ho'
            simp only [Option.some.injEq] at ho'
            subst ho'
            have h1 := hdep e he hbi
            unfold back3B at hback
            rw [List.all_eq_true] at hback
            have h2 := hback i (by rw [List.mem_range]; omega)
            rw [ho] at h2
            simp only [Array.all_eq_true_iff_forall_mem, Bool.or_eq_true, Bool.not_eq_true', decide_eq_true_eq] at h2
            have h3 : e.on < i := by
              rcases h2 e he with h4 | h4
              · rw [hbi] at h4; cases h4
              · exact h4
            exact ⟨h1, hp e.on (by omega) h1⟩
  have hrep : (Array.replicate ops.size false).toList.count false = ops.size := by simp
  exact key ops.size _ u0 _ (by rw [Array.size_replicate]; exact hsz) (by rw [hrep]; exact Nat.le_refl _) (by simp [hsz]) ((Below.refl _ _).drew) hJ0 (fun i hi h => by
    rw [hsz] at h
    simp [show i < n + 1 by omega] at h)
end Go.Proofs.Ytaeknfjmbjeloaa.G
namespace Go.Proofs.Ytaeknfjmbjeloaa.G
open Go.ChangeShapes Go.WideShapes Go.ChangeAt Go.RowKit
set_option linter.unusedVariables false

def waitB (ops : Array Oper) (m : Nat) : Bool := (List.range m).all fun i => match ops[m]? with
  | some o => o.after.toList.any fun e => decide (e.on = i) && Region.binds .any e
  | none => false
/-- The operations from n on, k of them, are the last, each waits for all ahead. -/
def tailB (ops : Array Oper) (n k : Nat) : Bool := decide (ops.size = n + k) && (List.range k).all fun t => waitB ops (n + t)
/-- The last operations, one behind the other. -/
def wpTail (P : Program) (ops : Array Oper) (Q : Exit → Act → World → Prop) : Nat → Nat → Act → World → Prop
  | _, 0 => fun a w => Q .normal a w
  | n, k + 1 => fun a w => wpOp P ops Q n (fun a1 w1 => wpTail P ops Q (n + 1) k a1 w1) a w
theorem wait_done {ops : Array Oper} {m : Nat} {L : Array Bool} {o : Oper} (ho : ops[m]? = some o) (hdep : ∀ e ∈ o.after, Region.binds .any e = true → L.getD e.on false = true) (hk : waitB ops m = true) : ∀ j, j < m → L.getD j false = true := by
  intro j hj
  unfold waitB at hk
  rw [List.all_eq_true] at hk
  have h2 := hk j (by rw [List.mem_range]; exact hj)
  rw [ho] at h2
  simp only [List.any_eq_true, Bool.and_eq_true, decide_eq_true_eq] at h2
  obtain ⟨e, he, he1, he2⟩ := h2
  have := hdep e (Array.mem_toList_iff.1 he) he2
  rwa [he1] at this
theorem tail_any {P : Program} {ops : Array Oper} {Q : Exit → Act → World → Prop} (hback : back3B ops = true) : ∀ (k m fuel : Nat) (L : Array Bool) (a : Act) (w : World), ops.size = m + k → L.size = m + k →
    (∀ t, t < k → waitB ops (m + t) = true) → (∀ j, j < m → L.getD j true = true) → (∀ j, m ≤ j → j < m + k → L.getD j true = false) → k ≤ fuel → wpTail P ops Q m k a w → wpAny P .any ops Q fuel L a w
  | 0, m, fuel, L, a, w, hsz, hs, hw, hd, hu, hf, h => by
    refine wpAny_done ?_ h fuel
    rw [List.eq_nil_iff_forall_not_mem]
    intro g hg
    rw [mem_ready] at hg
    obtain ⟨g1, -⟩ := hg
    have hgl := getD_lt g1
    rw [hd g (by omega)] at g1
    cases g1
  | k + 1, m, 0, L, a, w, hsz, hs, hw, hd, hu, hf, h => by omega
  | k + 1, m, fuel + 1, L, a, w, hsz, hs, hw, hd, hu, hf, h => by
    refine ⟨fun h0 => ?_, fun i hi => ?_⟩
    · obtain ⟨j, hj'⟩ := some_ready3 hback (hs.trans hsz.symm) (m + 1) m (by omega) (hu m (Nat.le_refl _) (by omega))
      rw [h0] at hj'
      cases hj'
    · rw [mem_ready] at hi
      obtain ⟨hL, o, ho, hdep⟩ := hi
      have hlt := getD_lt hL
      have him : i = m := by
        by_cases e1 : i < m
        · rw [hd i e1] at hL; cases hL
        · by_cases e2 : i = m
          · exact e2
          · obtain ⟨t, rfl⟩ : ∃ t, i = m + t := ⟨i - m, by omega⟩
            have h1 := wait_done ho hdep (hw t (by omega)) m (by omega)
            have h2 := hu m (Nat.le_refl _) (by omega)
            rw [getD_both (by omega) h1] at h2
            cases h2
      subst him
      refine wpOp_mono (fun a1 w1 hq => ?_) h
      refine tail_any hback k (i + 1) fuel _ a1 w1 (by omega) (by rw [Array.size_setIfInBounds]; omega) (fun t ht => ?_) (fun j hj => ?_) (fun j hj1 hj2 => ?_) (by omega) hq
      · have := hw (t + 1) (by omega)
        rwa [show i + (t + 1) = i + 1 + t by omega] at this
      · by_cases e : j = i
        · subst e; simp [hlt]
        · rw [getD_set_ne true (Ne.symm e)]; exact hd j (by omega)
      · rw [getD_set_ne true (by omega)]; exact hu j (by omega) (by omega)
theorem count_tail {n k : Nat} {L : Array Bool} (hs : L.size = n + k) (h : ∀ j, n ≤ j → j < n + k → L.getD j true = false) : k ≤ L.toList.count false := by
  have e : L.toList = L.toList.take n ++ L.toList.drop n := (List.take_append_drop _ _).symm
  have hd : L.toList.drop n = List.replicate k false := by
    rw [List.eq_replicate_iff]
    refine ⟨by simp [hs], fun b hb => ?_⟩
    obtain ⟨i, hi, rfl⟩ := List.getElem_of_mem hb
    have hi2 : n + i < L.size := by simp at hi; omega
    have := h (n + i) (by omega) (by omega)
    rw [Array.getD, dif_pos hi2] at this
    simpa using this
  rw [e, List.count_append, hd, List.count_replicate_self]
  omega
theorem region_rel4 {P : Program} {ops : Array Oper} {Q : Exit → Act → World → Prop} {id : Nat} {W0 : World} {n k : Nat} (hk0 : 0 < k) (hm : P.follows .mixedOrders = true) (hback : back3B ops = true) (hlast : tailB ops n k = true)
    (fr : (Nat → Value) → Act) (u0 : Nat → Value) (dst : Nat → Nat) (hdst : ∀ i j, i < n → j < n → dst i = dst j → i = j)
    (Pv : Nat → Value → World → Prop) (J : (Nat → Value) → World → Prop)
    (hP : ∀ i v w w', Pv i v w → Below w.heap.size w w' → Pv i v w') (hJ0 : J u0 W0.drew)
    (hstep : ∀ u w i, i < n → Below W0.heap.size W0 w → J u w → (∀ o, ops[i]? = some o → ∀ e ∈ o.after, Region.binds .any e = true → Pv e.on (u (dst e.on)) w) →
      wpOp P ops Q i (fun a' w' => ∃ v, a' = fr (upd u (dst i) v) ∧ Below w.heap.size w w' ∧ Pv i v w' ∧ J (upd u (dst i) v) w') (fr u) w)
    (hend : ∀ u w, Below W0.heap.size W0 w → J u w → (∀ i, i < n → Pv i (u (dst i)) w) → wpTail P ops Q n k (fr u) w) :
    (Code.region id ops true).wp P Q (fr u0) W0 := by
  unfold tailB at hlast
  rw [Bool.and_eq_true, decide_eq_true_eq, List.all_eq_true] at hlast
  obtain ⟨hsz, hall⟩ := hlast
  have hw : ∀ t, t < k → waitB ops (n + t) = true := fun t ht => hall t (List.mem_range.2 ht)
  refine wp_region_any hm ?_
  have key : ∀ (fuel : Nat) (L : Array Bool) (u : Nat → Value) (w : World), L.size = n + k → L.toList.count false ≤ fuel → (∀ j, n ≤ j → j < n + k → L.getD j true = false) → Below W0.heap.size W0 w → J u w →
      (∀ i, i < n → L.getD i false = true → Pv i (u (dst i)) w) → wpAny P .any ops Q fuel L (fr u) w := by
    intro fuel
    induction fuel with
    | zero =>
      intro L u w hs hc hn hb hj hp
      have h1 := cntF L.toList n (getD_get (hn n (Nat.le_refl _) (by omega)))
      omega
    | succ fuel ih =>
      intro L u w hs hc hn hb hj hp
      refine ⟨fun h0 => ?_, fun i hi => ?_⟩
      · obtain ⟨j, hj'⟩ := some_ready3 hback (hs.trans hsz.symm) (n + 1) n (by omega) (hn n (Nat.le_refl _) (by omega))
        rw [h0] at hj'
        cases hj'
      · rw [mem_ready] at hi
        obtain ⟨hL, o, ho, hdep⟩ := hi
        have hlt := getD_lt hL
        by_cases hin : n ≤ i
        · obtain ⟨t, rfl⟩ : ∃ t, i = n + t := ⟨i - n, by omega⟩
          have hdone := wait_done ho hdep (hw t (by omega))
          obtain rfl : t = 0 := by
            by_cases e : t = 0
            · exact e
            · have h1 := hdone n (by omega)
              have h2 := hn n (Nat.le_refl _) (by omega)
              rw [getD_both (by omega) h1] at h2
              cases h2
          rw [Nat.add_zero] at hdone hL ho
          have htail : wpAny P .any ops Q (fuel + 1) L (fr u) w := tail_any hback k n (fuel + 1) L (fr u) w hsz hs hw (fun j hj2 => getD_both (by omega) (hdone j hj2)) hn (by
            have : k ≤ L.toList.count false := count_tail hs hn
            omega) (hend u w hb hj (fun j hj2 => hp j hj2 (hdone j hj2)))
          exact htail.2 _ (by rw [mem_ready]; exact ⟨by rw [Nat.add_zero]; exact hL, o, by rw [Nat.add_zero]; exact ho, hdep⟩)
        · refine wpOp_mono ?_ (hstep u w i (by omega) hb hj (fun o' ho' e he hbi => ?_))
          · rintro a' w' ⟨v, rfl, hb2, hp2, hj2⟩
            refine ih _ _ _ (by rw [Array.size_setIfInBounds]; exact hs) ?_ (fun j hj1 hj2 => by rw [getD_set_ne true (by omega)]; exact hn j hj1 hj2) (hb.trans (hb2.mono hb.size)) hj2 ?_
            · have h1 := cntF L.toList i (getD_get hL)
              rw [Array.toList_setIfInBounds]
              omega
            · intro j hjn hjl
              by_cases hji : j = i
              · subst hji
                rw [upd_at]
                exact hp2
              · rw [getD_set_ne false (Ne.symm hji)] at hjl
                rw [upd_ne _ _ (fun h => hji (hdst j i hjn (by omega) h))]
                exact hP _ _ _ _ (hp j hjn hjl) hb2
          · rw [ho] at ho'
            simp only [Option.some.injEq] at ho'
            subst ho'
            have h1 := hdep e he hbi
            unfold back3B at hback
            rw [List.all_eq_true] at hback
            have h2 := hback i (by rw [List.mem_range]; omega)
            rw [ho] at h2
            simp only [Array.all_eq_true_iff_forall_mem, Bool.or_eq_true, Bool.not_eq_true', decide_eq_true_eq] at h2
            have h3 : e.on < i := by
              rcases h2 e he with h4 | h4
              · rw [hbi] at h4; cases h4
              · exact h4
            exact hp e.on (by omega) h1
  have hrep : (Array.replicate ops.size false).toList.count false = ops.size := by simp
  exact key ops.size _ u0 _ (by rw [Array.size_replicate]; exact hsz) (by rw [hrep]; exact Nat.le_refl _) (fun j hj1 hj2 => by simp [hsz, hj2]) ((Below.refl _ _).drew) hJ0 (fun i hi h => by
    rw [hsz] at h
    simp [show i < n + k by omega] at h)
end Go.Proofs.Ytaeknfjmbjeloaa.G
namespace Go.Proofs.Ytaeknfjmbjeloaa.G
open Go.ChangeShapes Go.WideShapes Go.ChangeAt Go.RowKit
set_option linter.unusedVariables false

theorem region_rel5 {P : Program} {ops : Array Oper} {Q : Exit → Act → World → Prop} {id : Nat} {W0 : World} {n k : Nat} (hk0 : 0 < k) (hm : P.follows .mixedOrders = true) (hback : back3B ops = true) (hlast : tailB ops n k = true)
    (fr : (Nat → Value) → Act) (u0 : Nat → Value) (dst : Nat → Nat) (hdst : ∀ i j, i < n → j < n → dst i = dst j → i = j)
    (Pv : Nat → Value → World → Prop) (J : Array Bool → (Nat → Value) → World → Prop)
    (hJ0 : J (Array.replicate ops.size false) u0 W0.drew)
    (hstep : ∀ L u w i, i < n → L.size = n + k → L.getD i true = false → J L u w → (∀ o, ops[i]? = some o → ∀ e ∈ o.after, Region.binds .any e = true → L.getD e.on false = true ∧ Pv e.on (u (dst e.on)) w) →
      wpOp P ops Q i (fun a' w' => ∃ v, a' = fr (upd u (dst i) v) ∧ (∀ j x, Pv j x w → Pv j x w') ∧ Pv i v w' ∧ J (L.setIfInBounds i true) (upd u (dst i) v) w') (fr u) w)
    (hend : ∀ L u w, L.size = n + k → (∀ i, i < n → L.getD i false = true) → J L u w → (∀ i, i < n → Pv i (u (dst i)) w) → wpTail P ops Q n k (fr u) w) :
    (Code.region id ops true).wp P Q (fr u0) W0 := by
  unfold tailB at hlast
  rw [Bool.and_eq_true, decide_eq_true_eq, List.all_eq_true] at hlast
  obtain ⟨hsz, hall⟩ := hlast
  have hw : ∀ t, t < k → waitB ops (n + t) = true := fun t ht => hall t (List.mem_range.2 ht)
  refine wp_region_any hm ?_
  have key : ∀ (fuel : Nat) (L : Array Bool) (u : Nat → Value) (w : World), L.size = n + k → L.toList.count false ≤ fuel → (∀ j, n ≤ j → j < n + k → L.getD j true = false) → J L u w →
      (∀ i, i < n → L.getD i false = true → Pv i (u (dst i)) w) → wpAny P .any ops Q fuel L (fr u) w := by
    intro fuel
    induction fuel with
    | zero =>
      intro L u w hs hc hn hj hp
      have h1 := cntF L.toList n (getD_get (hn n (Nat.le_refl _) (by omega)))
      omega
    | succ fuel ih =>
      intro L u w hs hc hn hj hp
      refine ⟨fun h0 => ?_, fun i hi => ?_⟩
      · obtain ⟨j, hj'⟩ := some_ready3 hback (hs.trans hsz.symm) (n + 1) n (by omega) (hn n (Nat.le_refl _) (by omega))
        rw [h0] at hj'
        cases hj'
      · rw [mem_ready] at hi
        obtain ⟨hL, o, ho, hdep⟩ := hi
        have hlt := getD_lt hL
        by_cases hin : n ≤ i
        · obtain ⟨t, rfl⟩ : ∃ t, i = n + t := ⟨i - n, by omega⟩
          have hdone := wait_done ho hdep (hw t (by omega))
          obtain rfl : t = 0 := by
            by_cases e : t = 0
            · exact e
            · have h1 := hdone n (by omega)
              have h2 := hn n (Nat.le_refl _) (by omega)
              rw [getD_both (by omega) h1] at h2
              cases h2
          rw [Nat.add_zero] at hdone hL ho
          have htail : wpAny P .any ops Q (fuel + 1) L (fr u) w := tail_any hback k n (fuel + 1) L (fr u) w hsz hs hw (fun j hj2 => getD_both (by omega) (hdone j hj2)) hn (by
            have : k ≤ L.toList.count false := count_tail hs hn
            omega) (hend L u w hs hdone hj (fun j hj2 => hp j hj2 (hdone j hj2)))
          exact htail.2 _ (by rw [mem_ready]; exact ⟨by rw [Nat.add_zero]; exact hL, o, by rw [Nat.add_zero]; exact ho, hdep⟩)
        · refine wpOp_mono ?_ (hstep L u w i (by omega) hs hL hj (fun o' ho' e he hbi => ?_))
          · rintro a' w' ⟨v, rfl, hk2, hp2, hj2⟩
            refine ih _ _ _ (by rw [Array.size_setIfInBounds]; exact hs) ?_ (fun j hj1 hj2 => by rw [getD_set_ne true (by omega)]; exact hn j hj1 hj2) hj2 ?_
            · have h1 := cntF L.toList i (getD_get hL)
              rw [Array.toList_setIfInBounds]
              omega
            · intro j hjn hjl
              by_cases hji : j = i
              · subst hji
                rw [upd_at]
                exact hp2
              · rw [getD_set_ne false (Ne.symm hji)] at hjl
                rw [upd_ne _ _ (fun h => hji (hdst j i hjn (by omega) h))]
                exact hk2 _ _ (hp j hjn hjl)
          · rw [ho] at ho'
            simp only [Option.some.injEq] at ho'
            subst ho'
            have h1 := hdep e he hbi
            unfold back3B at hback
            rw [List.all_eq_true] at hback
            have h2 := hback i (by rw [List.mem_range]; omega)
            rw [ho] at h2
            simp only [Array.all_eq_true_iff_forall_mem, Bool.or_eq_true, Bool.not_eq_true', decide_eq_true_eq] at h2
            have h3 : e.on < i := by
              rcases h2 e he with h4 | h4
              · rw [hbi] at h4; cases h4
              · exact h4
            exact ⟨h1, hp e.on (by omega) h1⟩
  have hrep : (Array.replicate ops.size false).toList.count false = ops.size := by simp
  exact key ops.size _ u0 _ (by rw [Array.size_replicate]; exact hsz) (by rw [hrep]; exact Nat.le_refl _) (fun j hj1 hj2 => by simp [hsz, hj2]) hJ0 (fun i hi h => by
    rw [hsz] at h
    simp [show i < n + k by omega] at h)
end Go.Proofs.Ytaeknfjmbjeloaa.G
namespace Go.Proofs.Ytaeknfjmbjeloaa.G
open Go.ChangeShapes Go.WideShapes Go.ChangeAt Go.RowKit
set_option linter.unusedVariables false

theorem Grow.lt {b : Nat} {now : Int} {w : World} {v : Value} {vs : List Value} {l : Chs} (h : Grow b now w v vs l) : b < w.heap.size ∧ ∀ k, v.ownBlock = some k → b - 1 ≤ k ∧ k < w.heap.size := by
  refine ⟨(Array.getElem?_eq_some_iff.1 h.cell).1, fun k hk => ?_⟩
  rcases h.own.2 with ⟨e, _⟩ | ⟨g', cap, cur, e, h1, h2, _⟩
  · subst e; cases hk
  · subst e
    simp only [Value.ownBlock, Option.some.injEq] at hk
    subst hk
    exact ⟨h1, (Array.getElem?_eq_some_iff.1 h2).1⟩
/-- Where the region stands: x is the operation that appends, s the slot that it writes. -/
def GrJ (x s b : Nat) (now : Int) (W0 : World) (v : Value) (vs : List Value) (l : Chs) (y : List Ve) (L : Array Bool) (u : Nat → Value) (W : World) : Prop :=
  W0.grownBy W v.ownBlock ∧ (L.getD x false = false → Grow b now W v vs l) ∧
  (L.getD x false = true → ∃ vs', W.ownsRow (b - 1) 58 1 (u s) (l ++ [y]).length vs' ∧ (u s).ownBlock ≠ some b ∧ Kids (u s).ownBlock (b + 1) W vs' (l ++ [y]))
theorem grown_refl (w : World) (r : Option Nat) : w.grownBy w r := ⟨rfl, rfl, rfl, Nat.le_refl _, fun _ _ _ => rfl⟩
theorem grown_below {a w w' : World} {r : Option Nat} (h : a.grownBy w r) (hb : Below w.heap.size w w') : a.grownBy w' r :=
  ⟨hb.os.trans h.os, hb.tape.trans h.tape, hb.output.trans h.output, Nat.le_trans h.size hb.size, fun k hk hn => (hb.block k (Nat.lt_of_lt_of_le hk h.size)).trans (h.block k hk hn)⟩
theorem grown_trans {a w w' : World} {r : Option Nat} (h : a.grownBy w r) (g : w.grownBy w' r) : a.grownBy w' r :=
  ⟨g.os.trans h.os, g.tape.trans h.tape, g.output.trans h.output, Nat.le_trans h.size g.size, fun k hk hn => (g.block k (Nat.lt_of_lt_of_le hk h.size) hn).trans (h.block k hk hn)⟩
theorem own_below {w w' : World} {base size n : Nat} {e : TypeId} {v : Value} {xs : List Value} (h : w.ownsRow base e size v n xs) (hb : Below w.heap.size w w') : w'.ownsRow base e size v n xs := by
  refine own_set h (fun g hg => hb.block g ?_)
  rcases h.2 with ⟨e, _⟩ | ⟨g', cap, cur, e, h1, h2, _⟩
  · subst e; cases hg
  · subst e
    simp only [Value.ownBlock, Option.some.injEq] at hg
    subst hg
    exact (Array.getElem?_eq_some_iff.1 h2).1
theorem GrJ.start {x s b : Nat} {now : Int} {W0 : World} {v : Value} {vs : List Value} {l : Chs} {y : List Ve} {n : Nat} {u : Nat → Value} (h : Grow b now W0 v vs l) : GrJ x s b now W0 v vs l y (Array.replicate n false) u W0.drew := by
  refine ⟨grown_below (grown_refl _ _) (Below.refl _ _).drew, fun _ => h.below (Below.refl _ _).drew, fun h => ?_⟩
  exfalso
  by_cases hx : x < n
  · simp [hx] at h
  · simp [hx] at h
theorem GrJ.step {x s b : Nat} {now : Int} {W0 : World} {v : Value} {vs : List Value} {l : Chs} {y : List Ve} {L : Array Bool} {u : Nat → Value} {W W' : World} (h : GrJ x s b now W0 v vs l y L u W) (hb : Below W.heap.size W W') {i d : Nat} {val : Value} (hi : i ≠ x) (hd : d ≠ s) :
    GrJ x s b now W0 v vs l y (L.setIfInBounds i true) (upd u d val) W' := by
  obtain ⟨h1, h2, h3⟩ := h
  refine ⟨grown_below h1 hb, fun hl => ?_, fun hl => ?_⟩
  · rw [getD_set_ne false hi] at hl; exact (h2 hl).below hb
  · rw [getD_set_ne false hi] at hl
    obtain ⟨vs', g1, g2, g3⟩ := h3 hl
    rw [upd_ne _ _ (Ne.symm hd)]
    exact ⟨vs', own_below g1 hb, g2, g3.keep hb.size (fun k a1 a2 a3 => ⟨hb.block k a2, a3⟩)⟩
/-- The append itself. -/
theorem GrJ.put {x s b : Nat} {now : Int} {W0 : World} {v : Value} {vs : List Value} {l : Chs} {y : List Ve} {L : Array Bool} {u : Nat → Value} {W W' : World} (h : GrJ x s b now W0 v vs l y L u W) (hx : x < L.size) (hl : L.getD x false = false) (hb0 : b + 1 ≤ W0.heap.size)
    {kid : Value} (hk : KidX v.ownBlock W0.heap.size W kid y) {g cap : Nat} (ho : W'.ownsRow (b - 1) 58 1 (.slice (some ⟨g, 0, none⟩) (l.length + 1) cap) (l.length + 1) (vs ++ [kid])) (hg : W.grownBy W' v.ownBlock) (hat : v.ownBlock = some g ∨ g = W.heap.size) :
    GrJ x s b now W0 v vs l y (L.setIfInBounds x true) (upd u s (.slice (some ⟨g, 0, none⟩) (l.length + 1) cap)) W' := by
  obtain ⟨h1, h2, h3⟩ := h
  have hG := h2 hl
  have hlen := hG.len
  refine ⟨grown_trans h1 hg, fun hh => ?_, fun _ => ?_⟩
  · simp [hx] at hh
  · rw [upd_at]
    refine ⟨vs ++ [kid], by simpa using ho, ?_, ?_⟩
    · simp only [Value.ownBlock, ne_eq, Option.some.injEq]
      rcases hat with h | h
      · intro e; exact hG.off (by rw [h, e])
      · have := h1.size; omega
    · refine Kids.snoc (Kids.keep hG.kids hg.size (fun k a1 a2 a3 => ⟨hg.block k a2 a3, ?_⟩)) hlen (KidX.low (KidX.keep hk hg.size (fun k a1 a2 a3 => ⟨hg.block k a2 a3, ?_⟩)) hb0)
      all_goals
        simp only [Value.ownBlock, ne_eq, Option.some.injEq]
        rcases hat with h | h
        · intro e; exact a3 (by rw [h, e])
        · omega
/-- Behind the store. -/
theorem GrJ.done {x s b : Nat} {now : Int} {W0 : World} {v : Value} {vs : List Value} {l : Chs} {y : List Ve} {L : Array Bool} {u : Nat → Value} {W : World} (h : GrJ x s b now W0 v vs l y L u W) (h0 : Grow b now W0 v vs l) (hl : L.getD x false = true) (hb : 0 < b) :
    W.heap[b]? = some (.cells #[v, .int .i64 now] 25 (0, 0)) ∧ ∃ vs', Grow b now (W.setCell ⟨b, 0, none⟩ (u s)) (u s) vs' (l ++ [y]) := by
  obtain ⟨h1, h2, h3⟩ := h
  obtain ⟨vs', g1, g2, g3⟩ := h3 hl
  have hc : W.heap[b]? = some (.cells #[v, .int .i64 now] 25 (0, 0)) := (h1.block b h0.lt.1 (fun e => h0.off e.symm)).trans h0.cell
  refine ⟨hc, vs', ⟨?_, ?_, g2, ?_⟩⟩
  · have := row_set hc 0 (u s)
    simpa using this
  · exact own_set g1 (fun g hg => heap_set _ _ _ _ _ (fun e => g2 (by rw [hg, e])))
  · refine Kids.keep g3 (by simp) (fun k a1 a2 a3 => ⟨heap_set _ _ _ _ _ (by omega), a3⟩)
end Go.Proofs.Ytaeknfjmbjeloaa.G
namespace Go.Proofs.Ytaeknfjmbjeloaa.G
open Go.ChangeShapes Go.WideShapes Go.ChangeAt Go.RowKit
set_option linter.unusedVariables false

/-- A row of chains that a call owns, its chains in blocks of their own. -/
def OwnK (lo : Nat) (w : World) (v : Value) (l : Chs) : Prop := ∃ vs, w.ownsRow lo 58 1 v l.length vs ∧ Kids v.ownBlock lo w vs l
/-- What each operation of the copying tells. -/
def OwPv (B N0 M0 S : Nat) (W0 : World) (v : Value) (A : Option Addr) (n c k : Nat) (pk : Value) (a3 : Option Addr) (c3 : Nat) (lc : List Ve) : Nat → Value → World → Prop
  | 0, y, _ => y = .pointer (some ⟨B, 0, none⟩)
  | 1, y, _ => y = v
  | 2, y, _ => ∃ g, y = .slice g 0 0
  | 3, y, _ => y = .pointer (some ⟨S, 0, none⟩)
  | 4, y, _ => y = .slice A n c
  | 5, y, _ => y = .int .i64 k
  | 6, y, _ => y = pk
  | 7, y, _ => y = .slice a3 lc.length c3
  | 8, y, W => KidX v.ownBlock N0 W y lc
  | 9, y, W => ∃ h z, y = .slice (some ⟨h, 0, none⟩) 1 1 ∧ N0 ≤ h ∧ W.heap[h]? = some (.cells #[z] 58 (0, 0)) ∧ KidX v.ownBlock N0 W z lc
  | 10, _, _ => True
  | _, y, _ => y = .pointer (some ⟨B, 0, none⟩)
theorem OwPv.up {B N0 M0 S : Nat} {W0 : World} {v : Value} {A : Option Addr} {n c k : Nat} {pk : Value} {a3 : Option Addr} {c3 : Nat} {lc : List Ve} {W W' : World} (hs : W.heap.size ≤ W'.heap.size) (hk : ∀ k, N0 ≤ k → k < W.heap.size → W'.heap[k]? = W.heap[k]?) {i : Nat} {y : Value} (h : OwPv B N0 M0 S W0 v A n c k pk a3 c3 lc i y W) : OwPv B N0 M0 S W0 v A n c k pk a3 c3 lc i y W' := by
  unfold OwPv at h ⊢
  split at h
  case h_9 => exact h.keep hs (fun k a1 a2 a3 => ⟨hk k a1 a2, a3⟩)
  case h_10 =>
    obtain ⟨h', z, h1, h2, h3, h4⟩ := h
    exact ⟨h', z, h1, h2, (hk _ h2 (Array.getElem?_eq_some_iff.1 h3).1).trans h3, h4.keep hs (fun k a1 a2 a3 => ⟨hk k a1 a2, a3⟩)⟩
  all_goals exact h
set_option maxHeartbeats 8000000 in
set_option maxRecDepth 40000 in
theorem spec_l06Own (a : Option Addr) (c : Nat) (l : Chs) (now : Int) (w : World) (hr : ChRow 0 w.heap.size w a l) (hbd : ChsBd 1048576 l) :
    Calls Try.prog 42 #[.agg #[.slice a l.length c, .int .i64 now]] w fun e w' => ∃ v, e = .returned (.agg #[v, .int .i64 now]) ∧ OwnK w.heap.size w' v l ∧ Below w.heap.size w w' := by
  have HR : Hid (ChRow 0 w.heap.size w a l) := hr
  have hl := hbd.1
  have HT : Hid (∀ x ∈ l, x.length ≤ 1048576) := hbd.2
  clear hr hbd
  go_enter Try.func42, Try.ntmps42
  go_wp2_with fail
  obtain ⟨V, hV⟩ : ∃ V : World, V = (((w.alloc (.cells #[.slice a l.length c, .int .i64 now] 25)).alloc (.cells #[.slice none 0 0, .int .i64 0] 25)).alloc (.cells #[] 58)).alloc (.cells #[.slice (some ⟨w.heap.size + 1 + 1, 0, none⟩) 0 0, .int .i64 now] 25) := ⟨_, rfl⟩
  have zV : V.heap.size = w.heap.size + 4 := by rw [hV]; simp
  have bV : Below w.heap.size w V := by
    rw [hV]
    repeat (first | exact Below.refl _ _ | refine Below.alloc ?_ (by first | omega | (simp <;> omega)) _)
  have c0 : V.heap[w.heap.size]? = some (.cells #[.slice a l.length c, .int .i64 now] 25 (0, 0)) := by
    rw [hV, Below.heap_alloc _ _ _ (by simp <;> omega), Below.heap_alloc _ _ _ (by simp <;> omega), Below.heap_alloc _ _ _ (by simp <;> omega)]; exact heap_alloc_new _ _
  have c1 : V.heap[w.heap.size + 1]? = some (.cells #[.slice none 0 0, .int .i64 0] 25 (0, 0)) := by
    rw [hV, Below.heap_alloc _ _ _ (by simp <;> omega), Below.heap_alloc _ _ _ (by simp <;> omega)]
    have := heap_alloc_new (w.alloc (.cells #[.slice a l.length c, .int .i64 now] 25)) (.cells #[.slice none 0 0, .int .i64 0] 25)
    simpa using this
  have gV : Grow (w.heap.size + 1 + 1 + 1) now V (.slice (some ⟨w.heap.size + 1 + 1, 0, none⟩) 0 0) [] [] := by
    refine ⟨?_, ⟨rfl, .inr ⟨w.heap.size + 1 + 1, 0, #[], rfl, by omega, ?_, Nat.le_refl _, Nat.zero_le _, rfl, rfl⟩⟩, by simp [Value.ownBlock], fun i x hx => by simp at hx⟩
    · rw [hV]
      have := heap_alloc_new (((w.alloc (.cells #[.slice a l.length c, .int .i64 now] 25)).alloc (.cells #[.slice none 0 0, .int .i64 0] 25)).alloc (.cells #[] 58)) (.cells #[.slice (some ⟨w.heap.size + 1 + 1, 0, none⟩) 0 0, .int .i64 now] 25)
      simpa using this
    · rw [hV, Below.heap_alloc _ _ _ (by simp <;> omega)]
      have := heap_alloc_new ((w.alloc (.cells #[.slice a l.length c, .int .i64 now] 25)).alloc (.cells #[.slice none 0 0, .int .i64 0] 25)) (.cells #[] 58)
      simpa using this
  rw [← hV]
  have GV : Hid _ := gV
  have CV : Hid (V.heap[w.heap.size]? = some (.cells #[.slice a l.length c, .int .i64 now] 25 (0, 0)) ∧ V.heap[w.heap.size + 1]? = some (.cells #[.slice none 0 0, .int .i64 0] 25 (0, 0)) ∧ Below w.heap.size w V) := ⟨c0, c1, bV⟩
  clear gV c0 c1 bV hV
  go_loopw [4] (fun i w' => ∃ (k : Nat) (v : Value) (vs : List Value), k ≤ l.length ∧ i = .int .i64 k ∧ Below (w.heap.size + 1 + 1) V w' ∧ Hid (Grow (w.heap.size + 1 + 1 + 1) now w' v vs (l.take k))) (fun i _ => l.length - (intOf i).toNat)
  case atStart => exact ⟨0, _, _, by omega, rfl, Below.refl _ _, by rw [List.take_zero]; exact GV⟩
  case round =>
    obtain ⟨wo, rfl⟩ : ∃ x, x = wr := ⟨_, rfl⟩
    obtain ⟨k, v, vs, hk, rfl, hb, HG⟩ := hrel
    have hz := hb.size
    have e0 : wo.heap[w.heap.size]? = some (.cells #[.slice a l.length c, .int .i64 now] 25 (0, 0)) := (hb.block _ (by omega)).trans CV.out.1
    have e1 : wo.heap[w.heap.size + 1]? = some (.cells #[.slice none 0 0, .int .i64 0] 25 (0, 0)) := (hb.block _ (by omega)).trans CV.out.2.1
    have Q : Hid (Below w.heap.size w wo) := CV.out.2.2.trans (hb.mono (by omega))
    by_cases hlt : k < l.length
    case neg =>
      obtain rfl : k = l.length := by omega
      have GE : Hid (Grow (w.heap.size + 1 + 1 + 1) now wo v vs l) := by have := HG.out; rw [List.take_length] at this; exact this
      have x0 := fun o => row_cell e0 o
      have xv := fun o => row_cell GE.out.cell o
      have x1 := fun o => row_cell e1 o
      have y1 := fun o => row_frozen e1 o
      obtain ⟨a9, c9, hv, _⟩ := GE.out.row
      have hlt' : ¬ (l.length : Int) < l.length := by omega
      have OW : Hid (wo.ownsRow w.heap.size 58 1 v l.length vs) := own_low GE.out.own (by omega)
      have KW : Hid (Kids v.ownBlock w.heap.size wo vs l) := GE.out.kids.low (by omega)
      have HL9 := GE.out.lt.2
      have HLT : Hid _ := HL9
      have KB9 : Hid (Kids v.ownBlock (w.heap.size + 1 + 1 + 1 + 1) wo vs l) := GE.out.kids
      subst hv
      clear e0 e1 HG HL9
      go_wp2_with fail
      refine bodyPost_ret (v := .agg #[.slice a9 l.length c9, .int .i64 now]) (by simp [results, Try.results42, go_sem, x1]) rfl ⟨_, rfl, ⟨vs, ?_, ?_⟩, ?_⟩
      · refine own_set OW.out (fun g hg => ?_)
        have := (HLT.out g hg).1
        rw [heap_set _ _ _ _ _ (by omega), heap_set _ _ _ _ _ (by omega)]
      · refine Kids.low (Kids.keep KB9.out (by simp) (fun g h1 h2 h3 => ⟨?_, h3⟩)) (by omega)
        rw [heap_set _ _ _ _ _ (by omega), heap_set _ _ _ _ _ (by omega)]
      · repeat (refine Below.setCell ?_ (by first | omega | (simp <;> omega)) _)
        exact Q.out
    obtain ⟨b, o, a3, c3, ha, _, hbl, d0, hcap, r3⟩ := ChRow.cells (ChRow.keep HR.out (agree Q.out (Nat.le_refl _))) k hlt
    subst ha
    have hX : l[k].length ≤ 1048576 := HT.out l[k] (List.getElem_mem hlt)
    have R3 : Hid (VeRow 0 w.heap.size wo a3 l[k]) := r3
    have x0 := fun o => row_cell e0 o
    have HB : Hid _ := hb
    have E1 : Hid _ := e1
    have E0 : Hid _ := e0
    have D0 : Hid (wo.cell? ⟨b, o + k, none⟩ = some (.slice a3 l[k].length c3)) := d0
    have hlt' : (k : Int) < l.length := by omega
    clear r3 e0 e1 hb
    go_wp2_with fail
    have hN0 : w.heap.size + 1 + 1 + 1 + 1 ≤ wo.heap.size := by omega
    have HRB : Hid _ := HG.out.lt.2
    have hpl : (l.take k).length = k := by rw [List.length_take]; omega
    have HPL : Hid _ := hpl
    clear hpl x0 d0
    refine region_rel5 (n := 12) (k := 1) (by omega) (by kernel_rfl) (by kernel_rfl) (by kernel_rfl) (fun u => ⟨#[.agg #[.slice (some ⟨b, o, none⟩) l.length c, .int .i64 now], .pointer (some ⟨w.heap.size, 0, none⟩), .pointer (some ⟨w.heap.size + 1, 0, none⟩), .pointer (some ⟨w.heap.size + 1 + 1 + 1, 0, none⟩), .int .i64 k, .slice (some ⟨w.heap.size + 1 + 1, 0, none⟩) 0 0, .pointer (some ⟨w.heap.size, 1, none⟩), .int .i64 now, .agg #[.slice (some ⟨w.heap.size + 1 + 1, 0, none⟩) 0 0, .int .i64 now], .int .i64 k, .pointer (some ⟨w.heap.size, 0, none⟩), .slice (some ⟨b, o, none⟩) l.length c, .int .i64 l.length, .bool true, u14, u15, u 16, u 17, u 18, u 19, u 20, u 21, u 22, u 23, u 24, u 25, u 26, u 27, undef], []⟩) (fun n => match n with | 16 => u16 | 17 => u17 | 18 => u18 | 19 => u19 | 20 => u20 | 21 => u21 | 22 => u22 | 23 => u23 | 24 => u24 | 25 => u25 | 26 => u26 | 27 => u27 | _ => undef) (fun i => 16 + i) (fun i j _ _ h => by omega)
      (OwPv (w.heap.size + 1 + 1 + 1) wo.heap.size w.heap.size w.heap.size wo v (some ⟨b, o, none⟩) l.length c k (.pointer (some ⟨b, o + k, none⟩)) a3 c3 l[k]) (GrJ 10 26 (w.heap.size + 1 + 1 + 1) now wo v vs (l.take k) l[k]) (GrJ.start HG.out) ?step ?last
    case step =>
      intro L u W i hi hLs hLi hj hdep
      have hzW := hj.1.size
      have oldb : ∀ g, g < w.heap.size + 1 + 1 → W.heap[g]? = wo.heap[g]? := fun g hg => hj.1.block g (by omega) (fun e => by have := (HRB.out g e.symm).1; omega)
      have hcase : i = 0 ∨ i = 1 ∨ i = 2 ∨ i = 3 ∨ i = 4 ∨ i = 5 ∨ i = 6 ∨ i = 7 ∨ i = 8 ∨ i = 9 ∨ i = 10 ∨ i = 11 := by omega
      rcases hcase with rfl | rfl | rfl | rfl | rfl | rfl | rfl | rfl | rfl | rfl | rfl | rfl
      · refine wpOp_step rfl (fun K hK => ?_)
        clear hdep
        go_simp
        exact hK _ _ ⟨_, rfl, fun _ _ h => h, rfl, hj.step (Below.refl _ _) (by omega) (by omega)⟩
      · have d0 : u 16 = .pointer (some ⟨w.heap.size + 1 + 1 + 1, 0, none⟩) := (hdep _ rfl ⟨0, .data⟩ (by simp) rfl).2
        have x6 := fun o => row_cell ((hj.1.block _ HG.out.lt.1 (fun e => HG.out.off e.symm)).trans HG.out.cell) o
        refine wpOp_step rfl (fun K hK => ?_)
        clear hdep
        go_simp
        exact hK _ _ ⟨_, by simp [upd, d0], fun _ _ h => h, rfl, hj.step (Below.refl _ _) (by omega) (by omega)⟩
      · refine wpOp_step rfl (fun K hK => ?_)
        clear hdep
        go_simp
        exact hK _ _ ⟨_, rfl, fun j y h => OwPv.up (by simp) (fun k _ h2 => Below.heap_alloc _ _ _ h2) h, ⟨_, rfl⟩, hj.step ((Below.refl _ _).alloc (Nat.le_refl _) _) (by omega) (by omega)⟩
      · refine wpOp_step rfl (fun K hK => ?_)
        clear hdep
        go_simp
        exact hK _ _ ⟨_, rfl, fun _ _ h => h, rfl, hj.step (Below.refl _ _) (by omega) (by omega)⟩
      · have d3 : u 19 = .pointer (some ⟨w.heap.size, 0, none⟩) := (hdep _ rfl ⟨3, .data⟩ (by simp) rfl).2
        have x6 := fun o => row_cell ((oldb _ (by omega)).trans E0.out) o
        refine wpOp_step rfl (fun K hK => ?_)
        clear hdep
        go_simp
        exact hK _ _ ⟨_, by simp [upd, d3], fun _ _ h => h, rfl, hj.step (Below.refl _ _) (by omega) (by omega)⟩
      · refine wpOp_step rfl (fun K hK => ?_)
        clear hdep
        go_simp
        exact hK _ _ ⟨_, rfl, fun _ _ h => h, rfl, hj.step (Below.refl _ _) (by omega) (by omega)⟩
      · have d4 : u 20 = .slice (some ⟨b, o, none⟩) l.length c := (hdep _ rfl ⟨4, .data⟩ (by simp) rfl).2
        have d5 : u 21 = .int .i64 k := (hdep _ rfl ⟨5, .data⟩ (by simp) rfl).2
        refine wpOp_step rfl (fun K hK => ?_)
        clear hdep
        go_simp
        exact hK _ _ ⟨_, by simp [upd, d4, d5], fun _ _ h => h, rfl, hj.step (Below.refl _ _) (by omega) (by omega)⟩
      · have d6 : u 22 = .pointer (some ⟨b, o + k, none⟩) := (hdep _ rfl ⟨6, .data⟩ (by simp) rfl).2
        have x7 := (World.cell?_of_block (a := ⟨b, o + k, none⟩) (w := wo) (w' := W) (oldb b (by omega))).trans D0.out
        refine wpOp_step rfl (fun K hK => ?_)
        clear hdep
        go_simp
        exact hK _ _ ⟨_, by simp [upd, d6], fun _ _ h => h, rfl, hj.step (Below.refl _ _) (by omega) (by omega)⟩
      · obtain ⟨g2, d2⟩ : ∃ g, u 18 = .slice g 0 0 := (hdep _ rfl ⟨2, .data⟩ (by simp) rfl).2
        have d7 : u 23 = .slice a3 l[k].length c3 := (hdep _ rfl ⟨7, .data⟩ (by simp) rfl).2
        have r5W : VeRow 0 W.heap.size W a3 l[k] := VeRow.wide (VeRow.keep R3.out (fun g _ h2 => oldb g (by omega))) (Nat.le_refl _) (by omega)
        obtain ⟨a6, c6, W6, hrun, h61, h62, h63⟩ := app_fresh l[k] a3 g2 c3 W r5W hX
        have HK6 : Hid (KidX v.ownBlock wo.heap.size W6 (.slice a6 l[k].length c6) l[k]) := by
          refine ⟨a6, c6, rfl, h61, ?_⟩
          rcases h62 with h | ⟨h, hv⟩
          · exact .inl h
          · exact .inr ⟨W.heap.size, h, hzW, hv.lt, fun e => by have := (HRB.out _ e.symm).2; omega, hv⟩
        have H63 : Hid _ := h63
        clear hdep r5W h61 h62 h63
        refine wpOp_step rfl (fun K hK => ?_)
        refine wp_append_run (.tmp 18) (.tmp 23) _ rfl _ _ _ _ d2 d7 hrun ?_
        exact hK _ _ ⟨_, rfl, fun j y h => OwPv.up H63.out.size (fun k _ h2 => H63.out.block k h2) h, HK6.out, hj.step H63.out (by omega) (by omega)⟩
      · have d6 : KidX v.ownBlock wo.heap.size W (u 24) l[k] := (hdep _ rfl ⟨8, .data⟩ (by simp) rfl).2
        have H6 := d6
        obtain ⟨a6, c6, e6, _⟩ := d6
        rw [e6] at H6
        have HK7 : Hid _ := H6
        clear hdep H6
        refine wpOp_step rfl (fun K hK => ?_)
        go_simp
        exact hK _ _ ⟨.slice (some ⟨W.heap.size, 0, none⟩) 1 1, by simp [upd, e6], fun j y h => OwPv.up (by simp) (fun k _ h2 => Below.heap_alloc _ _ _ h2) h, ⟨W.heap.size, _, rfl, hzW, heap_alloc_new _ _, KidX.keep (show KidX v.ownBlock wo.heap.size W (.slice a6 l[k].length c6) l[k] from HK7.out) (by simp) (fun k _ h2 h3 => ⟨Below.heap_alloc _ _ _ h2, h3⟩)⟩, hj.step ((Below.refl _ _).alloc (Nat.le_refl _) _) (by omega) (by omega)⟩
      · obtain ⟨h, z, d7, h71, h72, h73⟩ : ∃ h z, u 25 = .slice (some ⟨h, 0, none⟩) 1 1 ∧ wo.heap.size ≤ h ∧ W.heap[h]? = some (.cells #[z] 58 (0, 0)) ∧ KidX v.ownBlock wo.heap.size W z l[k] := (hdep _ rfl ⟨9, .data⟩ (by simp) rfl).2
        have d1 : u 17 = v := (hdep _ rfl ⟨1, .data⟩ (by simp) rfl).2
        have hl8 : L.getD 10 false = false := by
          cases h8 : L.getD 10 false
          · rfl
          · rw [getD_both (by omega) h8] at hLi; cases hLi
        have hG := hj.2.1 hl8
        have ho := hG.own
        rw [HPL.out] at ho
        obtain ⟨g, cap, W8, hrun, q1, q2, q3, q4⟩ := app_row k v z vs _ h W ho h72 h73.one (by omega) (by omega)
        have HJ8 : Hid _ := GrJ.put hj (by omega) hl8 hN0 h73 (g := g) (cap := cap) (by rw [HPL.out]; exact q1) q2 q3
        rw [HPL.out] at HJ8
        have HQ2 : Hid _ := q2
        clear hdep ho hG q1 q2 q3 h73 h72
        refine wpOp_step rfl (fun K hK => ?_)
        refine wp_append_run (.tmp 17) (.tmp 25) _ rfl _ _ _ _ d1 d7 hrun ?_
        exact hK _ _ ⟨_, rfl, fun j y h => OwPv.up HQ2.out.size (fun k a1 h2 => HQ2.out.block k h2 (fun e => by have := (HRB.out _ e.symm).2; omega)) h, trivial, HJ8.out⟩
      · refine wpOp_step rfl (fun K hK => ?_)
        clear hdep
        go_simp
        exact hK _ _ ⟨_, rfl, fun _ _ h => h, rfl, hj.step (Below.refl _ _) (by omega) (by omega)⟩
    case last =>
      intro L u W hLs hL hj hp
      have d9 : u 27 = .pointer (some ⟨w.heap.size + 1 + 1 + 1, 0, none⟩) := hp 11 (by omega)
      obtain ⟨hc, vs', hG⟩ := hj.done HG.out (hL 10 (by omega)) (by omega)
      obtain ⟨a9, n9, c9, e9⟩ : ∃ a n c, u 26 = .slice a n c := by obtain ⟨a9, c9, e9, _⟩ := hG.row; exact ⟨a9, _, c9, e9⟩
      have q2 := fun o => row_cell hc o
      have f2 := fun o => row_frozen hc o
      have HG2 : Hid (Grow (w.heap.size + 1 + 1 + 1) now (W.setCell ⟨w.heap.size + 1 + 1 + 1, 0, none⟩ (u 26)) (u 26) vs' (l.take (k + 1))) := by
        rw [Hid, List.take_succ_eq_append_getElem hlt]; exact hG
      have HBW : Hid (Below (w.heap.size + 1 + 1) V W) := HB.out.grown hj.1 (by omega) (fun g hg => by have := (HRB.out g hg).1; omega)
      rw [e9] at HG2
      clear hp hj hc hG
      unfold wpTail
      refine wpOp_step rfl (fun K hK => ?_)
      go_simp
      refine hK _ _ ?_
      clear hK
      unfold wpTail
      go_wp2_with fail
      exact ⟨⟨k + 1, _, vs', by omega, by go_num, HBW.out.setCell (by first | omega | (simp <;> omega)) _, HG2⟩, by simp [intOf]; omega⟩
end Go.Proofs.Ytaeknfjmbjeloaa.G
