/- A region that draws its order and whose last k operations wait, each, for all ahead: as region_rel, the last k by hand. -/
import Derived.Test.YtiehcmdhfeeomaaGRegionThree
namespace Go.Proofs.Ytiehcmdhfeeomaa.G
open Go.ChangeShapes Go.WideShapes Go.ChangeAt Go.RowKit
set_option linter.unusedVariables false

def waitB (ops : Array Oper) (m : Nat) : Bool := (List.range m).all fun i => match ops[m]? with
  | some o => o.after.toList.any fun e => decide (e.on = i) && Region.binds .any e
  | none => false
/-- The operations from n on, k of them, are the last, each waits for all ahead. -/
def tailB (ops : Array Oper) (n k : Nat) : Bool := decide (ops.size = n + k) && (List.range k).all fun t => waitB ops (n + t)
/-- The last operations, one behind the other. -/
def wpTail (P : Program) (ops : Array Oper) (Q : Exit → Act → World → Prop) : Nat → Nat → Act → World → Prop
  | _, 0 => fun a w => Q .normal a w
  | n, k + 1 => fun a w => wpOp P ops Q n (fun a1 w1 => wpTail P ops Q (n + 1) k a1 w1) a w
theorem wait_done {ops : Array Oper} {m : Nat} {L : Array Bool} {o : Oper} (ho : ops[m]? = some o) (hdep : ∀ e ∈ o.after, Region.binds .any e = true → L.getD e.on false = true) (hk : waitB ops m = true) : ∀ j, j < m → L.getD j false = true := by
  intro j hj
  unfold waitB at hk
  rw [List.all_eq_true] at hk
  have h2 := hk j (by rw [List.mem_range]; exact hj)
  rw [ho] at h2
  simp only [List.any_eq_true, Bool.and_eq_true, decide_eq_true_eq] at h2
  obtain ⟨e, he, he1, he2⟩ := h2
  have := hdep e (Array.mem_toList_iff.1 he) he2
  rwa [he1] at this
theorem tail_any {P : Program} {ops : Array Oper} {Q : Exit → Act → World → Prop} (hback : back3B ops = true) : ∀ (k m fuel : Nat) (L : Array Bool) (a : Act) (w : World), ops.size = m + k → L.size = m + k →
    (∀ t, t < k → waitB ops (m + t) = true) → (∀ j, j < m → L.getD j true = true) → (∀ j, m ≤ j → j < m + k → L.getD j true = false) → k ≤ fuel → wpTail P ops Q m k a w → wpAny P .any ops Q fuel L a w
  | 0, m, fuel, L, a, w, hsz, hs, hw, hd, hu, hf, h => by
    refine wpAny_done ?_ h fuel
    rw [List.eq_nil_iff_forall_not_mem]
    intro g hg
    rw [mem_ready] at hg
    obtain ⟨g1, -⟩ := hg
    have hgl := getD_lt g1
    rw [hd g (by omega)] at g1
    cases g1
  | k + 1, m, 0, L, a, w, hsz, hs, hw, hd, hu, hf, h => by omega
  | k + 1, m, fuel + 1, L, a, w, hsz, hs, hw, hd, hu, hf, h => by
    refine ⟨fun h0 => ?_, fun i hi => ?_⟩
    · obtain ⟨j, hj'⟩ := some_ready3 hback (hs.trans hsz.symm) (m + 1) m (by omega) (hu m (Nat.le_refl _) (by omega))
      rw [h0] at hj'
      cases hj'
    · rw [mem_ready] at hi
      obtain ⟨hL, o, ho, hdep⟩ := hi
      have hlt := getD_lt hL
      have him : i = m := by
        by_cases e1 : i < m
        · rw [hd i e1] at hL; cases hL
        · by_cases e2 : i = m
          · exact e2
          · obtain ⟨t, rfl⟩ : ∃ t, i = m + t := ⟨i - m, by omega⟩
            have h1 := wait_done ho hdep (hw t (by omega)) m (by omega)
            have h2 := hu m (Nat.le_refl _) (by omega)
            rw [getD_both (by omega) h1] at h2
            cases h2
      subst him
      refine wpOp_mono (fun a1 w1 hq => ?_) h
      refine tail_any hback k (i + 1) fuel _ a1 w1 (by omega) (by rw [Array.size_setIfInBounds]; omega) (fun t ht => ?_) (fun j hj => ?_) (fun j hj1 hj2 => ?_) (by omega) hq
      · have := hw (t + 1) (by omega)
        rwa [show i + (t + 1) = i + 1 + t by omega] at this
      · by_cases e : j = i
        · subst e; simp [hlt]
        · rw [getD_set_ne true (Ne.symm e)]; exact hd j (by omega)
      · rw [getD_set_ne true (by omega)]; exact hu j (by omega) (by omega)
theorem count_tail {n k : Nat} {L : Array Bool} (hs : L.size = n + k) (h : ∀ j, n ≤ j → j < n + k → L.getD j true = false) : k ≤ L.toList.count false := by
  have e : L.toList = L.toList.take n ++ L.toList.drop n := (List.take_append_drop _ _).symm
  have hd : L.toList.drop n = List.replicate k false := by
    rw [List.eq_replicate_iff]
    refine ⟨by simp [hs], fun b hb => ?_⟩
    obtain ⟨i, hi, rfl⟩ := List.getElem_of_mem hb
    have hi2 : n + i < L.size := by simp at hi; omega
    have := h (n + i) (by omega) (by omega)
    rw [Array.getD, dif_pos hi2] at this
    simpa using this
  rw [e, List.count_append, hd, List.count_replicate_self]
  omega
theorem region_rel4 {P : Program} {ops : Array Oper} {Q : Exit → Act → World → Prop} {id : Nat} {W0 : World} {n k : Nat} (hk0 : 0 < k) (hm : P.follows .mixedOrders = true) (hback : back3B ops = true) (hlast : tailB ops n k = true)
    (fr : (Nat → Value) → Act) (u0 : Nat → Value) (dst : Nat → Nat) (hdst : ∀ i j, i < n → j < n → dst i = dst j → i = j)
    (Pv : Nat → Value → World → Prop) (J : (Nat → Value) → World → Prop)
    (hP : ∀ i v w w', Pv i v w → Below w.heap.size w w' → Pv i v w') (hJ0 : J u0 W0.drew)
    (hstep : ∀ u w i, i < n → Below W0.heap.size W0 w → J u w → (∀ o, ops[i]? = some o → ∀ e ∈ o.after, Region.binds .any e = true → Pv e.on (u (dst e.on)) w) →
      wpOp P ops Q i (fun a' w' => ∃ v, a' = fr (upd u (dst i) v) ∧ Below w.heap.size w w' ∧ Pv i v w' ∧ J (upd u (dst i) v) w') (fr u) w)
    (hend : ∀ u w, Below W0.heap.size W0 w → J u w → (∀ i, i < n → Pv i (u (dst i)) w) → wpTail P ops Q n k (fr u) w) :
    (Code.region id ops true).wp P Q (fr u0) W0 := by
  unfold tailB at hlast
  rw [Bool.and_eq_true, decide_eq_true_eq, List.all_eq_true] at hlast
  obtain ⟨hsz, hall⟩ := hlast
  have hw : ∀ t, t < k → waitB ops (n + t) = true := fun t ht => hall t (List.mem_range.2 ht)
  refine wp_region_any hm ?_
  have key : ∀ (fuel : Nat) (L : Array Bool) (u : Nat → Value) (w : World), L.size = n + k → L.toList.count false ≤ fuel → (∀ j, n ≤ j → j < n + k → L.getD j true = false) → Below W0.heap.size W0 w → J u w →
      (∀ i, i < n → L.getD i false = true → Pv i (u (dst i)) w) → wpAny P .any ops Q fuel L (fr u) w := by
    intro fuel
    induction fuel with
    | zero =>
      intro L u w hs hc hn hb hj hp
      have h1 := cntF L.toList n (getD_get (hn n (Nat.le_refl _) (by omega)))
      omega
    | succ fuel ih =>
      intro L u w hs hc hn hb hj hp
      refine ⟨fun h0 => ?_, fun i hi => ?_⟩
      · obtain ⟨j, hj'⟩ := some_ready3 hback (hs.trans hsz.symm) (n + 1) n (by omega) (hn n (Nat.le_refl _) (by omega))
        rw [h0] at hj'
        cases hj'
      · rw [mem_ready] at hi
        obtain ⟨hL, o, ho, hdep⟩ := hi
        have hlt := getD_lt hL
        by_cases hin : n ≤ i
        · obtain ⟨t, rfl⟩ : ∃ t, i = n + t := ⟨i - n, by omega⟩
          have hdone := wait_done ho hdep (hw t (by omega))
          obtain rfl : t = 0 := by
            by_cases e : t = 0
            · exact e
            · have h1 := hdone n (by omega)
              have h2 := hn n (Nat.le_refl _) (by omega)
              rw [getD_both (by omega) h1] at h2
              cases h2
          rw [Nat.add_zero] at hdone hL ho
          have htail : wpAny P .any ops Q (fuel + 1) L (fr u) w := tail_any hback k n (fuel + 1) L (fr u) w hsz hs hw (fun j hj2 => getD_both (by omega) (hdone j hj2)) hn (by
            have : k ≤ L.toList.count false := count_tail hs hn
            omega) (hend u w hb hj (fun j hj2 => hp j hj2 (hdone j hj2)))
          exact htail.2 _ (by rw [mem_ready]; exact ⟨by rw [Nat.add_zero]; exact hL, o, by rw [Nat.add_zero]; exact ho, hdep⟩)
        · refine wpOp_mono ?_ (hstep u w i (by omega) hb hj (fun o' ho' e he hbi => ?_))
          · rintro a' w' ⟨v, rfl, hb2, hp2, hj2⟩
            refine ih _ _ _ (by rw [Array.size_setIfInBounds]; exact hs) ?_ (fun j hj1 hj2 => by rw [getD_set_ne true (by omega)]; exact hn j hj1 hj2) (hb.trans (hb2.mono hb.size)) hj2 ?_
            · have h1 := cntF L.toList i (getD_get hL)
              rw [Array.toList_setIfInBounds]
              omega
            · intro j hjn hjl
              by_cases hji : j = i
              · subst hji
                rw [upd_at]
                exact hp2
              · rw [getD_set_ne false (Ne.symm hji)] at hjl
                rw [upd_ne _ _ (fun h => hji (hdst j i hjn (by omega) h))]
                exact hP _ _ _ _ (hp j hjn hjl) hb2
          · rw [ho] at ho'
            simp only [Option.some.injEq] at ho'
            subst ho'
            have h1 := hdep e he hbi
            unfold back3B at hback
            rw [List.all_eq_true] at hback
            have h2 := hback i (by rw [List.mem_range]; omega)
            rw [ho] at h2
            simp only [Array.all_eq_true_iff_forall_mem, Bool.or_eq_true, Bool.not_eq_true', decide_eq_true_eq] at h2
            have h3 : e.on < i := by
              rcases h2 e he with h4 | h4
              · rw [hbi] at h4; cases h4
              · exact h4
            exact hp e.on (by omega) h1
  have hrep : (Array.replicate ops.size false).toList.count false = ops.size := by simp
  exact key ops.size _ u0 _ (by rw [Array.size_replicate]; exact hsz) (by rw [hrep]; exact Nat.le_refl _) (fun j hj1 hj2 => by simp [hsz, hj2]) ((Below.refl _ _).drew) hJ0 (fun i hi h => by
    rw [hsz] at h
    simp [show i < n + k by omega] at h)
end Go.Proofs.Ytiehcmdhfeeomaa.G
