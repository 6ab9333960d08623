/- A region that draws its order, its last k operations forced, whose operations may write: each says by itself what stays. -/
import Derived.Test.YtiehcmdhfeeomaaGRegionFour
namespace Go.Proofs.Ytiehcmdhfeeomaa.G
open Go.ChangeShapes Go.WideShapes Go.ChangeAt Go.RowKit
set_option linter.unusedVariables false

theorem region_rel5 {P : Program} {ops : Array Oper} {Q : Exit → Act → World → Prop} {id : Nat} {W0 : World} {n k : Nat} (hk0 : 0 < k) (hm : P.follows .mixedOrders = true) (hback : back3B ops = true) (hlast : tailB ops n k = true)
    (fr : (Nat → Value) → Act) (u0 : Nat → Value) (dst : Nat → Nat) (hdst : ∀ i j, i < n → j < n → dst i = dst j → i = j)
    (Pv : Nat → Value → World → Prop) (J : Array Bool → (Nat → Value) → World → Prop)
    (hJ0 : J (Array.replicate ops.size false) u0 W0.drew)
    (hstep : ∀ L u w i, i < n → L.size = n + k → L.getD i true = false → J L u w → (∀ o, ops[i]? = some o → ∀ e ∈ o.after, Region.binds .any e = true → L.getD e.on false = true ∧ Pv e.on (u (dst e.on)) w) →
      wpOp P ops Q i (fun a' w' => ∃ v, a' = fr (upd u (dst i) v) ∧ (∀ j x, Pv j x w → Pv j x w') ∧ Pv i v w' ∧ J (L.setIfInBounds i true) (upd u (dst i) v) w') (fr u) w)
    (hend : ∀ L u w, L.size = n + k → (∀ i, i < n → L.getD i false = true) → J L u w → (∀ i, i < n → Pv i (u (dst i)) w) → wpTail P ops Q n k (fr u) w) :
    (Code.region id ops true).wp P Q (fr u0) W0 := by
  unfold tailB at hlast
  rw [Bool.and_eq_true, decide_eq_true_eq, List.all_eq_true] at hlast
  obtain ⟨hsz, hall⟩ := hlast
  have hw : ∀ t, t < k → waitB ops (n + t) = true := fun t ht => hall t (List.mem_range.2 ht)
  refine wp_region_any hm ?_
  have key : ∀ (fuel : Nat) (L : Array Bool) (u : Nat → Value) (w : World), L.size = n + k → L.toList.count false ≤ fuel → (∀ j, n ≤ j → j < n + k → L.getD j true = false) → J L u w →
      (∀ i, i < n → L.getD i false = true → Pv i (u (dst i)) w) → wpAny P .any ops Q fuel L (fr u) w := by
    intro fuel
    induction fuel with
    | zero =>
      intro L u w hs hc hn hj hp
      have h1 := cntF L.toList n (getD_get (hn n (Nat.le_refl _) (by omega)))
      omega
    | succ fuel ih =>
      intro L u w hs hc hn hj hp
      refine ⟨fun h0 => ?_, fun i hi => ?_⟩
      · obtain ⟨j, hj'⟩ := some_ready3 hback (hs.trans hsz.symm) (n + 1) n (by omega) (hn n (Nat.le_refl _) (by omega))
        rw [h0] at hj'
        cases hj'
      · rw [mem_ready] at hi
        obtain ⟨hL, o, ho, hdep⟩ := hi
        have hlt := getD_lt hL
        by_cases hin : n ≤ i
        · obtain ⟨t, rfl⟩ : ∃ t, i = n + t := ⟨i - n, by omega⟩
          have hdone := wait_done ho hdep (hw t (by omega))
          obtain rfl : t = 0 := by
            by_cases e : t = 0
            · exact e
            · have h1 := hdone n (by omega)
              have h2 := hn n (Nat.le_refl _) (by omega)
              rw [getD_both (by omega) h1] at h2
              cases h2
          rw [Nat.add_zero] at hdone hL ho
          have htail : wpAny P .any ops Q (fuel + 1) L (fr u) w := tail_any hback k n (fuel + 1) L (fr u) w hsz hs hw (fun j hj2 => getD_both (by omega) (hdone j hj2)) hn (by
            have : k ≤ L.toList.count false := count_tail hs hn
            omega) (hend L u w hs hdone hj (fun j hj2 => hp j hj2 (hdone j hj2)))
          exact htail.2 _ (by rw [mem_ready]; exact ⟨by rw [Nat.add_zero]; exact hL, o, by rw [Nat.add_zero]; exact ho, hdep⟩)
        · refine wpOp_mono ?_ (hstep L u w i (by omega) hs hL hj (fun o' ho' e he hbi => ?_))
          · rintro a' w' ⟨v, rfl, hk2, hp2, hj2⟩
            refine ih _ _ _ (by rw [Array.size_setIfInBounds]; exact hs) ?_ (fun j hj1 hj2 => by rw [getD_set_ne true (by omega)]; exact hn j hj1 hj2) hj2 ?_
            · have h1 := cntF L.toList i (getD_get hL)
              rw [Array.toList_setIfInBounds]
              omega
            · intro j hjn hjl
              by_cases hji : j = i
              · subst hji
                rw [upd_at]
                exact hp2
              · rw [getD_set_ne false (Ne.symm hji)] at hjl
                rw [upd_ne _ _ (fun h => hji (hdst j i hjn (by omega) h))]
                exact hk2 _ _ (hp j hjn hjl)
          · rw [ho] at ho'
            simp only [Option.some.injEq] at ho'
            subst ho'
            have h1 := hdep e he hbi
            unfold back3B at hback
            rw [List.all_eq_true] at hback
            have h2 := hback i (by rw [List.mem_range]; omega)
            rw [ho] at h2
            simp only [Array.all_eq_true_iff_forall_mem, Bool.or_eq_true, Bool.not_eq_true', decide_eq_true_eq] at h2
            have h3 : e.on < i := by
              rcases h2 e he with h4 | h4
              · rw [hbi] at h4; cases h4
              · exact h4
            exact ⟨h1, hp e.on (by omega) h1⟩
  have hrep : (Array.replicate ops.size false).toList.count false = ops.size := by simp
  exact key ops.size _ u0 _ (by rw [Array.size_replicate]; exact hsz) (by rw [hrep]; exact Nat.le_refl _) (fun j hj1 hj2 => by simp [hsz, hj2]) hJ0 (fun i hi h => by
    rw [hsz] at h
    simp [show i < n + k by omega] at h)
end Go.Proofs.Ytiehcmdhfeeomaa.G
