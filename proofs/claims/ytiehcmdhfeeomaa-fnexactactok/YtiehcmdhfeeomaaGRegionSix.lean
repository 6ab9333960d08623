/- A region that draws its order, all its operations in whatever order their edges allow, none forced: each says by itself what stays. -/
import Derived.Test.YtiehcmdhfeeomaaGRegionFive
namespace Go.Proofs.Ytiehcmdhfeeomaa.G
open Go.ChangeShapes Go.WideShapes Go.ChangeAt Go.RowKit
set_option linter.unusedVariables false

theorem region_rel6 {P : Program} {ops : Array Oper} {Q : Exit → Act → World → Prop} {id : Nat} {W0 : World} {n : Nat} (hm : P.follows .mixedOrders = true) (hback : back3B ops = true) (hsz : ops.size = n)
    (fr : (Nat → Value) → Act) (u0 : Nat → Value) (dst : Nat → Nat) (hdst : ∀ i j, i < n → j < n → dst i = dst j → i = j)
    (Pv : Nat → Value → World → Prop) (J : Array Bool → (Nat → Value) → World → Prop)
    (hJ0 : J (Array.replicate ops.size false) u0 W0.drew)
    (hstep : ∀ L u w i, i < n → L.size = n → L.getD i true = false → J L u w → (∀ o, ops[i]? = some o → ∀ e ∈ o.after, Region.binds .any e = true → L.getD e.on false = true ∧ Pv e.on (u (dst e.on)) w) →
      wpOp P ops Q i (fun a' w' => ∃ v, a' = fr (upd u (dst i) v) ∧ (∀ j x, Pv j x w → Pv j x w') ∧ Pv i v w' ∧ J (L.setIfInBounds i true) (upd u (dst i) v) w') (fr u) w)
    (hend : ∀ L u w, L.size = n → (∀ i, i < n → L.getD i false = true) → J L u w → (∀ i, i < n → Pv i (u (dst i)) w) → Q .normal (fr u) w) :
    (Code.region id ops true).wp P Q (fr u0) W0 := by
  refine wp_region_any hm ?_
  have key : ∀ (fuel : Nat) (L : Array Bool) (u : Nat → Value) (w : World), L.size = n → L.toList.count false ≤ fuel → J L u w →
      (∀ i, i < n → L.getD i false = true → Pv i (u (dst i)) w) → wpAny P .any ops Q fuel L (fr u) w := by
    intro fuel
    induction fuel with
    | zero =>
      intro L u w hs hc hj hp
      have hdone : ∀ i, i < n → L.getD i false = true := fun i hi => by
        by_cases h : L.getD i false = true
        · exact h
        · have h1 := cntF L.toList i (getD_get (getD_other (by omega) h))
          omega
      refine wpAny_done ?_ (hend L u w hs hdone hj (fun j hj2 => hp j hj2 (hdone j hj2))) 0
      rw [List.eq_nil_iff_forall_not_mem]
      intro g hg
      rw [mem_ready] at hg
      obtain ⟨g1, -⟩ := hg
      have hgl := getD_lt g1
      rw [getD_both (by omega) (hdone g (by omega))] at g1
      cases g1
    | succ fuel ih =>
      intro L u w hs hc hj hp
      by_cases hall : ∀ i, i < n → L.getD i false = true
      · refine wpAny_done ?_ (hend L u w hs hall hj (fun j hj2 => hp j hj2 (hall j hj2))) _
        rw [List.eq_nil_iff_forall_not_mem]
        intro g hg
        rw [mem_ready] at hg
        obtain ⟨g1, -⟩ := hg
        have hgl := getD_lt g1
        rw [getD_both (by omega) (hall g (by omega))] at g1
        cases g1
      refine ⟨fun h0 => ?_, fun i hi => ?_⟩
      · simp only [Classical.not_forall] at hall
        obtain ⟨i, hi, hne⟩ := hall
        obtain ⟨j, hj'⟩ := some_ready3 hback (hs.trans hsz.symm) (i + 1) i (by omega) (getD_other (by omega) hne)
        rw [h0] at hj'
        cases hj'
      · rw [mem_ready] at hi
        obtain ⟨hL, o, ho, hdep⟩ := hi
        have hlt := getD_lt hL
        refine wpOp_mono ?_ (hstep L u w i (by omega) hs hL hj (fun o' ho' e he hbi => ?_))
        · rintro a' w' ⟨v, rfl, hk2, hp2, hj2⟩
          refine ih _ _ _ (by rw [Array.size_setIfInBounds]; exact hs) ?_ hj2 ?_
          · have h1 := cntF L.toList i (getD_get hL)
            rw [Array.toList_setIfInBounds]
            omega
          · intro j hjn hjl
            by_cases hji : j = i
            · subst hji
              rw [upd_at]
              exact hp2
            · rw [getD_set_ne false (Ne.symm hji)] at hjl
              rw [upd_ne _ _ (fun h => hji (hdst j i hjn (by omega) h))]
              exact hk2 _ _ (hp j hjn hjl)
        · rw [ho] at ho'
          simp only [Option.some.injEq] at ho'
          subst ho'
          have h1 := hdep e he hbi
          unfold back3B at hback
          rw [List.all_eq_true] at hback
          have h2 := hback i (by rw [List.mem_range]; omega)
          rw [ho] at h2
          simp only [Array.all_eq_true_iff_forall_mem, Bool.or_eq_true, Bool.not_eq_true', decide_eq_true_eq] at h2
          have h3 : e.on < i := by
            rcases h2 e he with h4 | h4
            · rw [hbi] at h4; cases h4
            · exact h4
          exact ⟨h1, hp e.on (by omega) h1⟩
  have hrep : (Array.replicate ops.size false).toList.count false = ops.size := by simp
  exact key ops.size _ u0 _ (by rw [Array.size_replicate]; exact hsz) (by rw [hrep]; exact Nat.le_refl _) hJ0 (fun i hi h => by
    rw [hsz] at h
    simp [hi] at h)
end Go.Proofs.Ytiehcmdhfeeomaa.G
