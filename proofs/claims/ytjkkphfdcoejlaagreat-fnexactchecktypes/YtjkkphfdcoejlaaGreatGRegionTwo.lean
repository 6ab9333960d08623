/- A region that draws its order and whose last two operations wait for all others: as region_rel, the last two by hand. -/
import Derived.Test.YtjkkphfdcoejlaaGreatGRegion
namespace Go.Proofs.YtjkkphfdcoejlaaGreat.G
open Go.ChangeShapes Go.WideShapes Go.ChangeAt Go.RowKit
set_option linter.unusedVariables false

/-- Operations n and n + 1 are the last, each waits for all ahead. -/
def last2B (ops : Array Oper) (n : Nat) : Bool := decide (ops.size = n + 2) && ((List.range n).all fun i => match ops[n]? with
  | some o => o.after.toList.any fun e => decide (e.on = i) && Region.binds .any e
  | none => false) && (List.range (n + 1)).all fun i => match ops[n + 1]? with
  | some o => o.after.toList.any fun e => decide (e.on = i) && Region.binds .any e
  | none => false
theorem region_rel2 {P : Program} {ops : Array Oper} {Q : Exit → Act → World → Prop} {id : Nat} {W0 : World} {n : Nat} (hm : P.follows .mixedOrders = true) (hback : backB ops = true) (hlast : last2B ops n = true)
    (fr : (Nat → Value) → Act) (u0 : Nat → Value) (dst : Nat → Nat) (hdst : ∀ i j, i < n → j < n → dst i = dst j → i = j)
    (Pv : Nat → Value → World → Prop) (J : (Nat → Value) → World → Prop)
    (hP : ∀ i v w w', Pv i v w → Below w.heap.size w w' → Pv i v w') (hJ0 : J u0 W0.drew)
    (hstep : ∀ u w i, i < n → Below W0.heap.size W0 w → J u w → (∀ o, ops[i]? = some o → ∀ e ∈ o.after, Region.binds .any e = true → Pv e.on (u (dst e.on)) w) →
      wpOp P ops Q i (fun a' w' => ∃ v, a' = fr (upd u (dst i) v) ∧ Below w.heap.size w w' ∧ Pv i v w' ∧ J (upd u (dst i) v) w') (fr u) w)
    (hend : ∀ u w, Below W0.heap.size W0 w → J u w → (∀ i, i < n → Pv i (u (dst i)) w) → wpOp P ops Q n (fun a1 w1 => wpOp P ops Q (n + 1) (fun a' w' => Q .normal a' w') a1 w1) (fr u) w) :
    (Code.region id ops true).wp P Q (fr u0) W0 := by
  unfold last2B at hlast
  rw [Bool.and_eq_true, Bool.and_eq_true, decide_eq_true_eq] at hlast
  obtain ⟨⟨hsz, hall⟩, hall2⟩ := hlast
  refine wp_region_any hm ?_
  have wait : ∀ {m : Nat} {L : Array Bool} {o : Oper}, ops[m]? = some o → (∀ e ∈ o.after, Region.binds .any e = true → L.getD e.on false = true) → ∀ {k : Nat}, ((List.range k).all fun i => match ops[m]? with
      | some o => o.after.toList.any fun e => decide (e.on = i) && Region.binds .any e
      | none => false) = true → ∀ j, j < k → L.getD j false = true := by
    intro m L o ho hdep k hk j hj
    rw [List.all_eq_true] at hk
    have h2 := hk j (by rw [List.mem_range]; exact hj)
    rw [ho] at h2
    simp only [List.any_eq_true, Bool.and_eq_true, decide_eq_true_eq] at h2
    obtain ⟨e, he, he1, he2⟩ := h2
    have := hdep e (Array.mem_toList_iff.1 he) he2
    rwa [he1] at this
  have key : ∀ (fuel : Nat) (L : Array Bool) (u : Nat → Value) (w : World), L.size = n + 2 → L.toList.count false ≤ fuel → L.getD n true = false → L.getD (n + 1) true = false → Below W0.heap.size W0 w → J u w →
      (∀ i, i < n → L.getD i false = true → Pv i (u (dst i)) w) → wpAny P .any ops Q fuel L (fr u) w := by
    intro fuel
    induction fuel with
    | zero =>
      intro L u w hs hc hn hn1 hb hj hp
      have h1 := cntF L.toList n (getD_get hn)
      omega
    | succ fuel ih =>
      intro L u w hs hc hn hn1 hb hj hp
      refine ⟨fun h0 => ?_, fun i hi => ?_⟩
      · obtain ⟨j, hj'⟩ := some_ready hback (hs.trans hsz.symm) (n + 2) n (by omega) hn
        rw [h0] at hj'
        cases hj'
      · rw [mem_ready] at hi
        obtain ⟨hL, o, ho, hdep⟩ := hi
        have hlt := getD_lt hL
        by_cases hin : i = n
        · subst hin
          have hdone := wait ho hdep hall
          refine wpOp_mono (fun a1 w1 hq => ?_) (hend u w hb hj (fun j hj2 => hp j hj2 (hdone j hj2)))
          have hn2 : (L.setIfInBounds i true).getD (i + 1) true = false := by rw [getD_set_ne true (by omega)]; exact hn1
          have hs2 : (L.setIfInBounds i true).size = i + 2 := by rw [Array.size_setIfInBounds]; exact hs
          have hc1 := cntF L.toList i (getD_get hL)
          have hc2 := cntF (L.setIfInBounds i true).toList (i + 1) (getD_get hn2)
          rw [Array.toList_setIfInBounds] at hc2
          cases fuel with
          | zero => omega
          | succ f =>
            refine ⟨fun h0 => ?_, fun j hj2 => ?_⟩
            · obtain ⟨j, hj'⟩ := some_ready hback (hs2.trans hsz.symm) (i + 2) (i + 1) (by omega) hn2
              rw [h0] at hj'
              cases hj'
            · rw [mem_ready] at hj2
              obtain ⟨h1, -⟩ := hj2
              have hjl := getD_lt h1
              rw [hs2] at hjl
              have hji : j = i + 1 := by
                by_cases e1 : j = i
                · subst e1; simp [hlt] at h1
                · by_cases e2 : j < i
                  · rw [getD_set_ne true (Ne.symm e1), getD_both (by omega) (hdone j e2)] at h1
                    cases h1
                  · omega
              subst hji
              refine wpOp_mono (fun a' w' hq' => wpAny_done ?_ hq' f) hq
              rw [List.eq_nil_iff_forall_not_mem]
              intro g hg
              rw [mem_ready] at hg
              obtain ⟨g1, -⟩ := hg
              have hgl := getD_lt g1
              rw [Array.size_setIfInBounds, hs2] at hgl
              by_cases e0 : g = i + 1
              · subst e0; simp [hs] at g1
              · rw [getD_set_ne true (Ne.symm e0)] at g1
                by_cases e1 : g = i
                · subst e1; simp [hlt] at g1
                · rw [getD_set_ne true (Ne.symm e1), getD_both (by omega) (hdone g (by omega))] at g1
                  cases g1
        · by_cases hin1 : i = n + 1
          · subst hin1
            have := wait ho hdep hall2 n (by omega)
            rw [getD_both (by omega) this] at hn
            cases hn
          · refine wpOp_mono ?_ (hstep u w i (by omega) hb hj (fun o' ho' e he hbi => ?_))
            · rintro a' w' ⟨v, rfl, hb2, hp2, hj2⟩
              refine ih _ _ _ (by rw [Array.size_setIfInBounds]; exact hs) ?_ (by rw [getD_set_ne true hin]; exact hn) (by rw [getD_set_ne true hin1]; exact hn1) (hb.trans (hb2.mono hb.size)) hj2 ?_
              · have h1 := cntF L.toList i (getD_get hL)
                rw [Array.toList_setIfInBounds]
                omega
              · intro j hjn hjl
                by_cases hji : j = i
                · subst hji
                  rw [upd_at]
                  exact hp2
                · rw [getD_set_ne false (Ne.symm hji)] at hjl
                  rw [upd_ne _ _ (fun h => hji (hdst j i hjn (by omega) h))]
                  exact hP _ _ _ _ (hp j hjn hjl) hb2
            · rw [ho] at ho'
              simp only [Option.some.injEq] at ho'
              subst ho'
              have h1 := hdep e he hbi
              unfold backB at hback
              rw [List.all_eq_true] at hback
              have h2 := hback i (by rw [List.mem_range]; omega)
              rw [ho] at h2
              simp only [Array.all_eq_true_iff_forall_mem, decide_eq_true_eq] at h2
              have h3 := h2 e he
              exact hp e.on (by omega) h1
  have hrep : (Array.replicate ops.size false).toList.count false = ops.size := by simp
  exact key ops.size _ u0 _ (by rw [Array.size_replicate]; exact hsz) (by rw [hrep]; exact Nat.le_refl _) (by simp [hsz]) (by simp [hsz]) ((Below.refl _ _).drew) hJ0 (fun i hi h => by
    rw [hsz] at h
    simp [show i < n + 2 by omega] at h)
end Go.Proofs.YtjkkphfdcoejlaaGreat.G
