/- A region that draws its order, by one fact an operation: what each leaves in its slot holds on in every later world. -/
import Derived.Test.YtiehcmdhfeeomaaGBase
import Derived.RegionTactic
namespace Go.Proofs.Ytiehcmdhfeeomaa.G
open Go.ChangeShapes Go.WideShapes Go.ChangeAt Go.RowKit
set_option linter.unusedVariables false

/-- One slot written. -/
def upd (u : Nat → Value) (d : Nat) (v : Value) : Nat → Value := fun n => if n = d then v else u n
theorem upd_at (u : Nat → Value) (d : Nat) (v : Value) : upd u d v d = v := by simp [upd]
theorem upd_ne (u : Nat → Value) {d n : Nat} (v : Value) (h : n ≠ d) : upd u d v n = u n := by simp [upd, h]
/-- Every edge goes back. -/
def backB (ops : Array Oper) : Bool := (List.range ops.size).all fun i => match ops[i]? with
  | some o => o.after.all fun e => decide (e.on < i)
  | none => true
/-- Operation n is the last, and waits for all. -/
def lastB (ops : Array Oper) (n : Nat) : Bool := decide (ops.size = n + 1) && (List.range n).all fun i => match ops[n]? with
  | some o => o.after.toList.any fun e => decide (e.on = i) && Region.binds .any e
  | none => false
theorem cntF : ∀ (l : List Bool) (i : Nat), l[i]? = some false → (l.set i true).count false + 1 = l.count false
  | [], i, h => by simp at h
  | b :: l, 0, h => by
    simp only [List.getElem?_cons_zero, Option.some.injEq] at h
    subst h
    simp
  | b :: l, i + 1, h => by
    have := cntF l i (by simpa using h)
    simp only [List.set_cons_succ, List.count_cons]
    omega
theorem getD_lt {L : Array Bool} {i : Nat} (h : L.getD i true = false) : i < L.size := by
  rcases Nat.lt_or_ge i L.size with h' | h'
  · exact h'
  · simp [Array.getElem?_eq_none h'] at h
theorem getD_get {L : Array Bool} {i : Nat} (h : L.getD i true = false) : L.toList[i]? = some false := by
  have hi := getD_lt h
  simp only [Array.getD_eq_getD_getElem?, Array.getElem?_eq_getElem hi, Option.getD_some] at h
  simp [hi, h]
theorem getD_other {L : Array Bool} {i : Nat} (hi : i < L.size) (h : ¬ L.getD i false = true) : L.getD i true = false := by
  simp only [Array.getD_eq_getD_getElem?, Array.getElem?_eq_getElem hi, Option.getD_some] at h ⊢
  simpa using h
theorem getD_both {L : Array Bool} {i : Nat} (hi : i < L.size) (h : L.getD i false = true) : L.getD i true = true := by
  simp only [Array.getD_eq_getD_getElem?, Array.getElem?_eq_getElem hi, Option.getD_some] at h ⊢
  exact h
theorem some_ready {ops : Array Oper} (hback : backB ops = true) {L : Array Bool} (hs : L.size = ops.size) : ∀ (k i : Nat), i < k → L.getD i true = false → ∃ j, j ∈ Region.ready .any ops L
  | 0, i, hk, _ => by omega
  | k + 1, i, hk, hi => by
    have hlt := getD_lt hi
    have ho : ops[i]? = some (ops[i]'(by omega)) := Array.getElem?_eq_getElem (by omega)
    by_cases hr : i ∈ Region.ready .any ops L
    · exact ⟨i, hr⟩
    · rw [mem_ready] at hr
      have : ¬ ∀ e ∈ (ops[i]'(by omega)).after, Region.binds .any e = true → L.getD e.on false = true := fun hh => hr ⟨hi, _, ho, hh⟩
      simp only [Classical.not_forall] at this
      obtain ⟨e, he, hb, hne⟩ := this
      have hbk := hback
      unfold backB at hbk
      rw [List.all_eq_true] at hbk
      have h2 := hbk i (by rw [List.mem_range]; omega)
      rw [ho] at h2
      simp only [Array.all_eq_true_iff_forall_mem, decide_eq_true_eq] at h2
      have h3 := h2 e he
      exact some_ready hback hs k e.on (by omega) (getD_other (by omega) hne)

theorem region_rel {P : Program} {ops : Array Oper} {Q : Exit → Act → World → Prop} {id : Nat} {W0 : World} {n : Nat} (hm : P.follows .mixedOrders = true) (hback : backB ops = true) (hlast : lastB ops n = true)
    (fr : (Nat → Value) → Act) (u0 : Nat → Value) (dst : Nat → Nat) (hdst : ∀ i j, i < n → j < n → dst i = dst j → i = j)
    (Pv : Nat → Value → World → Prop) (J : (Nat → Value) → World → Prop)
    (hP : ∀ i v w w', Pv i v w → Below w.heap.size w w' → Pv i v w') (hJ0 : J u0 W0.drew)
    (hstep : ∀ u w i, i < n → Below W0.heap.size W0 w → J u w → (∀ o, ops[i]? = some o → ∀ e ∈ o.after, Region.binds .any e = true → Pv e.on (u (dst e.on)) w) →
      wpOp P ops Q i (fun a' w' => ∃ v, a' = fr (upd u (dst i) v) ∧ Below w.heap.size w w' ∧ Pv i v w' ∧ J (upd u (dst i) v) w') (fr u) w)
    (hend : ∀ u w, Below W0.heap.size W0 w → J u w → (∀ i, i < n → Pv i (u (dst i)) w) → wpOp P ops Q n (fun a' w' => Q .normal a' w') (fr u) w) :
    (Code.region id ops true).wp P Q (fr u0) W0 := by
  unfold lastB at hlast
  rw [Bool.and_eq_true, decide_eq_true_eq] at hlast
  obtain ⟨hsz, hall⟩ := hlast
  refine wp_region_any hm ?_
  have key : ∀ (fuel : Nat) (L : Array Bool) (u : Nat → Value) (w : World), L.size = n + 1 → L.toList.count false ≤ fuel → L.getD n true = false → Below W0.heap.size W0 w → J u w →
      (∀ i, i < n → L.getD i false = true → Pv i (u (dst i)) w) → wpAny P .any ops Q fuel L (fr u) w := by
    intro fuel
    induction fuel with
    | zero =>
      intro L u w hs hc hn hb hj hp
      have h1 := cntF L.toList n (getD_get hn)
      omega
    | succ fuel ih =>
      intro L u w hs hc hn hb hj hp
      refine ⟨fun h0 => ?_, fun i hi => ?_⟩
      · obtain ⟨j, hj'⟩ := some_ready hback (hs.trans hsz.symm) (n + 1) n (by omega) hn
        rw [h0] at hj'
        cases hj'
      · rw [mem_ready] at hi
        obtain ⟨hL, o, ho, hdep⟩ := hi
        have hlt := getD_lt hL
        by_cases hin : i = n
        · subst hin
          have hdone : ∀ j, j < i → L.getD j false = true := by
            intro j hj2
            rw [List.all_eq_true] at hall
            have h2 := hall j (by rw [List.mem_range]; exact hj2)
            rw [ho] at h2
            simp only [List.any_eq_true, Bool.and_eq_true, decide_eq_true_eq] at h2
            obtain ⟨e, he, he1, he2⟩ := h2
            have := hdep e (Array.mem_toList_iff.1 he) he2
            rwa [he1] at this
          refine wpOp_mono (fun a' w' hq => wpAny_done ?_ hq fuel) (hend u w hb hj (fun j hj2 => hp j hj2 (hdone j hj2)))
          rw [List.eq_nil_iff_forall_not_mem]
          intro j hj2
          rw [mem_ready] at hj2
          obtain ⟨h1, -⟩ := hj2
          have hjl := getD_lt h1
          rw [Array.size_setIfInBounds] at hjl
          by_cases hji : j = i
          · subst hji
            simp [hlt] at h1
          · rw [getD_set_ne true (Ne.symm hji), getD_both (by omega) (hdone j (by omega))] at h1
            cases h1
        · refine wpOp_mono ?_ (hstep u w i (by omega) hb hj (fun o' ho' e he hbi => ?_))
          · rintro a' w' ⟨v, rfl, hb2, hp2, hj2⟩
            refine ih _ _ _ (by rw [Array.size_setIfInBounds]; exact hs) ?_ (by rw [getD_set_ne true hin]; exact hn) (hb.trans (hb2.mono hb.size)) hj2 ?_
            · have h1 := cntF L.toList i (getD_get hL)
              rw [Array.toList_setIfInBounds]
              omega
            · intro j hjn hjl
              by_cases hji : j = i
              · subst hji
                rw [upd_at]
                exact hp2
              · rw [getD_set_ne false (Ne.symm hji)] at hjl
                rw [upd_ne _ _ (fun h => hji (hdst j i hjn (by omega) h))]
                exact hP _ _ _ _ (hp j hjn hjl) hb2
          · rw [ho] at ho'
            simp only [Option.some.injEq] at ho'
            subst ho'
            have h1 := hdep e he hbi
            unfold backB at hback
            rw [List.all_eq_true] at hback
            have h2 := hback i (by rw [List.mem_range]; omega)
            rw [ho] at h2
            simp only [Array.all_eq_true_iff_forall_mem, decide_eq_true_eq] at h2
            have h3 := h2 e he
            exact hp e.on (by omega) h1
  have hrep : (Array.replicate ops.size false).toList.count false = ops.size := by simp
  exact key ops.size _ u0 _ (by rw [Array.size_replicate]; exact hsz) (by rw [hrep]; exact Nat.le_refl _) (by simp [hsz]) ((Below.refl _ _).drew) hJ0 (fun i hi h => by
    rw [hsz] at h
    simp [show i < n + 1 by omega] at h)
end Go.Proofs.Ytiehcmdhfeeomaa.G
