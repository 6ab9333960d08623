/- A region that draws its order and whose last two operations wait for all others: as region_rel, the last two by hand. -/
import Derived.Test.YtkjndghkimnjeaaGreatTyCodes
import Derived.Test.YtkjndghkimnjeaaGreatTyArgsSpec
import Derived.Test.YtkjndghkimnjeaaGreatSchSpec
import Derived.Test.YtkjndghkimnjeaaGreatGRegionFive
namespace Go.Proofs.YtkjndghkimnjeaaGreat
open Go.ChangeShapes Go.WideShapes Go.ChangeAt Go.RowKit
set_option linter.unusedVariables false

theorem ba_ext {s t : ByteArray} (h : s.toList = t.toList) : s = t := by
  rw [ByteArray.toList_eq, ByteArray.toList_eq] at h
  obtain ⟨⟨a⟩⟩ := s
  obtain ⟨⟨b⟩⟩ := t
  simp only at h
  rw [h]
/-- One selection with what is in it. -/
def oneC (S : List G.Td) (D : List De) (t : G.Td) (h : Hd) (sub : Sels) : Int := if selC D t h sub.isNil = 0 then setC S D (inT S t h) sub else selC D t h sub.isNil
theorem setC_one (S : List G.Td) (D : List De) (t : G.Td) (h : Hd) (sub rest : Sels) : setC S D t (.cons h sub rest) = if oneC S D t h sub = 0 then setC S D t rest else oneC S D t h sub := by
  simp only [setC, oneC]
  by_cases h1 : selC D t h sub.isNil = 0
  · simp only [h1, if_true]
  · simp only [h1, if_false]
theorem setC_nil (S : List G.Td) (D : List De) (t : G.Td) {sub : Sels} (h : sub.isNil = true) : setC S D t sub = 0 := by
  cases sub with
  | nil => rfl
  | cons _ _ _ => cases h
theorem one_no {S : List G.Td} {D : List De} {t : G.Td} {h : Hd} {sub : Sels} {y : Int} (hy : selC D t h sub.isNil = y) (h0 : y ≠ 0) : y = oneC S D t h sub := by
  unfold oneC; rw [hy, if_neg h0]
theorem one_yes {S : List G.Td} {D : List De} {t : G.Td} {h : Hd} {sub : Sels} (hy : selC D t h sub.isNil = 0) : oneC S D t h sub = setC S D (inT S t h) sub := by
  unfold oneC; rw [hy, if_pos rfl]
theorem sel_dirs {D : List De} {t : G.Td} {h : Hd} {z : Bool} (hd : h.dirs.all dirB = false) : selC D t h z = 10 := by unfold selC; rw [if_pos hd]
theorem sel_spread {D : List De} {t : G.Td} {h : Hd} {z : Bool} (hd : h.dirs.all dirB = true) (hk : h.k = 2) : selC D t h z = if frOK D h.nm t.nm = true then 0 else 12 := by
  unfold selC; rw [if_neg (by rw [hd]; simp), if_pos (by rw [hk]; rfl)]
theorem sel_inline {D : List De} {t : G.Td} {h : Hd} {z : Bool} (hd : h.dirs.all dirB = true) (hk : h.k = 3) : selC D t h z = if inlOK h.nm t.nm = true then 0 else 12 := by
  unfold selC; rw [if_neg (by rw [hd]; simp), if_neg (by rw [hk]; decide), if_pos (by rw [hk]; rfl)]
theorem sel_none {D : List De} {t : G.Td} {h : Hd} {z : Bool} (hd : h.dirs.all dirB = true) (hk : h.k = 1) (hf : fldOf t h.nm = none) : selC D t h z = 9 := by
  unfold selC; rw [if_neg (by rw [hd]; simp), if_neg (by rw [hk]; decide), if_neg (by rw [hk]; decide), hf]
theorem sel_fld {D : List De} {t : G.Td} {h : Hd} {z : Bool} {f : G.Fd} (hd : h.dirs.all dirB = true) (hk : h.k = 1) (hf : fldOf t h.nm = some f) : selC D t h z = fldC f h.args z := by
  unfold selC; rw [if_neg (by rw [hd]; simp), if_neg (by rw [hk]; decide), if_neg (by rw [hk]; decide), hf]
theorem inT_else {S : List G.Td} {t : G.Td} {h : Hd} (hk : h.k = 3) : inT S t h = t := by unfold inT; rw [if_neg (by rw [hk]; decide)]
theorem inT_fld {S : List G.Td} {t : G.Td} {h : Hd} {f : G.Fd} (hk : h.k = 1) (hf : fldOf t h.nm = some f) : inT S t h = (tdIn S f.ty).getD td0 := by unfold inT; rw [if_pos (by rw [hk]; rfl), hf]
theorem fld_tn {t : G.Td} {n : ByteArray} (h : isTn n = true) : fldOf t n = some fdTn := by unfold fldOf; rw [if_pos h]
theorem fldC_tn (args : List Ar) (z : Bool) : fldC fdTn args z = if args.isEmpty = false then 10 else if z = false then 11 else 0 := by
  have hI : G.isIn fdTn.ty = true := by unfold G.isIn fdTn; simp only; rw [G.in_list]; rfl
  cases args with
  | nil => unfold fldC; rw [hI]; cases z <;> rfl
  | cons x l =>
    unfold fldC
    have : argsN fdTn [] (x :: l) = false := by simp [argsN, argB, fdTn]
    rw [if_pos this]; rfl
theorem fldC_args {f : G.Fd} {args : List Ar} {z : Bool} : fldC f args z = if argC f args = 0 then (if (G.isIn f.ty != z) = true then 11 else 0) else argC f args := by
  unfold fldC argC
  rcases Bool.eq_false_or_eq_true (argsN f [] args) with h4 | h4 <;> rcases Bool.eq_false_or_eq_true (needsB f args) with h5 | h5 <;> simp [h4, h5]
/-- The first of a name is what is found. -/
theorem fi_find {l : List G.Fd} {n : ByteArray} {j : Nat} (hj : j < (l.map G.Fd.nm).length) (he : ((l.map G.Fd.nm)[j].toList == n.toList) = true) (hs : G.seen ((l.map G.Fd.nm).take j) n = false) : ∃ h : j < l.length, l.find? (fun f => f.nm.toList == n.toList) = some l[j] := by
  have hj' : j < l.length := by simpa using hj
  refine ⟨hj', find_here hj' ?_ (by simpa using he)⟩
  rw [List.find?_eq_none]
  intro f hf hc
  unfold G.seen at hs
  rw [List.any_eq_false] at hs
  obtain ⟨i, hi, rfl⟩ := List.mem_take_iff_getElem.1 hf
  refine hs l[i].nm ?_ hc
  rw [List.mem_take_iff_getElem]
  exact ⟨i, by simp; omega, by simp⟩
theorem fi_none {l : List G.Fd} {n : ByteArray} (hs : G.seen (l.map G.Fd.nm) n = false) : l.find? (fun f => f.nm.toList == n.toList) = none := by
  rw [List.find?_eq_none]
  intro f hf hc
  unfold G.seen at hs
  rw [List.any_eq_false] at hs
  exact hs f.nm (List.mem_map.2 ⟨f, hf, rfl⟩) hc
theorem fi_td {S : List G.Td} (hO : G.OkN (S.map G.Td.nm)) {t : G.Td} (ht : tdIn S t.nm = some t) {r : Int} (h : G.Fi (S.map G.Td.nm) t.nm r) : ∃ j, ∃ hj : j < S.length, r = j ∧ S[j] = t := by
  rcases h with ⟨rfl, hs⟩ | ⟨j, hj, rfl, he, hs⟩
  · exfalso
    have hm := List.mem_of_find?_eq_some ht
    unfold G.seen at hs
    rw [List.any_eq_false] at hs
    exact hs t.nm (List.mem_map.2 ⟨t, hm, rfl⟩) (by simp)
  · have hj' : j < S.length := by simpa using hj
    refine ⟨j, hj', rfl, ?_⟩
    have := td_find hO (List.getElem_mem hj') (n := t.nm) (by simpa using he)
    rw [ht] at this
    simpa using this.symm
theorem td_seen {S : List G.Td} {n : ByteArray} (h : G.seen (S.map G.Td.nm) n = true) : ∃ t, tdIn S n = some t ∧ t.nm = n := by
  unfold G.seen at h
  rw [List.any_eq_true] at h
  obtain ⟨s, hs, he⟩ := h
  obtain ⟨x, hx, rfl⟩ := List.mem_map.1 hs
  cases hf : tdIn S n with
  | none =>
    unfold tdIn at hf
    rw [List.find?_eq_none] at hf
    exact absurd he (hf x hx)
  | some t =>
    have h9 : (fun (t : G.Td) => t.nm.toList == n.toList) t = true := List.find?_some (p := fun (t : G.Td) => t.nm.toList == n.toList) hf
    exact ⟨t, rfl, ba_ext (beq_iff_eq.1 h9)⟩
theorem sub_nil {h : Hd} {z : Bool} (hh : hdB h z = true) (hk : h.k = 2) : z = true := by
  unfold hdB at hh
  rw [Bool.and_eq_true] at hh
  have := hh.2
  unfold kindB at this
  rw [if_neg (by rw [hk]; decide), if_pos hk] at this
  simp only [Bool.and_eq_true] at this
  exact this.2
theorem hd_vals {h : Hd} {z : Bool} (hh : hdB h z = true) : ∀ x ∈ h.args, valB x.v = true := by
  unfold hdB at hh
  rw [Bool.and_eq_true, Bool.and_eq_true] at hh
  have := hh.1.1
  unfold argsB at this
  rw [Bool.and_eq_true] at this
  intro x hx
  have := (List.all_eq_true.1 this.2) x hx
  unfold arB at this
  rw [Bool.and_eq_true] at this
  exact this.2
end Go.Proofs.YtkjndghkimnjeaaGreat
namespace Go.Proofs.YtkjndghkimnjeaaGreat.G
open Go.ChangeShapes Go.WideShapes Go.ChangeAt Go.RowKit
set_option linter.unusedVariables false

/-- Operations n and n + 1 are the last, each waits for all ahead. -/
def last2B (ops : Array Oper) (n : Nat) : Bool := decide (ops.size = n + 2) && ((List.range n).all fun i => match ops[n]? with
  | some o => o.after.toList.any fun e => decide (e.on = i) && Region.binds .any e
  | none => false) && (List.range (n + 1)).all fun i => match ops[n + 1]? with
  | some o => o.after.toList.any fun e => decide (e.on = i) && Region.binds .any e
  | none => false
theorem region_rel2 {P : Program} {ops : Array Oper} {Q : Exit → Act → World → Prop} {id : Nat} {W0 : World} {n : Nat} (hm : P.follows .mixedOrders = true) (hback : backB ops = true) (hlast : last2B ops n = true)
    (fr : (Nat → Value) → Act) (u0 : Nat → Value) (dst : Nat → Nat) (hdst : ∀ i j, i < n → j < n → dst i = dst j → i = j)
    (Pv : Nat → Value → World → Prop) (J : (Nat → Value) → World → Prop)
    (hP : ∀ i v w w', Pv i v w → Below w.heap.size w w' → Pv i v w') (hJ0 : J u0 W0.drew)
    (hstep : ∀ u w i, i < n → Below W0.heap.size W0 w → J u w → (∀ o, ops[i]? = some o → ∀ e ∈ o.after, Region.binds .any e = true → Pv e.on (u (dst e.on)) w) →
      wpOp P ops Q i (fun a' w' => ∃ v, a' = fr (upd u (dst i) v) ∧ Below w.heap.size w w' ∧ Pv i v w' ∧ J (upd u (dst i) v) w') (fr u) w)
    (hend : ∀ u w, Below W0.heap.size W0 w → J u w → (∀ i, i < n → Pv i (u (dst i)) w) → wpOp P ops Q n (fun a1 w1 => wpOp P ops Q (n + 1) (fun a' w' => Q .normal a' w') a1 w1) (fr u) w) :
    (Code.region id ops true).wp P Q (fr u0) W0 := by
  unfold last2B at hlast
  rw [Bool.and_eq_true, Bool.and_eq_true, decide_eq_true_eq] at hlast
  obtain ⟨⟨hsz, hall⟩, hall2⟩ := hlast
  refine wp_region_any hm ?_
  have wait : ∀ {m : Nat} {L : Array Bool} {o : Oper}, ops[m]? = some o → (∀ e ∈ o.after, Region.binds .any e = true → L.getD e.on false = true) → ∀ {k : Nat}, ((List.range k).all fun i => match ops[m]? with
      | some o => o.after.toList.any fun e => decide (e.on = i) && Region.binds .any e
      | none => false) = true → ∀ j, j < k → L.getD j false = true := by
    intro m L o ho hdep k hk j hj
    rw [List.all_eq_true] at hk
    have h2 := hk j (by rw [List.mem_range]; exact hj)
    rw [ho] at h2
    simp only [List.any_eq_true, Bool.and_eq_true, decide_eq_true_eq] at h2
    obtain ⟨e, he, he1, he2⟩ := h2
    have := hdep e (Array.mem_toList_iff.1 he) he2
    rwa [he1] at this
  have key : ∀ (fuel : Nat) (L : Array Bool) (u : Nat → Value) (w : World), L.size = n + 2 → L.toList.count false ≤ fuel → L.getD n true = false → L.getD (n + 1) true = false → Below W0.heap.size W0 w → J u w →
      (∀ i, i < n → L.getD i false = true → Pv i (u (dst i)) w) → wpAny P .any ops Q fuel L (fr u) w := by
    intro fuel
    induction fuel with
    | zero =>
      intro L u w hs hc hn hn1 hb hj hp
      have h1 := cntF L.toList n (getD_get hn)
      omega
    | succ fuel ih =>
      intro L u w hs hc hn hn1 hb hj hp
      refine ⟨fun h0 => ?_, fun i hi => ?_⟩
      · obtain ⟨j, hj'⟩ := some_ready hback (hs.trans hsz.symm) (n + 2) n (by omega) hn
        rw [h0] at hj'
        cases hj'
      · rw [mem_ready] at hi
        obtain ⟨hL, o, ho, hdep⟩ := hi
        have hlt := getD_lt hL
        by_cases hin : i = n
        · subst hin
          have hdone := wait ho hdep hall
          refine wpOp_mono (fun a1 w1 hq => ?_) (hend u w hb hj (fun j hj2 => hp j hj2 (hdone j hj2)))
          have hn2 : (L.setIfInBounds i true).getD (i + 1) true = false := by rw [getD_set_ne true (by omega)]; exact hn1
          have hs2 : (L.setIfInBounds i true).size = i + 2 := by rw [Array.size_setIfInBounds]; exact hs
          have hc1 := cntF L.toList i (getD_get hL)
          have hc2 := cntF (L.setIfInBounds i true).toList (i + 1) (getD_get hn2)
          rw [Array.toList_setIfInBounds] at hc2
          cases fuel with
          | zero => omega
          | succ f =>
            refine ⟨fun h0 => ?_, fun j hj2 => ?_⟩
            · obtain ⟨j, hj'⟩ := some_ready hback (hs2.trans hsz.symm) (i + 2) (i + 1) (by omega) hn2
              rw [h0] at hj'
              cases hj'
            · rw [mem_ready] at hj2
              obtain ⟨h1, -⟩ := hj2
              have hjl := getD_lt h1
              rw [hs2] at hjl
              have hji : j = i + 1 := by
                by_cases e1 : j = i
                · subst e1; simp [hlt] at h1
                · by_cases e2 : j < i
                  · rw [getD_set_ne true (Ne.symm e1), getD_both (by omega) (hdone j e2)] at h1
                    cases h1
                  · omega
              subst hji
              refine wpOp_mono (fun a' w' hq' => wpAny_done ?_ hq' f) hq
              rw [List.eq_nil_iff_forall_not_mem]
              intro g hg
              rw [mem_ready] at hg
              obtain ⟨g1, -⟩ := hg
              have hgl := getD_lt g1
              rw [Array.size_setIfInBounds, hs2] at hgl
              by_cases e0 : g = i + 1
              · subst e0; simp [hs] at g1
              · rw [getD_set_ne true (Ne.symm e0)] at g1
                by_cases e1 : g = i
                · subst e1; simp [hlt] at g1
                · rw [getD_set_ne true (Ne.symm e1), getD_both (by omega) (hdone g (by omega))] at g1
                  cases g1
        · by_cases hin1 : i = n + 1
          · subst hin1
            have := wait ho hdep hall2 n (by omega)
            rw [getD_both (by omega) this] at hn
            cases hn
          · refine wpOp_mono ?_ (hstep u w i (by omega) hb hj (fun o' ho' e he hbi => ?_))
            · rintro a' w' ⟨v, rfl, hb2, hp2, hj2⟩
              refine ih _ _ _ (by rw [Array.size_setIfInBounds]; exact hs) ?_ (by rw [getD_set_ne true hin]; exact hn) (by rw [getD_set_ne true hin1]; exact hn1) (hb.trans (hb2.mono hb.size)) hj2 ?_
              · have h1 := cntF L.toList i (getD_get hL)
                rw [Array.toList_setIfInBounds]
                omega
              · intro j hjn hjl
                by_cases hji : j = i
                · subst hji
                  rw [upd_at]
                  exact hp2
                · rw [getD_set_ne false (Ne.symm hji)] at hjl
                  rw [upd_ne _ _ (fun h => hji (hdst j i hjn (by omega) h))]
                  exact hP _ _ _ _ (hp j hjn hjl) hb2
            · rw [ho] at ho'
              simp only [Option.some.injEq] at ho'
              subst ho'
              have h1 := hdep e he hbi
              unfold backB at hback
              rw [List.all_eq_true] at hback
              have h2 := hback i (by rw [List.mem_range]; omega)
              rw [ho] at h2
              simp only [Array.all_eq_true_iff_forall_mem, decide_eq_true_eq] at h2
              have h3 := h2 e he
              exact hp e.on (by omega) h1
  have hrep : (Array.replicate ops.size false).toList.count false = ops.size := by simp
  exact key ops.size _ u0 _ (by rw [Array.size_replicate]; exact hsz) (by rw [hrep]; exact Nat.le_refl _) (by simp [hsz]) (by simp [hsz]) ((Below.refl _ _).drew) hJ0 (fun i hi h => by
    rw [hsz] at h
    simp [show i < n + 2 by omega] at h)
end Go.Proofs.YtkjndghkimnjeaaGreat.G
