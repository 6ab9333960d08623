/- A list of those that are done, in plain terms: what is right, who is committed. -/
import Derived.Test.YtgnonbghgcpnoaaDoorDnRows
import Derived.Test.YtgnonbghgcpnoaaDoorNuBase
import Derived.Test.YtgnonbghgcpnoaaDoorErWords
namespace Go.Proofs.YtgnonbghgcpnoaaDoor
open Go.ChangeShapes Go.WideShapes Go.ChangeAt Go.RowKit
set_option linter.unusedVariables false

theorem in_not1 {n a b : Int} (h : ¬ a ≤ n) : inB n a b = false := by unfold inB; rw [decide_eq_false (fun q => h q.1)]
theorem in_not2 {n a b : Int} (h : ¬ n ≤ b) : inB n a b = false := by unfold inB; rw [decide_eq_false (fun q => h q.2)]
theorem in_yes {n a b : Int} (h : a ≤ n) (h2 : n ≤ b) : inB n a b = true := by unfold inB; rw [decide_eq_true ⟨h, h2⟩]
def dnB (k : Nat) (x : Dn) : Bool := inB x.code 0 19 && inB x.ts 0 100000 && inB x.since 0 k
def dnA (l : List Dn) (k : Nat) : Bool := match l[k]? with | some x => dnB k x | none => true
def hisB (l : List Dn) : Bool := decide (l.length ≤ 60) && decide (∀ i, i < l.length → dnA l i = true)
def hisC (l : List Dn) : Int := if 4096 < l.length then 2 else if hisB l = true then 0 else 1
theorem dnA_at {l : List Dn} {k : Nat} (h : k < l.length) : dnA l k = dnB k l[k] := by unfold dnA; rw [List.getElem?_eq_getElem h]
theorem his_not {l : List Dn} {k : Nat} (h : k < l.length) (hf : dnB k l[k] = false) : hisB l = false := by
  unfold hisB
  rw [decide_eq_false (p := ∀ i, i < l.length → dnA l i = true) (fun hall => by have := hall k h; rw [dnA_at h, hf] at this; cases this), Bool.and_false]
theorem his_many {l : List Dn} (h : ¬ l.length ≤ 60) : hisB l = false := by
  unfold hisB; rw [decide_eq_false h, Bool.false_and]
theorem his_yes {l : List Dn} (h : l.length ≤ 60) (hall : ∀ i, i < l.length → dnA l i = true) : hisB l = true := by
  unfold hisB; rw [decide_eq_true h, decide_eq_true hall]; rfl
theorem his_len {l : List Dn} (h : hisB l = true) : l.length ≤ 60 := by
  unfold hisB at h; simp only [Bool.and_eq_true, decide_eq_true_eq] at h; exact h.1
theorem his_at {l : List Dn} (h : hisB l = true) {k : Nat} (hk : k < l.length) : dnB k l[k] = true := by
  unfold hisB at h; simp only [Bool.and_eq_true, decide_eq_true_eq] at h; rw [← dnA_at hk]; exact h.2 k hk
theorem to_next {l : List Dn} {k : Nat} (hk : k < l.length) (h : ∀ i, i < k → dnA l i = true) (h2 : dnB k l[k] = true) : ∀ i, i < k + 1 → dnA l i = true := fun i hi => by
  by_cases e : i = k
  · subst e; rw [dnA_at hk]; exact h2
  · exact h i (by omega)
/-- The places of those without a code, below k. -/
def comA (l : List Dn) (k : Nat) : Bool := match l[k]? with | some x => decide (x.code = 0) | none => false
def comP (l : List Dn) : Nat → List Int
  | 0 => []
  | k + 1 => if comA l k = true then comP l k ++ [(k : Int)] else comP l k
def comR (l : List Dn) : List Int := if hisC l = 0 then comP l l.length else []
theorem comA_at {l : List Dn} {k : Nat} (h : k < l.length) : comA l k = decide (l[k].code = 0) := by unfold comA; rw [List.getElem?_eq_getElem h]
theorem comP_len (l : List Dn) : ∀ k, (comP l k).length ≤ k
  | 0 => Nat.le_refl _
  | k + 1 => by
    have := comP_len l k
    unfold comP
    split <;> simp <;> omega
theorem hisC_zero {l : List Dn} (h : hisC l = 0) : hisB l = true := by
  unfold hisC at h
  split at h
  · omega
  · split at h
    · assumption
    · omega
theorem hisC_ok {l : List Dn} (h : hisB l = true) : hisC l = 0 := by
  unfold hisC; have := his_len h; rw [if_neg (by omega), if_pos h]
theorem hisC_bad {l : List Dn} (h : hisB l = false) (h2 : ¬ 4096 < l.length) : hisC l = 1 := by
  unfold hisC; rw [if_neg h2, if_neg (by rw [h]; decide)]
theorem hisC_long {l : List Dn} (h2 : 4096 < l.length) : hisC l = 2 := by unfold hisC; rw [if_pos h2]
theorem comR_len (l : List Dn) : (comR l).length ≤ 60 := by
  unfold comR
  split
  · rename_i h; have := his_len (hisC_zero h); have := comP_len l l.length; omega
  · simp
theorem comR_not {l : List Dn} (h : hisC l ≠ 0) : comR l = [] := by unfold comR; rw [if_neg h]
theorem comR_ok {l : List Dn} (h : hisC l = 0) : comR l = comP l l.length := by unfold comR; rw [if_pos h]
theorem word_none (c : Int) : (Er.wordS c).toList.isEmpty = !inB c 0 19 := by
  by_cases h0 : c < 0
  · rw [Er.word_neg c h0, in_not1 (by omega)]; simp [ByteArray.toList_eq]
  by_cases h1 : 20 ≤ c
  · rw [Er.word_big c h1, in_not2 (by omega)]; simp [ByteArray.toList_eq]
  rcases Er.twenty c (by omega) (by omega) with rfl | rfl | rfl | rfl | rfl | rfl | rfl | rfl | rfl | rfl | rfl | rfl | rfl | rfl | rfl | rfl | rfl | rfl | rfl | rfl <;> simp [Er.wordS, Er.wordsL, ByteArray.toList_eq, inB]
theorem ret_b {a b : Bool} (h : a = b) : Ending.returned (.bool a) = .returned (.bool b) := by rw [h]
theorem ret_nk {a b : Value} {c d : Int} (h1 : a = b) (h2 : c = d) : Ending.returned (.tuple #[a, .int .i64 c]) = .returned (.tuple #[b, .int .i64 d]) := by rw [h1, h2]
theorem ret_i {c d : Int} (h2 : c = d) : Ending.returned (.int .i64 c) = .returned (.int .i64 d) := by rw [h2]
theorem own_up {w w' : World} {base size n : Nat} {e : TypeId} {v : Value} {xs : List Value} (h : w.ownsRow base e size v n xs) (hb : Below w.heap.size w w') : w'.ownsRow base e size v n xs := by
  refine ⟨h.1, ?_⟩
  rcases h.2 with h0 | ⟨g, cap, cur, rfl, h1, h2, h3⟩
  · exact .inl h0
  · exact .inr ⟨g, cap, cur, rfl, h1, (hb.block g (Array.getElem?_eq_some_iff.1 h2).1).trans h2, h3⟩
theorem own_in {w : World} {base size n : Nat} {e : TypeId} {v : Value} {xs : List Value} (h : w.ownsRow base e size v n xs) : ∀ k, v.ownBlock = some k → base ≤ k ∧ k < w.heap.size := fun k hk => by
  rcases h.2 with ⟨e, _⟩ | ⟨g', cap, cur, e, h1, h2, _⟩
  · subst e; cases hk
  · subst e
    simp only [Value.ownBlock, Option.some.injEq] at hk
    subst hk
    exact ⟨h1, (Array.getElem?_eq_some_iff.1 h2).1⟩
theorem wpList_app_run {P : Program} {ops : Array Oper} {rest : List Oper} {o : Oper} {a : Act} {Q : Exit → Act → World → Prop} {w : World} (hgd : o.guard = none) (s x : Operand) (t : TypeId)
    (ho : o.op = .call { callee := .builtin .append, args := #[s, x], argTypes := #[t, t] }) (sv xv rv : Value) (w' : World) (hs : a.eval s = sv) (hx : a.eval x = xv)
    (hr : (Builtin.append_ #[t, t] o.type #[sv, xv]).run P w = .ok rv w') (h : wpList P ops Q rest (a.put o.dst rv) w') : wpList P ops Q (o :: rest) a w := by
  refine wpList_plain hgd fun K hK => ?_
  unfold Oper.wp execOp
  simp only [ho, resolve, invoke, builtin, Sem.run_bind, Sem.run_pure, Result.andThen_ok, List.map_toArray, List.map_cons, List.map_nil, hs, hx, hr]
  exact hK _ _ h
end Go.Proofs.YtgnonbghgcpnoaaDoor
