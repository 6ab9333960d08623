/- The program's reader of documents: a value. -/
import Derived.Test.YtlilfbcngncllaaGreatDoorDocMath
import Derived.Deep.QuietTactic
import Derived.BigQuiet
import Derived.Test.YtlilfbcngncllaaGreatDoorParseMathTwo
import Derived.Deep.AppendLies
import Derived.Test.YtlilfbcngncllaaGreatDoorRdSpec
namespace Go.Proofs.YtlilfbcngncllaaGreatDoor
open Go.ChangeShapes Go.WideShapes Go.ChangeAt Go.RowKit
set_option linter.unusedVariables false

def inB (n a b : Int) : Bool := decide (a ≤ n ∧ n ≤ b)
set_option maxHeartbeats 400000 in
theorem spec_in (n a b : Int) (w : World) : Calls Tryz.prog 36 #[.int .i64 n, .int .i64 a, .int .i64 b] w fun e w' => e = .returned (.bool (inB n a b)) ∧ w' = w := by
  go_enter Tryz.func36, Tryz.ntmps36
  go_wp2
  all_goals (go_ret; exact ⟨ret_bool (by unfold inB; rw [Bool.eq_iff_iff]; simp; omega), rfl⟩)

theorem no_of {s : ByteArray} (h : s.toList = []) : noB s = true := by unfold noB; rw [h]; rfl
theorem no_not {s : ByteArray} (h : ¬ s.toList = []) : noB s = false := by unfold noB; cases hs : s.toList with | nil => exact absurd hs h | cons a l => rfl

set_option maxHeartbeats 1000000 in
theorem spec_val (v : Va) (w : World) (hs : v.t.size ≤ maxLen) :
    Calls Tryz.prog 85 #[.agg #[.int .i64 v.k, .int .i64 v.n, .string v.t]] w fun e w' => e = .returned (.bool (valB v)) ∧ Below w.heap.size w w' := by
  obtain ⟨k, n, s⟩ := v
  simp only at hs ⊢
  have k0 : (s.toList == []) = noB s := by unfold noB; cases s.toList <;> rfl
  have aB : Below w.heap.size w (w.alloc (.cells #[.int .i64 k, .int .i64 n, .string s] 101)) := (Below.refl _ _).alloc (Nat.le_refl _) _
  by_cases h1 : k = 1
  · have H : Hid (valB ⟨k, n, s⟩ = (intB n && noB s)) := by unfold Hid valB; rw [if_pos h1]
    subst h1
    cases hb : intB n
    all_goals
      go_enter Tryz.func85, Tryz.ntmps85
      go_wp2_with (go_at_call 82; refine (spec_isInt _ _).mono ?_; rintro e w1 ⟨rfl, rfl⟩)
      go_ret
      exact ⟨ret_bool (by rw [H.out, hb]; simp), aB⟩
  have g1 : (k == 1) = false := by rw [beq_eq_false_iff_ne]; omega
  by_cases h2 : k = 2
  · have H : Hid (valB ⟨k, n, s⟩ = ((n == 0 || n == 1) && noB s)) := by unfold Hid valB; rw [if_neg h1, if_pos h2]
    subst h2
    clear g1 h1
    have hin : inB n 0 1 = (n == 0 || n == 1) := by unfold inB; rw [Bool.eq_iff_iff]; simp; omega
    cases hb : (n == 0 || n == 1)
    all_goals
      rw [hb] at hin
      go_enter Tryz.func85, Tryz.ntmps85
      go_wp2_with (go_at_call 36; refine (spec_in _ _ _ _).mono ?_; rw [hin]; rintro e w1 ⟨rfl, rfl⟩)
      go_ret
      exact ⟨ret_bool (by rw [H.out, hb]; simp), aB⟩
  have g2 : (k == 2) = false := by rw [beq_eq_false_iff_ne]; omega
  by_cases h3 : k = 3
  · have H : Hid (valB ⟨k, n, s⟩ = ((n == 0) && noB s)) := by unfold Hid valB; rw [if_neg h1, if_neg h2, if_pos h3]
    subst h3
    clear g1 h1 g2 h2
    cases hb : (n == 0)
    all_goals
      go_enter Tryz.func85, Tryz.ntmps85
      go_wp2_with fail
      go_ret
      exact ⟨ret_bool (by rw [H.out, hb]; simp), aB⟩
  have g3 : (k == 3) = false := by rw [beq_eq_false_iff_ne]; omega
  by_cases h4 : k = 4
  · have H : Hid (valB ⟨k, n, s⟩ = ((n == 0) && nameB s)) := by unfold Hid valB; rw [if_neg h1, if_neg h2, if_neg h3, if_pos h4]
    subst h4
    clear g1 h1 g2 h2 g3 h3
    cases hb : (n == 0)
    all_goals
      go_enter Tryz.func85, Tryz.ntmps85
      go_wp2_with (go_at_call 38; refine (spec_nameOK _ _ hs).mono ?_; rintro e w1 ⟨rfl, rfl⟩)
      go_ret
      exact ⟨ret_bool (by rw [H.out, hb]; simp), aB⟩
  have g4 : (k == 4) = false := by rw [beq_eq_false_iff_ne]; omega
  have H2 : Hid (false = valB ⟨k, n, s⟩) := by unfold Hid valB; rw [if_neg h1, if_neg h2, if_neg h3, if_neg h4]
  clear h1 h2 h3 h4
  go_enter Tryz.func85, Tryz.ntmps85
  go_wp2_with fail
  go_ret
  exact ⟨ret_bool H2.out, aB⟩

set_option maxHeartbeats 1000000 in
theorem impl_val (v : Va) (w : World) (hs : v.t.size ≤ maxLen) :
    Calls Tryz.prog 95 #[.agg #[.int .i64 v.k, .int .i64 v.n, .string v.t]] w fun e w' => e = .returned (.bool (valB v)) ∧ Below w.heap.size w w' := by
  obtain ⟨k, n, s⟩ := v
  simp only at hs ⊢
  have aB : Below w.heap.size w (w.alloc (.cells #[.int .i64 k, .int .i64 n, .string s] 101)) := (Below.refl _ _).alloc (Nat.le_refl _) _
  have aN : ∀ w1, Below (w.alloc (.cells #[.int .i64 k, .int .i64 n, .string s] 101)).heap.size (w.alloc (.cells #[.int .i64 k, .int .i64 n, .string s] 101)) w1 → Below w.heap.size w w1 := fun w1 h => aB.trans (h.mono (by simp))
  have HA : Hid _ := aB
  have HN : Hid _ := aN
  clear aB aN
  by_cases h1 : k = 1
  · have H : Hid (valB ⟨k, n, s⟩ = (intB n && noB s)) := by unfold Hid valB; rw [if_pos h1]
    subst h1
    by_cases hz : s.toList = []
    · have H2 : Hid (intB n = valB ⟨1, n, s⟩) := by rw [Hid, H.out, no_of hz]; simp
      go_enter Tryz.func95, Tryz.ntmps95
      go_wp2_with (go_at_call 90; refine (impl_isInt _ _).mono ?_; rintro e w1 ⟨rfl, rfl⟩)
      go_ret
      exact ⟨ret_bool H2.out, HA.out⟩
    · have H2 : Hid (false = valB ⟨1, n, s⟩) := by rw [Hid, H.out, no_not hz]; simp
      go_enter Tryz.func95, Tryz.ntmps95
      go_wp2_with (go_at_call 90; refine (impl_isInt _ _).mono ?_; rintro e w1 ⟨rfl, rfl⟩)
      go_ret
      exact ⟨ret_bool H2.out, HA.out⟩
  have g1 : (k == 1) = false := by rw [beq_eq_false_iff_ne]; omega
  by_cases h2 : k = 2
  · have H : Hid (valB ⟨k, n, s⟩ = ((n == 0 || n == 1) && noB s)) := by unfold Hid valB; rw [if_neg h1, if_pos h2]
    subst h2
    clear g1 h1
    by_cases hz : s.toList = []
    · cases hb : (n == 0)
      · have H2 : Hid ((n == 1) = valB ⟨2, n, s⟩) := by rw [Hid, H.out, no_of hz, hb]; simp
        go_enter Tryz.func95, Tryz.ntmps95
        go_wp2_with fail
        go_ret
        exact ⟨ret_bool H2.out, HA.out⟩
      · have H2 : Hid (true = valB ⟨2, n, s⟩) := by rw [Hid, H.out, no_of hz, hb]; simp
        go_enter Tryz.func95, Tryz.ntmps95
        go_wp2_with fail
        go_ret
        exact ⟨ret_bool H2.out, HA.out⟩
    · have H2 : Hid (false = valB ⟨2, n, s⟩) := by rw [Hid, H.out, no_not hz]; simp
      go_enter Tryz.func95, Tryz.ntmps95
      go_wp2_with fail
      go_ret
      exact ⟨ret_bool H2.out, HA.out⟩
  have g2 : (k == 2) = false := by rw [beq_eq_false_iff_ne]; omega
  by_cases h3 : k = 3
  · have H : Hid (valB ⟨k, n, s⟩ = ((n == 0) && noB s)) := by unfold Hid valB; rw [if_neg h1, if_neg h2, if_pos h3]
    subst h3
    clear g1 h1 g2 h2
    by_cases hz : s.toList = []
    · have H2 : Hid ((n == 0) = valB ⟨3, n, s⟩) := by rw [Hid, H.out, no_of hz]; simp
      go_enter Tryz.func95, Tryz.ntmps95
      go_wp2_with fail
      go_ret
      exact ⟨ret_bool H2.out, HA.out⟩
    · have H2 : Hid (false = valB ⟨3, n, s⟩) := by rw [Hid, H.out, no_not hz]; simp
      go_enter Tryz.func95, Tryz.ntmps95
      go_wp2_with fail
      go_ret
      exact ⟨ret_bool H2.out, HA.out⟩
  have g3 : (k == 3) = false := by rw [beq_eq_false_iff_ne]; omega
  by_cases h4 : k = 4
  · have H : Hid (valB ⟨k, n, s⟩ = ((n == 0) && nameB s)) := by unfold Hid valB; rw [if_neg h1, if_neg h2, if_neg h3, if_pos h4]
    subst h4
    clear g1 h1 g2 h2 g3 h3
    cases hb : (n == 0)
    · have H2 : Hid (false = valB ⟨4, n, s⟩) := by rw [Hid, H.out, hb]; simp
      go_enter Tryz.func95, Tryz.ntmps95
      go_wp2_with (go_at_call 48; refine (impl_nameOK _ _ hs).mono ?_; rintro e w1 ⟨rfl, hb1⟩)
      go_ret
      exact ⟨ret_bool H2.out, HA.out⟩
    · have H2 : Hid (nameB s = valB ⟨4, n, s⟩) := by rw [Hid, H.out, hb]; simp
      go_enter Tryz.func95, Tryz.ntmps95
      go_wp2_with (go_at_call 48; refine (impl_nameOK _ _ hs).mono ?_; rintro e w1 ⟨rfl, hb1⟩)
      go_ret
      exact ⟨ret_bool H2.out, HN.out _ hb1⟩
  have g4 : (k == 4) = false := by rw [beq_eq_false_iff_ne]; omega
  have H2 : Hid (false = valB ⟨k, n, s⟩) := by unfold Hid valB; rw [if_neg h1, if_neg h2, if_neg h3, if_neg h4]
  clear h1 h2 h3 h4
  go_enter Tryz.func95, Tryz.ntmps95
  go_wp2_with fail
  go_ret
  exact ⟨ret_bool H2.out, HA.out⟩

/-- What is left of n, and what is known then. -/
def Sz (n m : Int) (p : Prop) : Prop := m ≤ n ∧ -1 ≤ m ∧ (0 ≤ m → p)
end Go.Proofs.YtlilfbcngncllaaGreatDoor
namespace Go.Proofs.YtlilfbcngncllaaGreatDoor
open Go.ChangeShapes Go.WideShapes Go.ChangeAt Go.RowKit
set_option linter.unusedVariables false

theorem info_partsS {P : Program} {t : TypeId} {z : Option Value} {n m : Nat} (h : (P.info? t).map (fun i => (i.zero, i.size, i.bytes)) = some (z, n, m)) : ∃ i, P.info? t = some i ∧ i.zero = z ∧ i.size = n ∧ i.bytes = m := by
  cases hi : P.info? t with
  | none => rw [hi] at h; cases h
  | some i =>
    rw [hi] at h
    simp only [Option.map_some, Option.some.injEq, Prod.mk.injEq] at h
    exact ⟨i, rfl, h.1, h.2.1, h.2.2⟩
theorem wpList_append_runR {P : Program} {ops : Array Oper} {rest : List Oper} {o : Oper} {a : Act} {Q : Exit → Act → World → Prop} {w : World} (hgd : o.guard = none) (s x : Operand) (t : TypeId)
    (ho : o.op = .call { callee := .builtin .append, args := #[s, x], argTypes := #[t, t] }) (sv xv rv : Value) (w' : World) (hs : a.eval s = sv) (hx : a.eval x = xv)
    (hr : (Builtin.append_ #[t, t] o.type #[sv, xv]).run P w = .ok rv w') (h : wpList P ops Q rest (a.put o.dst rv) w') : wpList P ops Q (o :: rest) a w := by
  refine wpList_plain hgd fun K hK => ?_
  unfold Oper.wp execOp
  simp only [ho, resolve, invoke, builtin, Sem.run_bind, Sem.run_pure, Result.andThen_ok, List.map_toArray, List.map_cons, List.map_nil, hs, hx, hr]
  exact hK _ _ h
def rdPos (w : World) (L : Nat) : Nat := match w.cell? ⟨L, 1, none⟩ with
  | some (.int _ n) => n.toNat
  | _ => 0
theorem rdPos_of {T : TypeId} {ex : Array Value} {w : World} {L c i : Nat} {a : Option Addr} {l : List Tk} (h : RdSt T ex w L a c l i) : rdPos w L = i := by unfold rdPos; rw [h.c1]; simp
theorem grown_keeps {w w' : World} {L N : Nat} {o : Option Obj} (h : w.heap[N]? = o) (hN : N < w.heap.size) (hg : w.grownBy w' (some L)) (hne : N ≠ L) : w'.heap[N]? = o := (hg.block N hN (by intro e; simp only [Option.some.injEq] at e; exact hne e)).trans h

/-- Tokens as a text has them. -/
structure TkG (l : List Tk) : Prop where
  ok : ∀ t ∈ l, tokB t.k t.n t.t = true
  bd : ∀ t ∈ l, t.t.size ≤ 1048576
  len : l.length ≤ 1048576
theorem drop_nx {l : List Tk} {i : Nat} (h : i < l.length) : l.drop i = nxT l i :: l.drop (i + 1) := by
  unfold nxT
  rw [List.getElem?_eq_getElem h]
  exact List.drop_eq_getElem_cons h
theorem nx_end {l : List Tk} {i : Nat} (h : l.length ≤ i) : nxT l i = ⟨0, 0, ⟨#[]⟩⟩ := by
  unfold nxT
  rw [List.getElem?_eq_none h]
theorem nx_mem {l : List Tk} {i : Nat} (h : i < l.length) : nxT l i ∈ l := by
  unfold nxT
  rw [List.getElem?_eq_getElem h]
  exact List.getElem_mem h
/-- A mark here. -/
theorem at_tk {l : List Tk} (h : TkG l) (s : ByteArray) (i : Nat) : atM s.toList (l.drop i) = tkE (nxT l i) ⟨4, 0, s⟩ := by
  by_cases hi : i < l.length
  · rw [drop_nx hi]
    unfold atM mkB tkE
    simp only
    by_cases hk : (nxT l i).k = 4
    · have := (tokB_ok h.ok _ (nx_mem hi)).2 hk
      rw [this]; simp
    · have : ((nxT l i).k == 4) = false := by simpa using hk
      rw [this]; simp
  · rw [List.drop_eq_nil_of_le (by omega), nx_end (by omega)]
    unfold atM tkE
    simp
theorem tk_lt {l : List Tk} {s : ByteArray} {i : Nat} (h : tkE (nxT l i) ⟨4, 0, s⟩ = true) : i < l.length := by
  refine Nat.lt_of_not_le fun hn => ?_
  rw [nx_end hn] at h
  simp [tkE] at h
/-- A name here. -/
theorem nm_at {l : List Tk} (h : TkG l) (i : Nat) : nmAt (l.drop i) = if (nmI l i).toList = [] then none else some (nmI l i) := by
  by_cases hi : i < l.length
  · rw [drop_nx hi]
    unfold nmAt nmI
    simp only
    by_cases hk : (nxT l i).k = 1
    · simp only [hk, if_true]
      rw [if_neg ((tokB_ok h.ok _ (nx_mem hi)).1 hk)]
    · simp only [hk, if_false]
      rw [if_pos (by rw [ByteArray.toList_eq])]
  · rw [List.drop_eq_nil_of_le (by omega)]
    unfold nmAt nmI
    rw [nx_end (by omega)]
    simp only
    rw [if_pos]
    rw [if_neg (by decide), ByteArray.toList_eq]
theorem nm_lt {l : List Tk} {i : Nat} (h : (nmI l i).toList ≠ []) : i < l.length := by
  refine Nat.lt_of_not_le fun hn => h ?_
  unfold nmI
  rw [nx_end hn]
  simp only
  rw [if_neg (by decide), ByteArray.toList_eq]
theorem drop2 (l : List Tk) (i n : Nat) : (l.drop i).drop n = l.drop (i + n) := List.drop_drop ..
theorem tl_lit (a : Array UInt8) : (⟨a⟩ : ByteArray).toList = a.toList := by rw [ByteArray.toList_eq]

/-- What a reader tells: what is read, its place behind it; or a fault of form. -/
def ReadP {α : Type} (val : α → Value) (ex : Array Value) (L : Nat) (a : Option Addr) (c : Nat) (l : List Tk) (r : Option (α × List Tk)) (w : World) (e : Ending) (w' : World) : Prop :=
  ((∃ x j, r = some (x, l.drop j) ∧ e = .returned (val x) ∧ RdSt 37 ex w' L a c l j) ∨ (r = none ∧ badF e)) ∧ w.grownBy w' (some L)
def vaV (x : Va) : Value := .agg #[.int .i64 x.k, .int .i64 x.n, .string x.t]
def arV1 (x : Ar) : Value := .agg #[.string x.nm, .int .i64 x.v.k, .int .i64 x.v.n, .string x.v.t]
def diV1 (x : Di) : Value := .agg #[.bool x.sk, .int .i64 x.v.k, .int .i64 x.v.n, .string x.v.t]
def wordVa (s : ByteArray) : Va :=
  if s.toList = [116, 114, 117, 101] then ⟨2, 1, ⟨#[]⟩⟩
  else if s.toList = [102, 97, 108, 115, 101] then ⟨2, 0, ⟨#[]⟩⟩
  else if s.toList = [110, 117, 108, 108] then ⟨3, 0, ⟨#[]⟩⟩
  else ⟨0, 0, ⟨#[]⟩⟩
def tokVa (t : Tk) : Va :=
  if t.k = 2 then ⟨1, t.n, ⟨#[]⟩⟩ else if t.k = 3 then ⟨4, 0, t.t⟩ else if t.k = 1 then wordVa t.t else ⟨0, 0, ⟨#[]⟩⟩
theorem no_nil : noB ⟨#[]⟩ = true := no_of (by rw [ByteArray.toList_eq])
theorem tokVa_bd {t : Tk} {m : Nat} (h : t.t.size ≤ m) : (tokVa t).t.size ≤ m := by
  unfold tokVa wordVa
  split
  · exact Nat.zero_le _
  · split
    · exact h
    · split
      · split
        · exact Nat.zero_le _
        · split
          · exact Nat.zero_le _
          · split <;> exact Nat.zero_le _
      · exact Nat.zero_le _
theorem pVal_at {l : List Tk} (h : TkG l) (i : Nat) : pVal (l.drop i) = if valB (tokVa (nxT l i)) = true then some (tokVa (nxT l i), l.drop (i + 1)) else none := by
  by_cases hi : i < l.length
  · rw [drop_nx hi]
    have hb := h.ok _ (nx_mem hi)
    generalize nxT l i = t at *
    unfold pVal tokVa
    dsimp only
    unfold tokB at hb
    by_cases h2 : t.k = 2
    · rw [if_neg (by omega), if_pos h2] at hb
      simp only [Bool.and_eq_true] at hb
      simp only [h2, if_true]
      rw [if_pos]
      unfold valB
      simp [hb.1, no_nil]
    simp only [h2, if_false]
    by_cases h3 : t.k = 3
    · rw [if_pos (.inr h3)] at hb
      simp only [Bool.and_eq_true] at hb
      simp only [h3, if_true]
      rw [if_pos]
      unfold valB
      simp [hb.2]
    simp only [h3, if_false]
    by_cases h1 : t.k = 1
    · simp only [h1, if_true]
      unfold wordVa
      split
      · rw [if_pos]; unfold valB; simp [no_nil]
      · split
        · rw [if_pos]; unfold valB; simp [no_nil]
        · split
          · rw [if_pos]; unfold valB; simp [no_nil]
          · rw [if_neg]; unfold valB; simp
    · simp only [h1, if_false]
      rw [if_neg]; unfold valB; simp
  · rw [List.drop_eq_nil_of_le (by omega), nx_end (by omega)]
    rw [if_neg (by unfold tokVa valB; simp)]
    rfl
theorem val_lt {l : List Tk} {i : Nat} (h : valB (tokVa (nxT l i)) = true) : i < l.length := by
  refine Nat.lt_of_not_le fun hn => ?_
  rw [nx_end hn] at h
  revert h
  unfold tokVa valB
  simp
end Go.Proofs.YtlilfbcngncllaaGreatDoor
namespace Go.Proofs.YtlilfbcngncllaaGreatDoor
open Go.ChangeShapes Go.WideShapes Go.ChangeAt Go.RowKit
set_option linter.unusedVariables false

def vwB (s : ByteArray) : Bool := (s.toList == [116, 114, 117, 101]) || (s.toList == [102, 97, 108, 115, 101]) || (s.toList == [110, 117, 108, 108])
theorem spec_bit (b : Bool) (w : World) : Calls Tryz.prog 108 #[.bool b] w fun e w' => e = .returned (.int .i64 (if b then 1 else 0)) ∧ w' = w := by
  cases b
  · go_enter Tryz.func108, Tryz.ntmps108
    go_wp2_with fail
    go_ret
    exact ⟨rfl, rfl⟩
  · go_enter Tryz.func108, Tryz.ntmps108
    go_wp2_with fail
    go_ret
    exact ⟨rfl, rfl⟩
theorem spec_vword (s : ByteArray) (w : World) : Calls Tryz.prog 107 #[.string s] w fun e w' => e = .returned (.bool (vwB s)) ∧ w' = w := by
  obtain ⟨r, HR⟩ : ∃ r, Hid (r = vwB s) := ⟨_, rfl⟩
  rw [← HR.out]
  unfold vwB at HR
  cases e1 : (s.toList == [116, 114, 117, 101]) <;> cases e2 : (s.toList == [102, 97, 108, 115, 101]) <;> cases e3 : (s.toList == [110, 117, 108, 108])
  all_goals
    rw [e1, e2, e3] at HR
    have HE := HR.out
    simp at HE
    subst HE
    clear HR
    go_enter Tryz.func107, Tryz.ntmps107
    go_wp2_with fail
    go_ret
    exact ⟨rfl, rfl⟩
end Go.Proofs.YtlilfbcngncllaaGreatDoor
namespace Go.Proofs.YtlilfbcngncllaaGreatDoor
open Go.ChangeShapes Go.WideShapes Go.ChangeAt Go.RowKit
set_option linter.unusedVariables false

theorem results_word (tmps : Array Value) (W : World) (N : Nat) (cs : Array Value) (h2 : tmps.getD 2 undef = .pointer (some ⟨N, 0, none⟩)) (hrow : W.heap[N]? = some (.cells cs 101 (0, 0))) (hsz : cs.size = 3) :
    (results Tryz.f135 tmps).run Tryz.prog W = .ok (.agg cs) W := by
  have c39 : (Tryz.prog.info? 101).map (·.size) = some 3 := by kernel_rfl
  exact results_cell_row Tryz.results135 tmps W N 101 cs (0, 0) _ h2 hrow Tryz.underlying101 rfl (by rw [hsz]; exact c39)
theorem results_tokv (tmps : Array Value) (W : World) (N : Nat) (cs : Array Value) (h2 : tmps.getD 2 undef = .pointer (some ⟨N, 0, none⟩)) (hrow : W.heap[N]? = some (.cells cs 101 (0, 0))) (hsz : cs.size = 3) :
    (results Tryz.f132 tmps).run Tryz.prog W = .ok (.agg cs) W := by
  have c39 : (Tryz.prog.info? 101).map (·.size) = some 3 := by kernel_rfl
  exact results_cell_row Tryz.results132 tmps W N 101 cs (0, 0) _ h2 hrow Tryz.underlying101 rfl (by rw [hsz]; exact c39)
theorem results_value (tmps : Array Value) (W : World) (N : Nat) (cs : Array Value) (h2 : tmps.getD 2 undef = .pointer (some ⟨N, 0, none⟩)) (hrow : W.heap[N]? = some (.cells cs 101 (0, 0))) (hsz : cs.size = 3) :
    (results Tryz.f124 tmps).run Tryz.prog W = .ok (.agg cs) W := by
  have c39 : (Tryz.prog.info? 101).map (·.size) = some 3 := by kernel_rfl
  exact results_cell_row Tryz.results124 tmps W N 101 cs (0, 0) _ h2 hrow Tryz.underlying101 rfl (by rw [hsz]; exact c39)
set_option maxHeartbeats 2000000 in
theorem impl_word (s : ByteArray) (w : World) :
    Calls Tryz.prog 135 #[.string s] w fun e w' => e = .returned (vaV (wordVa s)) ∧ Below w.heap.size w w' := by
  have HW : Hid (wordVa s = if s.toList = [116, 114, 117, 101] then ⟨2, 1, ⟨#[]⟩⟩ else if s.toList = [102, 97, 108, 115, 101] then ⟨2, 0, ⟨#[]⟩⟩ else if s.toList = [110, 117, 108, 108] then ⟨3, 0, ⟨#[]⟩⟩ else ⟨0, 0, ⟨#[]⟩⟩) := rfl
  have rv : ∀ (W : World) (x : Va), Below w.heap.size w W → W.heap[w.heap.size]? = some (.cells #[.int .i64 0, .int .i64 0, .string ⟨#[]⟩] 101 (0, 0)) →
      ((W.setCell ⟨w.heap.size, 0, none⟩ (.int .i64 x.k)).setCell ⟨w.heap.size, 0 + 1, none⟩ (.int .i64 x.n)).setCell ⟨w.heap.size, 0 + 2, none⟩ (.string x.t) = ((W.setCell ⟨w.heap.size, 0, none⟩ (.int .i64 x.k)).setCell ⟨w.heap.size, 1, none⟩ (.int .i64 x.n)).setCell ⟨w.heap.size, 2, none⟩ (.string x.t) := fun _ _ _ _ => rfl
  clear rv
  obtain ⟨V, hV⟩ : ∃ V, V = w.alloc (.cells #[.int .i64 0, .int .i64 0, .string ⟨#[]⟩] 101) := ⟨_, rfl⟩
  have BV : Hid (Below w.heap.size w V) := by rw [hV]; exact (Below.refl _ _).alloc (Nat.le_refl _) _
  have cV : Hid (V.heap[w.heap.size]? = some (.cells #[.int .i64 0, .int .i64 0, .string ⟨#[]⟩] 101 (0, 0))) := by rw [hV]; exact heap_alloc_new _ _
  by_cases e1 : s.toList = [116, 114, 117, 101]
  · have H : Hid (wordVa s = ⟨2, 1, ⟨#[]⟩⟩) := by rw [Hid, HW.out, if_pos e1]
    have e1' : (s.toList == [116, 114, 117, 101]) = true := by simp [e1]
    clear HW e1
    go_enter Tryz.func135, Tryz.ntmps135
    go_upto_region 1 with fail
    rw [← hV]
    clear hV
    have fr := fun o => row_frozen cV.out o
    have xq := fun o => row_cell cV.out o
    go_wp2_with fail
    refine bodyPost_ret (v := .agg #[.int .i64 2, .int .i64 1, .string ⟨#[]⟩]) (results_word _ _ w.heap.size _ rfl (row_set (row_set (row_set cV.out 0 (.int .i64 2)) 1 (.int .i64 1)) 2 (.string ⟨#[]⟩)) rfl) rfl ⟨by rw [H.out]; rfl, ?_⟩
    exact ((BV.out.setCell (Nat.le_refl _) _).setCell (Nat.le_refl _) _).setCell (Nat.le_refl _) _
  have e1' : (s.toList == [116, 114, 117, 101]) = false := by simp [e1]
  by_cases e2 : s.toList = [102, 97, 108, 115, 101]
  · have H : Hid (wordVa s = ⟨2, 0, ⟨#[]⟩⟩) := by rw [Hid, HW.out, if_neg e1, if_pos e2]
    have e2' : (s.toList == [102, 97, 108, 115, 101]) = true := by simp [e2]
    clear HW e1 e2
    go_enter Tryz.func135, Tryz.ntmps135
    go_upto_region 1 with fail
    rw [← hV]
    clear hV
    have fr := fun o => row_frozen cV.out o
    have xq := fun o => row_cell cV.out o
    go_wp2_with fail
    refine bodyPost_ret (v := .agg #[.int .i64 2, .int .i64 0, .string ⟨#[]⟩]) (results_word _ _ w.heap.size _ rfl (row_set (row_set (row_set cV.out 0 (.int .i64 2)) 1 (.int .i64 0)) 2 (.string ⟨#[]⟩)) rfl) rfl ⟨by rw [H.out]; rfl, ?_⟩
    exact ((BV.out.setCell (Nat.le_refl _) _).setCell (Nat.le_refl _) _).setCell (Nat.le_refl _) _
  have e2' : (s.toList == [102, 97, 108, 115, 101]) = false := by simp [e2]
  by_cases e3 : s.toList = [110, 117, 108, 108]
  · have H : Hid (wordVa s = ⟨3, 0, ⟨#[]⟩⟩) := by rw [Hid, HW.out, if_neg e1, if_neg e2, if_pos e3]
    have e3' : (s.toList == [110, 117, 108, 108]) = true := by simp [e3]
    clear HW e1 e2 e3
    go_enter Tryz.func135, Tryz.ntmps135
    go_upto_region 1 with fail
    rw [← hV]
    clear hV
    have fr := fun o => row_frozen cV.out o
    have xq := fun o => row_cell cV.out o
    go_wp2_with fail
    refine bodyPost_ret (v := .agg #[.int .i64 3, .int .i64 0, .string ⟨#[]⟩]) (results_word _ _ w.heap.size _ rfl (row_set (row_set (row_set cV.out 0 (.int .i64 3)) 1 (.int .i64 0)) 2 (.string ⟨#[]⟩)) rfl) rfl ⟨by rw [H.out]; rfl, ?_⟩
    exact ((BV.out.setCell (Nat.le_refl _) _).setCell (Nat.le_refl _) _).setCell (Nat.le_refl _) _
  have e3' : (s.toList == [110, 117, 108, 108]) = false := by simp [e3]
  have H : Hid (wordVa s = ⟨0, 0, ⟨#[]⟩⟩) := by rw [Hid, HW.out, if_neg e1, if_neg e2, if_neg e3]
  clear HW e1 e2 e3
  go_enter Tryz.func135, Tryz.ntmps135
  go_upto_region 1 with fail
  rw [← hV]
  clear hV
  have fr := fun o => row_frozen cV.out o
  have xq := fun o => row_cell cV.out o
  go_wp2_with fail
  refine bodyPost_ret (v := .agg #[.int .i64 0, .int .i64 0, .string ⟨#[]⟩]) (results_word _ _ w.heap.size _ rfl (row_set (row_set (row_set cV.out 0 (.int .i64 0)) 1 (.int .i64 0)) 2 (.string ⟨#[]⟩)) rfl) rfl ⟨by rw [H.out]; rfl, ?_⟩
  exact ((BV.out.setCell (Nat.le_refl _) _).setCell (Nat.le_refl _) _).setCell (Nat.le_refl _) _
set_option maxHeartbeats 2000000 in
theorem impl_tokVa (t : Tk) (w : World) :
    Calls Tryz.prog 132 #[.agg #[.int .i64 t.k, .int .i64 t.n, .string t.t]] w fun e w' => e = .returned (vaV (tokVa t)) ∧ Below w.heap.size w w' := by
  have HW : Hid (tokVa t = if t.k = 2 then ⟨1, t.n, ⟨#[]⟩⟩ else if t.k = 3 then ⟨4, 0, t.t⟩ else if t.k = 1 then wordVa t.t else ⟨0, 0, ⟨#[]⟩⟩) := rfl
  obtain ⟨k, n, s⟩ := t
  simp only at HW ⊢
  obtain ⟨B, hB⟩ : ∃ B, B = w.alloc (.cells #[.int .i64 k, .int .i64 n, .string s] 66) := ⟨_, rfl⟩
  have zB : B.heap.size = w.heap.size + 1 := by rw [hB]; simp
  have bB : Below w.heap.size w B := by rw [hB]; exact (Below.refl _ _).alloc (Nat.le_refl _) _
  have xB : B.heap[w.heap.size]? = some (.cells #[.int .i64 k, .int .i64 n, .string s] 66 (0, 0)) := by rw [hB]; exact heap_alloc_new _ _
  obtain ⟨V, hV⟩ : ∃ V, V = B.alloc (.cells #[.int .i64 0, .int .i64 0, .string ⟨#[]⟩] 101) := ⟨_, rfl⟩
  have BV0 : Below B.heap.size B V := by rw [hV]; exact (Below.refl _ _).alloc (Nat.le_refl _) _
  have BV : Hid (Below w.heap.size w V) := bB.trans (BV0.mono (by omega))
  have cV : Hid (V.heap[w.heap.size + 1]? = some (.cells #[.int .i64 0, .int .i64 0, .string ⟨#[]⟩] 101 (0, 0))) := by rw [hV, ← zB]; exact heap_alloc_new _ _
  have xV : Hid (V.heap[w.heap.size]? = some (.cells #[.int .i64 k, .int .i64 n, .string s] 66 (0, 0))) := (BV0.block _ (by omega)).trans xB
  have hge : w.heap.size ≤ w.heap.size + 1 := by omega
  have HB : Hid (B = _) := hB
  clear hB bB xB BV0
  by_cases e1 : k = 2
  · have H : Hid (tokVa ⟨k, n, s⟩ = ⟨1, n, ⟨#[]⟩⟩) := by rw [Hid, HW.out, if_pos e1]
    subst e1
    clear HW
    go_enter Tryz.func132, Tryz.ntmps132
    go_upto_region 1 with fail
    rw [← HB.out, ← hV]
    clear hV HB zB
    have fr := fun o => row_frozen cV.out o
    have xq := fun o => row_cell cV.out o
    have xr := fun o => row_cell xV.out o
    go_wp2_with fail
    refine bodyPost_ret (v := .agg #[.int .i64 1, .int .i64 n, .string ⟨#[]⟩]) (results_tokv _ _ (w.heap.size + 1) _ rfl (row_set (row_set (row_set cV.out 0 (.int .i64 1)) 1 (.int .i64 n)) 2 (.string ⟨#[]⟩)) rfl) rfl ⟨by rw [H.out]; rfl, ?_⟩
    exact ((BV.out.setCell hge _).setCell hge _).setCell hge _
  have e1' : (k == 2) = false := by simp [e1]
  by_cases e2 : k = 3
  · have H : Hid (tokVa ⟨k, n, s⟩ = ⟨4, 0, s⟩) := by rw [Hid, HW.out, if_neg e1, if_pos e2]
    subst e2
    clear HW e1 e1'
    go_enter Tryz.func132, Tryz.ntmps132
    go_upto_region 1 with fail
    rw [← HB.out, ← hV]
    clear hV HB zB
    have fr := fun o => row_frozen cV.out o
    have xq := fun o => row_cell cV.out o
    have xr := fun o => row_cell xV.out o
    go_wp2_with fail
    refine bodyPost_ret (v := .agg #[.int .i64 4, .int .i64 0, .string s]) (results_tokv _ _ (w.heap.size + 1) _ rfl (row_set (row_set (row_set cV.out 0 (.int .i64 4)) 1 (.int .i64 0)) 2 (.string s)) rfl) rfl ⟨by rw [H.out]; rfl, ?_⟩
    exact ((BV.out.setCell hge _).setCell hge _).setCell hge _
  have e2' : (k == 3) = false := by simp [e2]
  by_cases e3 : k = 1
  · have H : Hid (tokVa ⟨k, n, s⟩ = wordVa s) := by rw [Hid, HW.out, if_neg e1, if_neg e2, if_pos e3]
    subst e3
    clear HW e1 e2 e1' e2'
    have HQ : Hid _ := impl_word s V
    generalize wordVa s = v at *
    go_enter Tryz.func132, Tryz.ntmps132
    go_upto_region 1 with fail
    rw [← HB.out, ← hV]
    have zV : Hid (w.heap.size + 1 < V.heap.size) := by rw [Hid, hV, ← zB]; simp
    clear hV HB zB
    have xr := fun o => row_cell xV.out o
    go_wp2_with fail
    refine Calls.mono HQ.out ?_
    rintro e w1 ⟨rfl, b1⟩
    unfold vaV
    have C1 : Hid (w1.heap[w.heap.size + 1]? = _) := (b1.block _ zV.out).trans cV.out
    have B1 : Hid (Below w.heap.size w w1) := BV.out.trans (b1.mono (by have := BV.out.size; omega))
    have fr := fun o => row_frozen C1.out o
    have xq := fun o => row_cell C1.out o
    clear b1 HQ xr
    go_wp2_with fail
    refine bodyPost_ret (v := .agg #[.int .i64 v.k, .int .i64 v.n, .string v.t]) (results_tokv _ _ (w.heap.size + 1) _ rfl (row_set (row_set (row_set C1.out 0 (.int .i64 v.k)) 1 (.int .i64 v.n)) 2 (.string v.t)) rfl) rfl ⟨by rw [H.out]; rfl, ?_⟩
    exact ((B1.out.setCell hge _).setCell hge _).setCell hge _
  have e3' : (k == 1) = false := by simp [e3]
  have H : Hid (tokVa ⟨k, n, s⟩ = ⟨0, 0, ⟨#[]⟩⟩) := by rw [Hid, HW.out, if_neg e1, if_neg e2, if_neg e3]
  clear HW e1 e2 e3
  go_enter Tryz.func132, Tryz.ntmps132
  go_upto_region 1 with fail
  rw [← HB.out, ← hV]
  clear hV HB zB
  have fr := fun o => row_frozen cV.out o
  have xq := fun o => row_cell cV.out o
  have xr := fun o => row_cell xV.out o
  go_wp2_with fail
  refine bodyPost_ret (v := .agg #[.int .i64 0, .int .i64 0, .string ⟨#[]⟩]) (results_tokv _ _ (w.heap.size + 1) _ rfl (row_set (row_set (row_set cV.out 0 (.int .i64 0)) 1 (.int .i64 0)) 2 (.string ⟨#[]⟩)) rfl) rfl ⟨by rw [H.out]; rfl, ?_⟩
  exact ((BV.out.setCell hge _).setCell hge _).setCell hge _
set_option maxHeartbeats 2000000 in
theorem pd_value (ex : Array Value) (L c i : Nat) (a : Option Addr) (l : List Tk) (w : World) (h : RdSt 37 ex w L a c l i) (hl : TkG l) :
    Calls Tryz.prog 124 #[.pointer (some ⟨L, 0, none⟩)] w (ReadP vaV ex L a c l (pVal (l.drop i)) w) := by
  have HLT : Hid (valB (tokVa (nxT l i)) = true → i < l.length) := val_lt
  have HLN : Hid (l.length ≤ 1048576) := hl.len
  have HBD : Hid ((tokVa (nxT l i)).t.size ≤ maxLen) := by
    refine tokVa_bd ?_
    by_cases hi : i < l.length
    · exact Nat.le_trans (hl.bd _ (nx_mem hi)) (by decide)
    · rw [nx_end (by omega)]; exact Nat.zero_le _
  obtain ⟨P, HP⟩ : ∃ P, Hid (P = pVal (l.drop i)) := ⟨_, rfl⟩
  rw [← HP.out]
  rw [pVal_at hl] at HP
  obtain ⟨V, hV⟩ : ∃ V, V = w.alloc (.cells #[.int .i64 0, .int .i64 0, .string ⟨#[]⟩] 101) := ⟨_, rfl⟩
  have BV : Below w.heap.size w V := by rw [hV]; exact (Below.refl _ _).alloc (Nat.le_refl _) _
  have cV : V.heap[w.heap.size]? = some (.cells #[.int .i64 0, .int .i64 0, .string ⟨#[]⟩] 101 (0, 0)) := by rw [hV]; exact heap_alloc_new _ _
  have zV : w.heap.size < V.heap.size := by rw [hV]; simp
  have hLw := h.lt
  have HS : Hid (RdSt 37 ex V L a c l i) := h.below BV
  have HQ : Hid _ := rd_next 37 ex L c i a l V HS.out
  have GV : Hid (w.grownBy V (some L)) := grown_below (grown_refl w _) BV
  have HCV : Hid _ := cV
  obtain ⟨v, hv⟩ : ∃ v, v = tokVa (nxT l i) := ⟨_, rfl⟩
  rw [← hv] at HLT HBD HP
  have HT : Hid (∀ W, Calls Tryz.prog 132 #[.agg #[.int .i64 (nxT l i).k, .int .i64 (nxT l i).n, .string (nxT l i).t]] W fun e w' => e = .returned (vaV v) ∧ Below W.heap.size W w') := by rw [hv]; exact fun W => impl_tokVa (nxT l i) W
  clear h BV cV hv hl
  generalize nxT l i = t at *
  go_enter Tryz.func124, Tryz.ntmps124
  go_upto_region 1 with fail
  rw [← hV]
  clear hV
  go_wp2_with fail
  refine Calls.mono HQ.out ?_
  rintro e w1 ⟨rfl, b1⟩
  have S1 : Hid (RdSt 37 ex w1 L a c l i) := HS.out.below b1
  have G1 : Hid (w.grownBy w1 (some L)) := grown_below GV.out b1
  have C1 : Hid (w1.heap[w.heap.size]? = _) := (b1.block _ zV).trans HCV.out
  have z1 := b1.size
  clear b1 HQ HS GV HCV
  go_wp2_with fail
  refine Calls.mono (HT.out _) ?_
  rintro e w2 ⟨rfl, b2⟩
  unfold vaV
  obtain ⟨U, hU⟩ : ∃ U, U = w2.alloc (.cells #[.int .i64 v.k, .int .i64 v.n, .string v.t] 101) := ⟨_, rfl⟩
  have BU : Below w2.heap.size w2 U := by rw [hU]; exact (Below.refl _ _).alloc (Nat.le_refl _) _
  have CU : Hid (U.heap[w2.heap.size]? = some (.cells #[.int .i64 v.k, .int .i64 v.n, .string v.t] 101 (0, 0))) := by rw [Hid, hU]; exact heap_alloc_new _ _
  have zU : w2.heap.size < U.heap.size := by rw [hU]; simp
  have z2 := b2.size
  have b3 : Below w1.heap.size w1 U := b2.trans (BU.mono z2)
  have SU : Hid (RdSt 37 ex U L a c l i) := S1.out.below b3
  have GU : Hid (w.grownBy U (some L)) := grown_below G1.out b3
  have RU : Hid (U.heap[w.heap.size]? = _) := (b3.block _ (by omega)).trans C1.out
  clear b2 BU b3 HT S1 G1 C1
  go_upto_region 2 with fail
  rw [← hU]
  clear hU
  have y3 := fun o => row_cell CU.out o
  have HQ : Hid _ := impl_val v U HBD.out
  go_wp2_with fail
  refine Calls.mono HQ.out ?_
  rintro e w3 ⟨rfl, b3⟩
  have S3 : Hid (RdSt 37 ex w3 L a c l i) := SU.out.below b3
  have G3 : Hid (w.grownBy w3 (some L)) := grown_below GU.out b3
  have R3 : Hid (w3.heap[w.heap.size]? = some (.cells #[.int .i64 0, .int .i64 0, .string ⟨#[]⟩] 101 (0, 0))) := (b3.block _ (by omega)).trans RU.out
  have C3 : Hid (w3.heap[w2.heap.size]? = some (.cells #[.int .i64 v.k, .int .i64 v.n, .string v.t] 101 (0, 0))) := (b3.block _ zU).trans CU.out
  clear b3 HQ SU GU RU CU y3
  cases hb : valB v with
  | false =>
    have HE : Hid (P = none) := by rw [Hid, HP.out, if_neg (by rw [hb]; simp)]
    clear HP HLT
    go_wp2_with fail
    exact ⟨rfl, .inr ⟨HE.out, rfl⟩, G3.out⟩
  | true =>
    have hlt := HLT.out hb
    have HE : Hid (P = some (v, l.drop (i + 1))) := by rw [Hid, HP.out, if_pos hb]
    clear hb HLT HP
    have c1 := S3.out.c1
    have f1 := S3.out.f1
    obtain ⟨X, hX⟩ : ∃ X : World, X = w3.setCell ⟨L, 1, none⟩ (.int .i64 ((i : Int) + 1)) := ⟨_, rfl⟩
    have SX : Hid (RdSt 37 ex X L a c l (i + 1)) := by
      have := S3.out.set (j := i + 1) (by omega)
      rw [Hid, hX, show (i : Int) + 1 = ((i + 1 : Nat) : Int) by omega]; exact this
    have GX : Hid (w.grownBy X (some L)) := by rw [Hid, hX]; exact grown_set G3.out _ _
    have RX : Hid (X.heap[w.heap.size]? = some (.cells #[.int .i64 0, .int .i64 0, .string ⟨#[]⟩] 101 (0, 0))) := by rw [Hid, hX]; exact (heap_setCell_other _ _ _ _ (by show w.heap.size ≠ L; omega)).trans R3.out
    have CX : Hid (X.heap[w2.heap.size]? = some (.cells #[.int .i64 v.k, .int .i64 v.n, .string v.t] 101 (0, 0))) := by rw [Hid, hX]; exact (heap_setCell_other _ _ _ _ (by show w2.heap.size ≠ L; omega)).trans C3.out
    clear S3 G3 R3 C3
    have hi64 : (i : Int) + 1 ≤ 9223372036854775807 := by have := HLN.out; omega
    go_upto_region 5 with fail
    rw [← hX]
    clear hX c1 f1 hi64
    have y3 := fun o => row_cell CX.out o
    have fr := fun o => row_frozen RX.out o
    have xq := fun o => row_cell RX.out o
    go_wp2_with fail
    refine bodyPost_ret (v := .agg #[.int .i64 v.k, .int .i64 v.n, .string v.t]) (results_value _ _ w.heap.size _ rfl (row_set (row_set (row_set RX.out 0 (.int .i64 v.k)) 1 (.int .i64 v.n)) 2 (.string v.t)) rfl) rfl ⟨.inl ⟨v, i + 1, HE.out, rfl, ?_⟩, ?_⟩
    · refine SX.out.keep fun g hg => ?_
      rw [heap_setCell_other _ _ _ _ (by show g ≠ w.heap.size; omega), heap_setCell_other _ _ _ _ (by show g ≠ w.heap.size; omega), heap_setCell_other _ _ _ _ (by show g ≠ w.heap.size; omega)]
    · exact grown_new (grown_new (grown_new GX.out (Nat.le_refl _) _) (Nat.le_refl _) _) (Nat.le_refl _) _
end Go.Proofs.YtlilfbcngncllaaGreatDoor
