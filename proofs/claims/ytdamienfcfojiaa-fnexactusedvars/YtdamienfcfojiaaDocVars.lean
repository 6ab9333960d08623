/- The variables of a document, each once; lists of names in memory. -/
import Derived.Test.YtdamienfcfojiaaDocMarkTwo
namespace Go.Proofs.Ytdamienfcfojiaa
open Go.ChangeShapes Go.WideShapes Go.ChangeAt Go.RowKit
set_option linter.unusedVariables false

def hasS (ns : List ByteArray) (s : ByteArray) : Bool := ns.any fun t => t.toList == s.toList
def addV (ns : List ByteArray) (s : ByteArray) : List ByteArray := if hasS ns s = true then ns else ns ++ [s]
def addAll (ns l : List ByteArray) : List ByteArray := l.foldl addV ns
def vaVar (v : Va) : List ByteArray := if (v.k == 4) = true then [v.t] else []
def varsA (l : List Ar) : List ByteArray := l.flatMap fun x => vaVar x.v
def varsD (l : List Di) : List ByteArray := l.flatMap fun x => vaVar x.v
def varsH (h : Hd) : List ByteArray := varsA h.args ++ varsD h.dirs
def varsS : Sels → List ByteArray
  | .nil => []
  | .cons h sub rest => varsH h ++ (varsS sub ++ varsS rest)
def varsL (l : List De) : List ByteArray := l.flatMap fun x => varsS x.sels
theorem addAll_append (ns a b : List ByteArray) : addAll ns (a ++ b) = addAll (addAll ns a) b := by unfold addAll; rw [List.foldl_append]
theorem hasS_add (ns : List ByteArray) (x s : ByteArray) : hasS (addV ns x) s = (hasS ns s || (x.toList == s.toList)) := by
  unfold addV
  cases hh : hasS ns x
  · simp only [Bool.false_eq_true, if_false]
    unfold hasS; rw [List.any_append]; simp
  · simp only [if_true]
    cases he : (x.toList == s.toList)
    · simp
    · rw [beq_iff_eq] at he
      unfold hasS at hh ⊢
      rw [he] at hh
      simp [hh]
theorem hasS_all : ∀ (l ns : List ByteArray) (s : ByteArray), hasS (addAll ns l) s = (hasS ns s || hasS l s)
  | [], ns, s => by simp [addAll, hasS]
  | x :: l, ns, s => by
    have h1 := hasS_all l (addV ns x) s
    have h2 := hasS_add ns x s
    have h3 : hasS (x :: l) s = ((x.toList == s.toList) || hasS l s) := by simp [hasS]
    show hasS (addAll (addV ns x) l) s = _
    rw [h1, h2, h3, Bool.or_assoc]
theorem addAll_snoc (ns l : List ByteArray) (x : ByteArray) : addAll ns (l ++ [x]) = addV (addAll ns l) x := by rw [addAll_append]; rfl
/-- What is added each once is added once. -/
theorem addAll_once (ns : List ByteArray) : ∀ (n : Nat) (l : List ByteArray), l.length = n → addAll ns (addAll [] l) = addAll ns l
  | 0, l, h => by rw [List.length_eq_zero_iff.1 h]; rfl
  | n + 1, l, h => by
    have hne : l ≠ [] := by intro e; rw [e] at h; simp at h
    rw [← List.dropLast_concat_getLast hne]
    have ih := addAll_once ns n l.dropLast (by simp [h])
    rw [addAll_snoc, addAll_snoc]
    by_cases hh : hasS (addAll [] l.dropLast) (l.getLast hne) = true
    · have h1 : addV (addAll [] l.dropLast) (l.getLast hne) = addAll [] l.dropLast := by unfold addV; rw [if_pos hh]
      rw [h1, ih]
      rw [hasS_all] at hh
      have h2 : hasS (addAll ns l.dropLast) (l.getLast hne) = true := by
        rw [hasS_all]
        simp only [hasS, List.any_nil, Bool.false_or] at hh
        simp only [hasS, hh, Bool.or_true]
      unfold addV; rw [if_pos h2]
    · have h1 : addV (addAll [] l.dropLast) (l.getLast hne) = addAll [] l.dropLast ++ [l.getLast hne] := by unfold addV; rw [if_neg hh]
      rw [h1, addAll_snoc, ih]
theorem addAll_twice (ns l : List ByteArray) : addAll ns (addAll [] l) = addAll ns l := addAll_once ns l.length l rfl
theorem addV_len (ns : List ByteArray) (s : ByteArray) : (addV ns s).length ≤ ns.length + 1 := by unfold addV; split <;> simp
theorem addAll_len : ∀ (l ns : List ByteArray), (addAll ns l).length ≤ ns.length + l.length
  | [], ns => by simp [addAll]
  | x :: l, ns => by
    have h1 := addAll_len l (addV ns x)
    have h2 := addV_len ns x
    show (addAll (addV ns x) l).length ≤ _
    simp only [List.length_cons]; omega
theorem vaVar_len (v : Va) : (vaVar v).length ≤ 1 := by unfold vaVar; split <;> simp
theorem varsA_len : ∀ l : List Ar, (varsA l).length ≤ l.length
  | [] => Nat.le_refl _
  | x :: l => by have := varsA_len l; have := vaVar_len x.v; unfold varsA at *; rw [List.flatMap_cons, List.length_append, List.length_cons]; omega
theorem varsD_len : ∀ l : List Di, (varsD l).length ≤ l.length
  | [] => Nat.le_refl _
  | x :: l => by have := varsD_len l; have := vaVar_len x.v; unfold varsD at *; rw [List.flatMap_cons, List.length_append, List.length_cons]; omega
theorem varsA_take {l : List Ar} {k : Nat} (hk : k < l.length) : varsA (l.take (k + 1)) = varsA (l.take k) ++ vaVar l[k].v := by
  unfold varsA; rw [List.take_succ_eq_append_getElem hk, List.flatMap_append]; simp
theorem varsD_take {l : List Di} {k : Nat} (hk : k < l.length) : varsD (l.take (k + 1)) = varsD (l.take k) ++ vaVar l[k].v := by
  unfold varsD; rw [List.take_succ_eq_append_getElem hk, List.flatMap_append]; simp
theorem varsL_take {l : List De} {k : Nat} (hk : k < l.length) : varsL (l.take (k + 1)) = varsL (l.take k) ++ varsS l[k].sels := by
  unfold varsL; rw [List.take_succ_eq_append_getElem hk, List.flatMap_append]; simp
/-- How many there are at most. -/
def vwS : Sels → Nat
  | .nil => 0
  | .cons h sub rest => h.args.length + h.dirs.length + vwS sub + vwS rest
theorem varsS_len : ∀ l : Sels, (varsS l).length ≤ vwS l
  | .nil => Nat.le_refl _
  | .cons h sub rest => by
    have := varsS_len sub; have := varsS_len rest; have := varsA_len h.args; have := varsD_len h.dirs
    simp only [varsS, varsH, List.length_append, vwS]; omega
def VsBd (m : Nat) (l : List ByteArray) : Prop := ∀ s ∈ l, s.size ≤ m
theorem VsBd.addV {m : Nat} {ns : List ByteArray} {s : ByteArray} (h : VsBd m ns) (hs : s.size ≤ m) : VsBd m (addV ns s) := by
  unfold Go.Proofs.Ytdamienfcfojiaa.addV
  split
  · exact h
  · intro t ht
    rcases List.mem_append.1 ht with ht | ht
    · exact h t ht
    · simp only [List.mem_singleton] at ht; subst ht; exact hs
theorem VsBd.addAll {m : Nat} : ∀ {l ns : List ByteArray}, VsBd m ns → VsBd m l → VsBd m (addAll ns l)
  | [], ns, h, _ => h
  | x :: l, ns, h, hl => VsBd.addAll (l := l) (ns := Go.Proofs.Ytdamienfcfojiaa.addV ns x) (h.addV (hl x (by simp))) fun t ht => hl t (by simp [ht])

def StAt (rd : Nat → Option Value) (o : Nat) (s : ByteArray) : Prop := rd o = some (.string s)
abbrev StRow := Row StAt 1
abbrev StOwn := OwnR StAt 1 9
theorem StRow.cell {lo hi : Nat} {w : World} {a : Option Addr} {l : List ByteArray} (h : StRow lo hi w a l) (k : Nat) (hk : k < l.length) : ∃ b o, a = some ⟨b, o, none⟩ ∧ lo ≤ b ∧ b < hi ∧ w.cell? ⟨b, o + k, none⟩ = some (.string l[k]) := by
  obtain ⟨b, o, h1, h2, h3, h4⟩ := Row.at_ h k hk
  exact ⟨b, o, h1, h2, h3, by simpa [StAt, rdOf] using h4⟩
def stV (l : List ByteArray) : List Value := l.map Value.string
theorem stV_len (l : List ByteArray) : (stV l).length = l.length := by simp [stV]
/-- Names that a call owns, by append. -/
theorem StOwn.of {w : World} {base : Nat} {v : Value} {l : List ByteArray} (h : w.ownsRow base 9 1 v l.length (stV l)) : ∃ a c, v = .slice a l.length c ∧ StOwn base w.heap.size w a l := by
  rcases h.2 with ⟨rfl, h0⟩ | ⟨g, cap, cur, rfl, q1, q2, q3, q4, q5, q6⟩
  · exact ⟨none, 0, by rw [h0], .inl (List.length_eq_zero_iff.1 h0)⟩
  · refine ⟨_, _, rfl, .inr ⟨g, cur, rfl, q1, (Array.getElem?_eq_some_iff.1 q2).1, q2, by omega, fun i s hs => ?_⟩⟩
    have hi := (List.getElem?_eq_some_iff.1 hs).1
    have e : (stV l)[i]? = some (.string s) := by simp [stV, hs]
    rw [← q6, List.getElem?_take, if_pos (by omega)] at e
    simpa [StAt] using e
end Go.Proofs.Ytdamienfcfojiaa
