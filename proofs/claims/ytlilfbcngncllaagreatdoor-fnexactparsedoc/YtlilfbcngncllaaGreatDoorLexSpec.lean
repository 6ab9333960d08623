/- Reading a text into tokens: that the specification's small texts compute what they should. -/
import Derived.Test.YtlilfbcngncllaaGreatDoorNameOK
import Derived.Lib.ItoaNum
import Derived.Lib.ItoaLen
import Derived.Lib.AtoiAll
import Derived.Lib.AtoiTie
import Derived.Deep.RegionWith
import Derived.WalkSpells
namespace Go.Proofs.YtlilfbcngncllaaGreatDoor
open Go.ChangeShapes Go.WideShapes Go.ChangeAt Go.RowKit
set_option linter.unusedVariables false

def intB (n : Int) : Bool := decide (-2147483648 ≤ n ∧ n ≤ 2147483647)
set_option maxHeartbeats 400000 in
theorem spec_isInt (n : Int) (w : World) : Calls Tryz.prog 82 #[.int .i64 n] w fun e w' => e = .returned (.bool (intB n)) ∧ w' = w := by
  go_enter Tryz.func82, Tryz.ntmps82
  go_wp2
  all_goals (go_ret; exact ⟨ret_bool (by unfold intB; rw [Bool.eq_iff_iff]; simp; omega), rfl⟩)
set_option maxHeartbeats 400000 in
theorem impl_isInt (n : Int) (w : World) : Calls Tryz.prog 90 #[.int .i64 n] w fun e w' => e = .returned (.bool (intB n)) ∧ w' = w := by
  go_enter Tryz.func90, Tryz.ntmps90
  go_wp2
  all_goals (go_ret; exact ⟨ret_bool (by unfold intB; rw [Bool.eq_iff_iff]; simp; omega), rfl⟩)
theorem spec_nameOK (s : ByteArray) (w : World) (hs : s.size ≤ maxLen) :
    Calls Tryz.prog 38 #[.string s] w fun e w' => e = .returned (.bool (nameB s)) ∧ w' = w := by
  go_enter Tryz.func38, Tryz.ntmps38
  go_wp2_with fail
  refine (word_any s _ hs).mono ?_
  rintro e w1 ⟨rfl, rfl⟩
  go_wp2_with fail
  go_ret
  exact ⟨rfl, rfl⟩
theorem impl_nameOK (s : ByteArray) (w : World) (hs : s.size ≤ maxLen) :
    Calls Tryz.prog 48 #[.string s] w fun e w' => e = .returned (.bool (nameB s)) ∧ Below w.heap.size w w' := by
  refine (nameOK_any s w hs).mono ?_
  rintro e w1 ⟨rfl, hw⟩
  refine ⟨rfl, ?_⟩
  rcases hw with rfl | ⟨pos, rfl⟩
  · exact Below.refl _ _
  · exact (Below.refl _ _).alloc (Nat.le_refl _) _

theorem bcell {W w1 : World} (hb : Below W.heap.size W w1) : (∀ b o, b < W.heap.size → w1.cell? ⟨b, o, none⟩ = W.cell? ⟨b, o, none⟩) ∧ (∀ b o, b < W.heap.size → w1.frozen? ⟨b, o, none⟩ = W.frozen? ⟨b, o, none⟩) :=
  ⟨fun b o h => hb.cell (p := ⟨b, o, none⟩) h, fun b o h => hb.frozen (p := ⟨b, o, none⟩) h⟩

theorem ret_int {k : IntKind} {a b : Int} (h : a = b) : Ending.returned (.int k a) = .returned (.int k b) := by rw [h]
end Go.Proofs.YtlilfbcngncllaaGreatDoor
namespace Go.Proofs.YtlilfbcngncllaaGreatDoor
open Go.ChangeShapes Go.WideShapes Go.ChangeAt Go.RowKit
set_option linter.unusedVariables false

def punctB (l : List UInt8) : Bool := l == [123] || l == [125] || l == [40] || l == [41] || l == [91] || l == [93] || l == [58] || l == [33] || l == [64] || l == [46, 46, 46]

set_option maxHeartbeats 1000000 in
theorem spec_punct (s : ByteArray) (w : World) : Calls Tryz.prog 59 #[.string s] w fun e w' => e = .returned (.bool (punctB s.toList)) ∧ w' = w := by
  go_enter Tryz.func59, Tryz.ntmps59
  go_wp2
  all_goals (go_ret; exact ⟨ret_bool (by simp_all [punctB]), rfl⟩)
set_option maxHeartbeats 1000000 in
theorem impl_punct (s : ByteArray) (w : World) : Calls Tryz.prog 91 #[.string s] w fun e w' => e = .returned (.bool (punctB s.toList)) ∧ w' = w := by
  go_enter Tryz.func91, Tryz.ntmps91
  go_wp2
  all_goals (go_ret; exact ⟨ret_bool (by simp_all [punctB]), rfl⟩)

def tokB (a b : Int) (s : ByteArray) : Bool :=
  if a = 1 ∨ a = 3 then (b == 0) && nameB s
  else if a = 2 then intB b && s.toList.isEmpty
  else if a = 4 then (b == 0) && punctB s.toList
  else false

def szT (n k : Int) : Int := if n - k < 0 then -1 else n - k
set_option maxHeartbeats 1000000 in
theorem impl_tokOK (a b : Int) (s : ByteArray) (w : World) (hs : s.size ≤ maxLen) :
    Calls Tryz.prog 71 #[.agg #[.int .i64 a, .int .i64 b, .string s]] w fun e w' => e = .returned (.bool (tokB a b s)) ∧ Below w.heap.size w w' := by
  have k0 : (s.toList == []) = s.toList.isEmpty := by cases s.toList <;> rfl
  by_cases hn : a = 1 ∨ a = 3
  · have H : Hid (tokB a b s = ((b == 0) && nameB s)) := by unfold Hid tokB; rw [if_pos hn]
    cases hb : (b == 0)
    · have H2 : Hid (false = tokB a b s) := by rw [Hid, H.out, hb]; rfl
      rcases hn with rfl | rfl
      all_goals
        go_enter Tryz.func71, Tryz.ntmps71
        go_wp2_with (go_at_call 48; refine (impl_nameOK _ _ hs).mono ?_; rintro e w1 ⟨rfl, hb1⟩)
        go_ret
        exact ⟨ret_bool H2.out, (Below.refl _ _).alloc (Nat.le_refl _) _⟩
    · have H2 : Hid (nameB s = tokB a b s) := by rw [Hid, H.out, hb]; rfl
      rcases hn with rfl | rfl
      all_goals
        go_enter Tryz.func71, Tryz.ntmps71
        go_wp2_with (go_at_call 48; refine (impl_nameOK _ _ hs).mono ?_; rintro e w1 ⟨rfl, hb1⟩)
        go_ret
        exact ⟨ret_bool H2.out, (((Below.refl _ _).alloc (Nat.le_refl _) _).trans (hb1.mono (by simp)))⟩
  have g1 : (a == 1) = false := by rw [beq_eq_false_iff_ne]; omega
  have g3 : (a == 3) = false := by rw [beq_eq_false_iff_ne]; omega
  by_cases h2 : a = 2
  · have H : Hid (tokB a b s = (intB b && s.toList.isEmpty)) := by unfold Hid tokB; rw [if_neg hn, if_pos h2]
    subst h2
    clear hn g1 g3
    cases hb : s.toList.isEmpty
    · have hz : ¬ s.toList = [] := by intro h; rw [h] at hb; cases hb
      have H2 : Hid (false = tokB 2 b s) := by rw [Hid, H.out, hb]; simp
      go_enter Tryz.func71, Tryz.ntmps71
      go_wp2_with (go_at_call 90; refine (impl_isInt _ _).mono ?_; rintro e w1 ⟨rfl, rfl⟩)
      go_ret
      exact ⟨ret_bool H2.out, (Below.refl _ _).alloc (Nat.le_refl _) _⟩
    · have hz : s.toList = [] := by cases h : s.toList with | nil => rfl | cons a l => rw [h] at hb; cases hb
      have H2 : Hid (intB b = tokB 2 b s) := by rw [Hid, H.out, hb]; simp
      go_enter Tryz.func71, Tryz.ntmps71
      go_wp2_with (go_at_call 90; refine (impl_isInt _ _).mono ?_; rintro e w1 ⟨rfl, rfl⟩)
      go_ret
      exact ⟨ret_bool H2.out, (Below.refl _ _).alloc (Nat.le_refl _) _⟩
  have g2 : (a == 2) = false := by rw [beq_eq_false_iff_ne]; omega
  by_cases h4 : a = 4
  · have H : Hid (tokB a b s = ((b == 0) && punctB s.toList)) := by unfold Hid tokB; rw [if_neg hn, if_neg h2, if_pos h4]
    subst h4
    clear hn g1 g3 g2 h2
    cases hb : (b == 0)
    · have H2 : Hid (false = tokB 4 b s) := by rw [Hid, H.out, hb]; rfl
      go_enter Tryz.func71, Tryz.ntmps71
      go_wp2_with (go_at_call 91; refine (impl_punct _ _).mono ?_; rintro e w1 ⟨rfl, rfl⟩)
      go_ret
      exact ⟨ret_bool H2.out, (Below.refl _ _).alloc (Nat.le_refl _) _⟩
    · have H2 : Hid (punctB s.toList = tokB 4 b s) := by rw [Hid, H.out, hb]; rfl
      go_enter Tryz.func71, Tryz.ntmps71
      go_wp2_with (go_at_call 91; refine (impl_punct _ _).mono ?_; rintro e w1 ⟨rfl, rfl⟩)
      go_ret
      exact ⟨ret_bool H2.out, (Below.refl _ _).alloc (Nat.le_refl _) _⟩
  have g4 : (a == 4) = false := by rw [beq_eq_false_iff_ne]; omega
  have H2 : Hid (false = tokB a b s) := by unfold Hid tokB; rw [if_neg hn, if_neg h2, if_neg h4]
  clear hn h2 h4
  go_enter Tryz.func71, Tryz.ntmps71
  go_wp2_with fail
  go_ret
  exact ⟨ret_bool H2.out, (Below.refl _ _).alloc (Nat.le_refl _) _⟩
end Go.Proofs.YtlilfbcngncllaaGreatDoor
namespace Go.Proofs.YtlilfbcngncllaaGreatDoor
set_option linter.unusedVariables false

structure Tk where
  k : Int
  n : Int
  t : ByteArray

def blB (c : Int) : Bool := decide (c = 32) || decide (c = 9) || decide (c = 10) || decide (c = 13) || decide (c = 44)

/-- Where blanks and remarks end. -/
def pbF (s : ByteArray) : Nat → Nat → Bool → Nat
  | 0, _, _ => s.size
  | f + 1, i, true => pbF s f (i + 1) (decide (bt s i ≠ 10))
  | f + 1, i, false => if bt s i = 35 then pbF s f (i + 1) true else if blB (bt s i) = true then pbF s f (i + 1) false else i
def pb (s : ByteArray) (i : Nat) (r : Bool) : Nat := pbF s (s.size - i) i r
theorem pb_end {s : ByteArray} {i : Nat} (h : ¬ i < s.size) (r : Bool) : pb s i r = s.size := by
  unfold pb; rw [show s.size - i = 0 by omega]; rfl
theorem pb_succ {s : ByteArray} {i : Nat} (h : i < s.size) : ∃ f, s.size - i = f + 1 ∧ s.size - (i + 1) = f := ⟨s.size - i - 1, by omega, by omega⟩
theorem pb_rem {s : ByteArray} {i : Nat} (h : i < s.size) : pb s i true = pb s (i + 1) (decide (bt s i ≠ 10)) := by
  obtain ⟨f, h1, h2⟩ := pb_succ h
  unfold pb; rw [h1, h2]; rfl
theorem pb_hash {s : ByteArray} {i : Nat} (h : i < s.size) (hc : bt s i = 35) : pb s i false = pb s (i + 1) true := by
  obtain ⟨f, h1, h2⟩ := pb_succ h
  unfold pb; rw [h1, h2, pbF, if_pos hc]
theorem pb_blank {s : ByteArray} {i : Nat} (h : i < s.size) (hc : bt s i ≠ 35) (hb : blB (bt s i) = true) : pb s i false = pb s (i + 1) false := by
  obtain ⟨f, h1, h2⟩ := pb_succ h
  unfold pb; rw [h1, h2, pbF, if_neg hc, if_pos hb]
theorem pb_tok {s : ByteArray} {i : Nat} (h : i < s.size) (hc : bt s i ≠ 35) (hb : blB (bt s i) = false) : pb s i false = i := by
  obtain ⟨f, h1, h2⟩ := pb_succ h
  unfold pb; rw [h1, pbF, if_neg hc, if_neg (by rw [hb]; decide)]
theorem pbF_bounds (s : ByteArray) : ∀ f i r, i + f = s.size → i ≤ pbF s f i r ∧ pbF s f i r ≤ s.size
  | 0, i, r, h => by unfold pbF; omega
  | f + 1, i, true, h => by
    have := pbF_bounds s f (i + 1) (decide (bt s i ≠ 10)) (by omega)
    unfold pbF; omega
  | f + 1, i, false, h => by
    unfold pbF
    split
    · have := pbF_bounds s f (i + 1) true (by omega); omega
    · split
      · have := pbF_bounds s f (i + 1) false (by omega); omega
      · omega
theorem pb_bounds {s : ByteArray} {i : Nat} (h : i ≤ s.size) (r : Bool) : i ≤ pb s i r ∧ pb s i r ≤ s.size := pbF_bounds s _ i r (by omega)

/-- Where letters and digits end. -/
def wdB (c : Int) : Bool := letB c || digB c
def weF (s : ByteArray) : Nat → Nat → Nat
  | 0, i => i
  | f + 1, i => if wdB (bt s i) = true then weF s f (i + 1) else i
def we (s : ByteArray) (i : Nat) : Nat := weF s (s.size - i) i
theorem we_end {s : ByteArray} {i : Nat} (h : ¬ i < s.size) : we s i = i := by
  unfold we; rw [show s.size - i = 0 by omega]; rfl
theorem we_step {s : ByteArray} {i : Nat} (h : i < s.size) (hc : wdB (bt s i) = true) : we s i = we s (i + 1) := by
  obtain ⟨f, h1, h2⟩ := pb_succ h
  unfold we; rw [h1, h2, weF, if_pos hc]
theorem we_stop {s : ByteArray} {i : Nat} (h : i < s.size) (hc : wdB (bt s i) = false) : we s i = i := by
  obtain ⟨f, h1, h2⟩ := pb_succ h
  unfold we; rw [h1, weF, if_neg (by rw [hc]; decide)]
theorem weF_bounds (s : ByteArray) : ∀ f i, i + f = s.size → i ≤ weF s f i ∧ weF s f i ≤ s.size
  | 0, i, h => by unfold weF; omega
  | f + 1, i, h => by
    unfold weF
    split
    · have := weF_bounds s f (i + 1) (by omega); omega
    · omega
theorem we_bounds {s : ByteArray} {i : Nat} (h : i ≤ s.size) : i ≤ we s i ∧ we s i ≤ s.size := weF_bounds s _ i (by omega)

/-- The number that a text tells, by its very digits, of 32 bits. -/
def numT (l : List UInt8) : Option Int := match Lib.atoiAll l with
  | .ok n => if Lib.itoa n = l ∧ intB n = true then some n else none
  | _ => none
theorem numT_some {l : List UInt8} {n : Int} (h : numT l = some n) : Lib.itoa n = l ∧ intB n = true := by
  unfold numT at h
  split at h
  · split at h
    · simp only [Option.some.injEq] at h; subst h; assumption
    · cases h
  · cases h

theorem dig_val (d : Nat) (h : d < 10) : Lib.digitVal (UInt8.ofNat (48 + d)) = some d := by
  have e : (UInt8.ofNat (48 + d)).toNat = 48 + d := by simp; omega
  unfold Lib.digitVal
  rw [e]
  simp
  omega
theorem decFrom_append (a b : List UInt8) : ∀ acc, Lib.decFrom acc (a ++ b) = (Lib.decFrom acc a).bind fun m => Lib.decFrom m b := by
  induction a with
  | nil => intro acc; rfl
  | cons x r ih =>
    intro acc
    simp only [List.cons_append, Lib.decFrom]
    cases Lib.digitVal x with
    | none => rfl
    | some d => exact ih _
theorem dec_one (acc d : Nat) (h : d < 10) : Lib.decFrom acc [UInt8.ofNat (48 + d)] = some (acc * 10 + d) := by
  simp only [Lib.decFrom, dig_val d h]
theorem decFrom_digits (u : Nat) : Lib.decFrom 0 (Lib.decDigits u) = some u := by
  induction u using Nat.strongRecOn with
  | _ u ih =>
    rw [Lib.decDigits.eq_def]
    split
    · rename_i h
      rw [dec_one 0 u h]; simp
    · rename_i h
      rw [decFrom_append, ih (u / 10) (by omega), Option.bind_some, dec_one _ _ (Nat.mod_lt _ (by decide))]
      simp only [Option.some.injEq]; omega
theorem digits_ne (u : Nat) : Lib.decDigits u ≠ [] := by
  intro h
  have := Lib.decDigits_length u
  have h2 := Lib.nDigits_pos u
  rw [h] at this
  simp at this
  omega
theorem digits_dig (u : Nat) : ∀ c ∈ Lib.decDigits u, 48 ≤ c.toNat ∧ c.toNat ≤ 57 := by
  induction u using Nat.strongRecOn with
  | _ u ih =>
    rw [Lib.decDigits.eq_def]
    split
    · rename_i h
      intro c hc
      simp only [List.mem_singleton] at hc
      subst hc
      simp; omega
    · rename_i h
      intro c hc
      rcases List.mem_append.1 hc with hc | hc
      · exact ih (u / 10) (by omega) c hc
      · simp only [List.mem_singleton] at hc
        subst hc
        simp; omega
/-- A number of 31 bits has at most 10 digits. -/
theorem digits_len10 (u : Nat) (h : u ≤ 2147483648) : (Lib.decDigits u).length ≤ 10 := by
  rw [Lib.decDigits_length]
  have h1 : u / 10 / 10 / 10 / 10 / 10 / 10 / 10 / 10 / 10 < 10 := by omega
  have step : ∀ (k v : Nat), Lib.nDigits (v / 10) ≤ k → Lib.nDigits v ≤ k + 1 := by
    intro k v hv
    by_cases hb : v < 10
    · rw [Lib.nDigits_small hb]; omega
    · rw [Lib.nDigits_big hb]; omega
  exact step 9 _ (step 8 _ (step 7 _ (step 6 _ (step 5 _ (step 4 _ (step 3 _ (step 2 _ (step 1 _ (by rw [Lib.nDigits_small h1]; omega)))))))))
/-- The first digit is no nought, but of nought itself. -/
theorem digits_head (u : Nat) : ∀ r, Lib.decDigits u = 48 :: r → u = 0 := by
  induction u using Nat.strongRecOn with
  | _ u ih =>
    intro r hr
    rw [Lib.decDigits.eq_def] at hr
    split at hr
    · rename_i h
      simp only [List.cons.injEq] at hr
      have := congrArg UInt8.toNat hr.1
      simp at this
      omega
    · rename_i h
      cases hd : Lib.decDigits (u / 10) with
      | nil => exact absurd hd (digits_ne _)
      | cons c q =>
        rw [hd] at hr
        simp only [List.cons_append, List.cons.injEq] at hr
        have := ih (u / 10) (by omega) q (by rw [hd, hr.1])
        omega

/-- The specification's number of a text. -/
def numN (neg : Bool) (l : List UInt8) : Option Int :=
  if l = [] ∨ 18 < l.length ∨ (l.head? = some 48 ∧ (1 < l.length ∨ neg = true)) then none else (Lib.decFrom 0 l).map fun (m : Nat) => if neg then -(m : Int) else (m : Int)
def numF : List UInt8 → Option Int
  | [] => none
  | c :: r => if c = 45 then numN true r else numN false (c :: r)

theorem numN_digits (neg : Bool) (u : Nat) (h : u ≤ 2147483648) (h0 : neg = true → u ≠ 0) : numN neg (Lib.decDigits u) = some (if neg then -(u : Int) else (u : Int)) := by
  have hl := digits_len10 u h
  unfold numN
  rw [if_neg, decFrom_digits]
  · rfl
  rintro (h1 | h1 | ⟨h1, h2⟩)
  · exact digits_ne u h1
  · omega
  · cases hd : Lib.decDigits u with
    | nil => exact digits_ne u hd
    | cons c r =>
      rw [hd] at h1
      simp only [List.head?_cons, Option.some.injEq] at h1
      subst h1
      have hu := digits_head u r hd
      subst hu
      rcases h2 with h2 | h2
      · rw [Lib.decDigits_one (by decide)] at h2
        simp at h2
      · exact h0 h2 rfl
theorem itoa_numF (n : Int) (h : intB n = true) : numF (Lib.itoa n) = some n := by
  simp only [intB, decide_eq_true_eq] at h
  unfold Lib.itoa
  split
  · rename_i hn
    rw [numF, if_pos rfl, numN_digits true n.natAbs (by omega) (fun _ => by omega)]
    simp only [if_true, Option.some.injEq]; omega
  · rename_i hn
    cases hd : Lib.decDigits n.toNat with
    | nil => exact absurd hd (digits_ne _)
    | cons c r =>
      have hc := digits_dig n.toNat c (by rw [hd]; exact List.mem_cons_self)
      have hc2 : ¬ c = 45 := by intro hh; subst hh; simp at hc
      rw [numF, if_neg hc2, ← hd, numN_digits false n.toNat (by omega) (fun h => by cases h)]
      simp only [Bool.false_eq_true, if_false, Option.some.injEq]; omega
theorem itoa_atoi (n : Int) (h : intB n = true) : Lib.atoiAll (Lib.itoa n) = .ok n := by
  simp only [intB, decide_eq_true_eq] at h
  have key : ∀ u : Nat, Lib.decNat (Lib.decDigits u) = some u := by
    intro u
    unfold Lib.decNat
    rw [if_neg, decFrom_digits]
    intro he
    exact digits_ne u (by simpa using he)
  unfold Lib.itoa
  split
  · rename_i hn
    have hl := digits_len10 n.natAbs (by omega)
    rw [Lib.atoiAll_short _ (by simp; omega)]
    simp only [Lib.atoi, beq_self_eq_true, if_true, key, Option.map_some, Lib.NumEnd.ofOption]
    congr 1; omega
  · rename_i hn
    have hl := digits_len10 n.toNat (by omega)
    rw [Lib.atoiAll_short _ (by omega)]
    cases hd : Lib.decDigits n.toNat with
    | nil => exact absurd hd (digits_ne _)
    | cons c r =>
      have hc := digits_dig n.toNat c (by rw [hd]; exact List.mem_cons_self)
      have hc2 : (c == 45) = false := by rw [beq_eq_false_iff_ne]; intro hh; subst hh; simp at hc
      have hc3 : (c == 43) = false := by rw [beq_eq_false_iff_ne]; intro hh; subst hh; simp at hc
      simp only [Lib.atoi, hc2, hc3, Bool.false_eq_true, if_false]
      rw [← hd, key]
      simp only [Option.map_some, Lib.NumEnd.ofOption]
      congr 1; omega
theorem numT_itoa (n : Int) (h : intB n = true) : numT (Lib.itoa n) = some n := by
  unfold numT; rw [itoa_atoi n h]; simp [h]
/-- The two agree. -/
theorem numT_iff (l : List UInt8) (n : Int) : numT l = some n ↔ numF l = some n ∧ Lib.itoa n = l ∧ intB n = true := by
  constructor
  · intro h
    obtain ⟨h1, h2⟩ := numT_some h
    exact ⟨by rw [← h1]; exact itoa_numF n h2, h1, h2⟩
  · rintro ⟨_, h1, h2⟩
    rw [← h1]; exact numT_itoa n h2

/-- The token at a place, and where it ends. -/
def tokAt (s : ByteArray) (p : Nat) : Option (Tk × Nat) :=
  if bt s p = 36 then (if nameB (s.extract (p + 1) (we s (p + 1))) = true then some (⟨3, 0, s.extract (p + 1) (we s (p + 1))⟩, we s (p + 1)) else none)
  else if letB (bt s p) = true then (if nameB (s.extract p (we s p)) = true then some (⟨1, 0, s.extract p (we s p)⟩, we s p) else none)
  else if bt s p = 45 ∨ digB (bt s p) = true then ((numT (s.extract p (we s (p + 1))).toList).map fun n => (⟨2, n, ⟨#[]⟩⟩, we s (p + 1)))
  else if bt s p = 46 then (if p + 3 ≤ s.size ∧ (s.extract p (p + 3)).toList = [46, 46, 46] then some (⟨4, 0, ⟨#[46, 46, 46]⟩⟩, p + 3) else none)
  else (if punctB (s.extract p (p + 1)).toList = true then some (⟨4, 0, s.extract p (p + 1)⟩, p + 1) else none)
theorem we_letter {s : ByteArray} {p : Nat} (h : p < s.size) (hl : letB (bt s p) = true) : we s p = we s (p + 1) := we_step h (by unfold wdB; rw [hl]; rfl)
theorem tokAt_bounds {s : ByteArray} {p : Nat} {t : Tk} {e : Nat} (h : p < s.size) (ht : tokAt s p = some (t, e)) : p < e ∧ e ≤ s.size := by
  have hw := we_bounds (s := s) (i := p + 1) (by omega)
  unfold tokAt at ht
  split at ht
  · split at ht
    · simp only [Option.some.injEq, Prod.mk.injEq] at ht; omega
    · cases ht
  · split at ht
    · rename_i hl
      split at ht
      · have := we_letter h hl
        simp only [Option.some.injEq, Prod.mk.injEq] at ht; omega
      · cases ht
    · split at ht
      · obtain ⟨n, _, hn⟩ := Option.map_eq_some_iff.1 ht
        simp only [Prod.mk.injEq] at hn; omega
      · split at ht
        · split at ht
          · rename_i hh
            simp only [Option.some.injEq, Prod.mk.injEq] at ht; omega
          · cases ht
        · split at ht
          · simp only [Option.some.injEq, Prod.mk.injEq] at ht; omega
          · cases ht

/-- What is left of a text, read behind some tokens: all tokens and 0, or none and the code. -/
def lexF (s : ByteArray) : Nat → Nat → List Tk → List Tk × Int
  | 0, _, acc => (acc, 0)
  | f + 1, i, acc =>
    if pb s i false < s.size then (match tokAt s (pb s i false) with
      | none => ([], 3)
      | some (t, e) => if acc.length = 4000 then ([], 6) else lexF s f e (acc ++ [t]))
    else (acc, 0)
def lexR (s : ByteArray) (i : Nat) (acc : List Tk) : List Tk × Int := lexF s (s.size + 1 - i) i acc
theorem lexF_fuel (s : ByteArray) : ∀ f g i acc, i ≤ s.size → s.size < i + f → s.size < i + g → lexF s f i acc = lexF s g i acc
  | 0, _, i, acc, h, h1, _ => by omega
  | _ + 1, 0, i, acc, h, _, h1 => by omega
  | f + 1, g + 1, i, acc, h, h1, h2 => by
    have hb := pb_bounds h false
    unfold lexF
    split
    · rename_i hlt
      cases ht : tokAt s (pb s i false) with
      | none => rfl
      | some x =>
        obtain ⟨t, e⟩ := x
        have he := tokAt_bounds hlt ht
        simp only
        split
        · rfl
        · exact lexF_fuel s f g e _ (by omega) (by omega) (by omega)
    · rfl
theorem lexR_eq {s : ByteArray} {i : Nat} (h : i ≤ s.size) (acc : List Tk) : lexR s i acc =
    if pb s i false < s.size then (match tokAt s (pb s i false) with
      | none => ([], 3)
      | some (t, e) => if acc.length = 4000 then ([], 6) else lexR s e (acc ++ [t]))
    else (acc, 0) := by
  obtain ⟨f, hf⟩ : ∃ f, s.size + 1 - i = f + 1 := ⟨s.size - i, by omega⟩
  have hb := pb_bounds h false
  rw [lexR, hf, lexF]
  split
  · rename_i hlt
    cases ht : tokAt s (pb s i false) with
    | none => rfl
    | some x =>
      obtain ⟨t, e⟩ := x
      have he := tokAt_bounds hlt ht
      simp only
      split
      · rfl
      · exact lexF_fuel s _ _ e _ (by omega) (by omega) (by omega)
  · rfl
theorem lexR_skip {s : ByteArray} {i j : Nat} (hi : i ≤ s.size) (hj : j ≤ s.size) (h : pb s i false = pb s j false) (acc : List Tk) : lexR s i acc = lexR s j acc := by
  rw [lexR_eq hi, lexR_eq hj, h]
theorem lexR_none {s : ByteArray} {k : Nat} (hk : k ≤ s.size) (acc : List Tk) (hp : pb s k false < s.size) (ht : tokAt s (pb s k false) = none) : lexR s k acc = ([], 3) := by
  rw [lexR_eq hk, if_pos hp, ht]
theorem lexR_many {s : ByteArray} {k : Nat} (hk : k ≤ s.size) (acc : List Tk) (hp : pb s k false < s.size) {t : Tk} {e : Nat} (ht : tokAt s (pb s k false) = some (t, e)) (h4 : acc.length = 4000) : lexR s k acc = ([], 6) := by
  rw [lexR_eq hk, if_pos hp, ht]
  simp only
  rw [if_pos h4]
theorem lexR_some {s : ByteArray} {k : Nat} (hk : k ≤ s.size) (acc : List Tk) (hp : pb s k false < s.size) {t : Tk} {e : Nat} (ht : tokAt s (pb s k false) = some (t, e)) (h4 : ¬ acc.length = 4000) : lexR s k acc = lexR s e (acc ++ [t]) := by
  rw [lexR_eq hk, if_pos hp, ht]
  simp only
  rw [if_neg h4]
theorem lexR_done {s : ByteArray} {k : Nat} (hk : k ≤ s.size) (acc : List Tk) (hp : ¬ pb s k false < s.size) : lexR s k acc = (acc, 0) := by
  rw [lexR_eq hk, if_neg hp]
def lexB (s : ByteArray) : List Tk × Int := if 65536 < s.size then ([], 2) else lexR s 0 []
end Go.Proofs.YtlilfbcngncllaaGreatDoor
namespace Go.Proofs.YtlilfbcngncllaaGreatDoor
open Go.ChangeShapes Go.WideShapes Go.ChangeAt Go.RowKit
set_option linter.unusedVariables false

theorem conv1 (n : Int) (W : World) (b : Nat) (hc : W.cell? ⟨b, 0, none⟩ = some (.int .u8 n)) :
    (convert 87 9 (.slice (some ⟨b, 0, none⟩) 1 1)).run Tryz.prog W = .ok (.string ⟨#[UInt8.ofNat n.toNat]⟩) W := by
  rw [run_convert_bytes_string W 87 9 5 _ 1 1 Tryz.underlying87 Tryz.underlying5 Tryz.underlying9]
  rw [run_bytesToString W ⟨b, 0, none⟩ 1 1 [n] (run_loadCells_list W ⟨b, 0, none⟩ [.int .u8 n] (fun j v hv => by
    cases j with
    | zero => simp at hv; subst hv; simpa [Addr.add] using hc
    | succ j => simp at hv))]
  rfl
theorem ret_str {a b : ByteArray} (h : a = b) : Ending.returned (.string a) = .returned (.string b) := by rw [h]

set_option maxHeartbeats 1000000 in
theorem digs_small (n : Int) (w : World) (h0 : 0 ≤ n) (h1 : n < 10) :
    Calls Tryz.prog 81 #[.int .i64 n] w fun e w' => e = .returned (.string ⟨(Lib.decDigits n.toNat).toArray⟩) ∧ Below w.heap.size w w' := by
  have g0 : (n == -9223372036854775808) = false := by rw [beq_eq_false_iff_ne]; omega
  have HF : Hid ((⟨#[UInt8.ofNat (48 + n).toNat]⟩ : ByteArray) = ⟨(Lib.decDigits n.toNat).toArray⟩) := by
    unfold Hid; rw [Lib.decDigits_one (by omega), show (48 + n).toNat = 48 + n.toNat by omega]
  have hcv := conv1 (48 + n)
  go_enter Tryz.func81, Tryz.ntmps81
  go_wp2_with fail
  go_ret
  exact ⟨ret_str HF.out, (Below.refl _ _).alloc (Nat.le_refl _) _⟩

theorem quo10 (n : Int) (h0 : 0 ≤ n) (h1 : n ≤ 9223372036854775807) : IntKind.i64.wrap (n.tdiv 10) = n / 10 := by
  rw [Int.tdiv_eq_ediv_of_nonneg h0, wrap_small _ (by omega) (by omega)]
theorem rem10 (n : Int) (h0 : 0 ≤ n) : IntKind.u8.wrap (IntKind.i64.wrap (48 + n.tmod 10)) = 48 + n % 10 := by
  rw [Int.tmod_eq_emod_of_nonneg h0, wrap_small _ (by omega) (by omega), IntKind.wrap_u8]; omega
theorem digs_step (n : Int) (h0 : 0 ≤ n) (hn : ¬ n < 10) : (⟨(Lib.decDigits (n / 10).toNat).toArray⟩ : ByteArray) ++ (⟨#[UInt8.ofNat (48 + n % 10).toNat]⟩ : ByteArray) = ⟨(Lib.decDigits n.toNat).toArray⟩ := by
  rw [Lib.decDigits.eq_def n.toNat, dif_neg (by omega), show n.toNat / 10 = (n / 10).toNat by omega, show (48 + n % 10).toNat = 48 + n.toNat % 10 by omega]
  generalize Lib.decDigits (n / 10).toNat = D
  apply ByteArray.ext
  simp
theorem digs_len (n : Int) (h1 : n ≤ 9223372036854775807) : (⟨(Lib.decDigits n.toNat).toArray⟩ : ByteArray).size ≤ 20 := by
  have := Lib.nDigits_le20 n.toNat (by omega)
  rw [← Lib.decDigits_length] at this
  exact this

set_option maxHeartbeats 400000 in
theorem digs_nat (k : Nat) : ∀ (n : Int) (w : World), n ≤ k → 0 ≤ n → n ≤ 9223372036854775807 →
    Calls Tryz.prog 81 #[.int .i64 n] w fun e w' => e = .returned (.string ⟨(Lib.decDigits n.toNat).toArray⟩) ∧ Below w.heap.size w w' := by
  induction k with
  | zero =>
    intro n w hk h0 h1
    exact digs_small n w h0 (by omega)
  | succ k ih =>
    intro n w hk h0 h1
    by_cases hn : n < 10
    · exact digs_small n w h0 hn
    have g0 : (n == -9223372036854775808) = false := by rw [beq_eq_false_iff_ne]; omega
    have HS : Hid _ := digs_step n h0 hn
    have hln := digs_len (n / 10) (by omega)
    have hcv := conv1 (48 + n % 10)
    have e1 := quo10 n h0 h1
    have e2 := rem10 n h0
    have HI : Hid (∀ W : World, Calls Tryz.prog 81 #[.int .i64 (n / 10)] W fun e w' => e = .returned (.string ⟨(Lib.decDigits (n / 10).toNat).toArray⟩) ∧ Below W.heap.size W w') := fun W => ih (n / 10) W (by omega) (by omega) (by omega)
    clear ih hk
    have hS1 : (⟨#[UInt8.ofNat (48 + n % 10).toNat]⟩ : ByteArray).size = 1 := rfl
    generalize (⟨(Lib.decDigits (n / 10).toNat).toArray⟩ : ByteArray) = S at *
    generalize (⟨#[UInt8.ofNat (48 + n % 10).toNat]⟩ : ByteArray) = T at *
    have hno : ¬ (9223372036854775807 < S.size + T.size) := by omega
    clear hS1 hln
    go_enter Tryz.func81, Tryz.ntmps81
    go_wp2_with fail
    go_region_with (go_at_call 81; refine (HI.out _).mono ?_; rintro e w1 ⟨rfl, hb1⟩; obtain ⟨hc1, hf1⟩ := bcell hb1)
    all_goals
      have q : Below w.heap.size w w1 := by
        have q1 := hb1.size
        first
          | exact ((Below.refl _ _).drew).trans (hb1.mono (Nat.le_refl _))
          | exact (((Below.refl _ _).alloc (Nat.le_refl _) _).drew).trans (hb1.mono (by simp))
      go_wp2_with fail
      go_ret
      refine ⟨ret_str HS.out, ?_⟩
      first
        | exact q
        | exact q.alloc q.size _

set_option maxHeartbeats 1000000 in
theorem digs_any (n : Int) (w : World) (h0 : -9223372036854775807 ≤ n) (h1 : n ≤ 9223372036854775807) :
    Calls Tryz.prog 81 #[.int .i64 n] w fun e w' => e = .returned (.string ⟨(Lib.itoa n).toArray⟩) ∧ Below w.heap.size w w' := by
  by_cases hn : n < 0
  · have g0 : (n == -9223372036854775808) = false := by rw [beq_eq_false_iff_ne]; omega
    have HF : Hid ((⟨#[45]⟩ : ByteArray) ++ ⟨(Lib.decDigits (-n).toNat).toArray⟩ = ⟨(Lib.itoa n).toArray⟩) := by
      unfold Hid Lib.itoa; rw [if_pos hn, show n.natAbs = (-n).toNat by omega]
      apply ByteArray.ext
      simp
    have hln := digs_len (-n) (by omega)
    have HI : Hid (∀ W : World, Calls Tryz.prog 81 #[.int .i64 (-n)] W fun e w' => e = .returned (.string ⟨(Lib.decDigits (-n).toNat).toArray⟩) ∧ Below W.heap.size W w') := fun W => digs_nat (-n).toNat (-n) W (by omega) (by omega) (by omega)
    generalize (⟨(Lib.decDigits (-n).toNat).toArray⟩ : ByteArray) = S at *
    have hno : ¬ (9223372036854775807 < (⟨#[45]⟩ : ByteArray).size + S.size) := by have : (⟨#[45]⟩ : ByteArray).size = 1 := rfl; omega
    go_enter Tryz.func81, Tryz.ntmps81
    go_wp2_with (go_at_call 81; refine (HI.out _).mono ?_; rintro e w1 ⟨rfl, hb1⟩)
    go_ret
    exact ⟨ret_str HF.out, hb1⟩
  · refine (digs_nat n.toNat n w (by omega) (by omega) h1).mono ?_
    rintro e w1 ⟨rfl, hb⟩
    exact ⟨ret_str (by unfold Lib.itoa; rw [if_neg hn]), hb⟩
end Go.Proofs.YtlilfbcngncllaaGreatDoor
namespace Go.Proofs.YtlilfbcngncllaaGreatDoor
open Go.ChangeShapes Go.WideShapes Go.ChangeAt Go.RowKit
set_option linter.unusedVariables false

set_option maxHeartbeats 400000 in
theorem space_any (c : Int) (w : World) : Calls Tryz.prog 31 #[.int .u8 c] w fun e w' => e = .returned (.bool (blB c)) ∧ w' = w := by
  go_enter Tryz.func31, Tryz.ntmps31
  go_wp2
  all_goals (go_ret; exact ⟨ret_bool (by unfold blB; rw [Bool.eq_iff_iff]; simp <;> omega), rfl⟩)

set_option maxHeartbeats 1000000 in
theorem wordEnd_any (s : ByteArray) (i : Nat) (w : World) (hs : s.size ≤ 65536) (hi : i ≤ s.size) :
    Calls Tryz.prog 55 #[.string s, .int .i64 i] w fun e w' => e = .returned (.int .i64 (we s i)) ∧ w' = w := by
  go_enter Tryz.func55, Tryz.ntmps55
  go_wp2_with fail
  go_loop [1] (fun v => ∃ k : Nat, k ≤ s.size ∧ v = .int .i64 k ∧ Hid (we s i = we s k)) (fun v => s.size - (intOf v).toNat)
  case atStart => exact ⟨i, hi, rfl, rfl⟩
  case round =>
    obtain ⟨k, hk, rfl, HK⟩ := hrel
    by_cases hlt : k < s.size
    · cases hL : letB (s[k].toNat : Int)
      · cases hD : digB (s[k].toNat : Int)
        · have HF : Hid ((k : Int) = we s i) := by
            rw [Hid, HK.out, we_stop hlt (by unfold wdB; rw [bt_lt hlt, hL, hD]; rfl)]
          go_wp2_with (first | (go_at_call 56; refine (letter_any _ _).mono ?_; rintro e w' ⟨rfl, rfl⟩) | (go_at_call 57; refine (digit_any _ _).mono ?_; rintro e w' ⟨rfl, rfl⟩))
          go_ret
          exact ⟨ret_int HF.out, rfl⟩
        · have HF : Hid (we s i = we s (k + 1)) := by
            rw [Hid, HK.out, we_step hlt (by unfold wdB; rw [bt_lt hlt, hL, hD]; rfl)]
          go_wp2_with (first | (go_at_call 56; refine (letter_any _ _).mono ?_; rintro e w' ⟨rfl, rfl⟩) | (go_at_call 57; refine (digit_any _ _).mono ?_; rintro e w' ⟨rfl, rfl⟩))
          go_round
          case rel => exact ⟨k + 1, by omega, by go_num, HF⟩
          case measure => simp [intOf]; omega
      · have HF : Hid (we s i = we s (k + 1)) := by
          rw [Hid, HK.out, we_step hlt (by unfold wdB; rw [bt_lt hlt, hL]; rfl)]
        go_wp2_with (first | (go_at_call 56; refine (letter_any _ _).mono ?_; rintro e w' ⟨rfl, rfl⟩) | (go_at_call 57; refine (digit_any _ _).mono ?_; rintro e w' ⟨rfl, rfl⟩))
        go_round
        case rel => exact ⟨k + 1, by omega, by go_num, HF⟩
        case measure => simp [intOf]; omega
    · have HF : Hid ((k : Int) = we s i) := by rw [Hid, HK.out, we_end hlt]
      go_wp2_with fail
      go_ret
      exact ⟨ret_int HF.out, rfl⟩
end Go.Proofs.YtlilfbcngncllaaGreatDoor
