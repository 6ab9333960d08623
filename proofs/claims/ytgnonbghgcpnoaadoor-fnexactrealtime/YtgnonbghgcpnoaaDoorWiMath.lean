/- A stable sort by exchanges, in plain terms: what moves, what is in order, rotations, the merging of two runs. -/
import Derived.Test.YtgnonbghgcpnoaaDoorHiImpl
namespace Go.Proofs.YtgnonbghgcpnoaaDoor
open Go.ChangeShapes Go.WideShapes Go.ChangeAt Go.RowKit
set_option linter.unusedVariables false

instance : Inhabited Dn := ⟨⟨0, 0, 0, 0, false, [], [], ⟨#[]⟩⟩⟩
/-- One that is committed, its place, where its lists lie. -/
structure Cm where
  x : Dn
  p : Nat
  a : Option Addr
  c : Nat
  b : Option Addr
  d : Nat
instance : Inhabited Cm := ⟨⟨default, 0, none, 0, none, 0⟩⟩
def cmV (e : Cm) : List Value := [.int .i64 e.x.id, .int .i64 e.x.code, .int .i64 e.x.ts, .int .i64 e.x.since, .bool e.x.wr, .slice e.a e.x.defs.length e.c, .slice e.b e.x.vars.length e.d, .string e.x.t, .int .i64 e.p]
def rk (x : Dn) : Int := if x.wr = true then 0 else 1
/-- Ahead by the hour, then by who wrote; then by the place. -/
def Kl (x y : Cm) : Prop := x.x.ts < y.x.ts ∨ (x.x.ts = y.x.ts ∧ rk x.x < rk y.x)
def Lt (x y : Cm) : Prop := Kl x y ∨ (x.x.ts = y.x.ts ∧ rk x.x = rk y.x ∧ x.p < y.p)
def cfH (x y : Cm) : Int := if x.x.ts ≠ y.x.ts then (if x.x.ts < y.x.ts then -1 else 1) else if x.x.wr = y.x.wr then 0 else if x.x.wr = true then -1 else 1
theorem cf_kl (x y : Cm) : cfH x y < 0 ↔ Kl x y := by
  unfold cfH Kl rk
  by_cases h1 : x.x.ts = y.x.ts
  · cases h2 : x.x.wr <;> cases h3 : y.x.wr <;> simp [h1]
  · by_cases h2 : x.x.ts < y.x.ts
    · simp [h1, h2]
    · simp [h1, h2]

/-- What moves lies from a on below b. -/
def Mv (a b : Nat) (f g : Nat → Cm) : Prop := ∃ s t : Nat → Nat, (∀ i, s (t i) = i) ∧ (∀ i, t (s i) = i) ∧ (∀ i, i < a ∨ b ≤ i → s i = i) ∧ ∀ i, g i = f (s i)
theorem Mv.refl (a b : Nat) (f : Nat → Cm) : Mv a b f f := ⟨id, id, fun _ => rfl, fun _ => rfl, fun _ _ => rfl, fun _ => rfl⟩
theorem Mv.trans {a b : Nat} {f g h : Nat → Cm} (p : Mv a b f g) (q : Mv a b g h) : Mv a b f h := by
  obtain ⟨s, t, p1, p2, p3, p4⟩ := p
  obtain ⟨s', t', q1, q2, q3, q4⟩ := q
  refine ⟨fun i => s (s' i), fun i => t' (t i), fun i => ?_, fun i => ?_, fun i hi => ?_, fun i => ?_⟩
  · show s (s' (t' (t i))) = i
    rw [q1, p1]
  · show t' (t (s (s' i))) = i
    rw [p2, q2]
  · show s (s' i) = i
    rw [q3 i hi, p3 i hi]
  · rw [q4, p4]
theorem Mv.mono {a b a' b' : Nat} {f g : Nat → Cm} (p : Mv a b f g) (h1 : a' ≤ a) (h2 : b ≤ b') : Mv a' b' f g := by
  obtain ⟨s, t, p1, p2, p3, p4⟩ := p
  exact ⟨s, t, p1, p2, fun i hi => p3 i (by omega), p4⟩
theorem Mv.out {a b : Nat} {f g : Nat → Cm} (p : Mv a b f g) {i : Nat} (h : i < a ∨ b ≤ i) : g i = f i := by
  obtain ⟨s, t, p1, p2, p3, p4⟩ := p
  rw [p4, p3 i h]
theorem Mv.mem {a b : Nat} {f g : Nat → Cm} (p : Mv a b f g) {i : Nat} (h1 : a ≤ i) (h2 : i < b) : ∃ j, a ≤ j ∧ j < b ∧ g i = f j := by
  obtain ⟨s, t, p1, p2, p3, p4⟩ := p
  by_cases hs : a ≤ s i ∧ s i < b
  · exact ⟨s i, hs.1, hs.2, p4 i⟩
  · have e := p3 (s i) (by omega)
    have := congrArg t e
    rw [p2, p2] at this
    omega
theorem Mv.inv {a b : Nat} {f g : Nat → Cm} (p : Mv a b f g) {j : Nat} (h1 : a ≤ j) (h2 : j < b) : ∃ i, a ≤ i ∧ i < b ∧ g i = f j := by
  obtain ⟨s, t, p1, p2, p3, p4⟩ := p
  refine ⟨t j, ?_⟩
  by_cases hs : a ≤ t j ∧ t j < b
  · exact ⟨hs.1, hs.2, by rw [p4, p1]⟩
  · have e := p3 (t j) (by omega)
    rw [p1] at e
    omega
/-- Two are exchanged. -/
def swF (f : Nat → Cm) (i j : Nat) : Nat → Cm := fun k => if k = j then f i else if k = i then f j else f k
theorem Mv.sw {a b i j : Nat} (f : Nat → Cm) (h1 : a ≤ i) (h2 : i < b) (h3 : a ≤ j) (h4 : j < b) : Mv a b f (swF f i j) := by
  refine ⟨fun k => if k = j then i else if k = i then j else k, fun k => if k = j then i else if k = i then j else k, fun k => ?_, fun k => ?_, fun k hk => ?_, fun k => ?_⟩
  · show (if (if k = j then i else if k = i then j else k) = j then i else if (if k = j then i else if k = i then j else k) = i then j else (if k = j then i else if k = i then j else k)) = k
    split <;> split <;> (try split) <;> omega
  · show (if (if k = j then i else if k = i then j else k) = j then i else if (if k = j then i else if k = i then j else k) = i then j else (if k = j then i else if k = i then j else k)) = k
    split <;> split <;> (try split) <;> omega
  · show (if k = j then i else if k = i then j else k) = k
    rw [if_neg (by omega), if_neg (by omega)]
  · show swF f i j k = f (if k = j then i else if k = i then j else k)
    unfold swF
    split
    · rfl
    · split <;> rfl
def SoL (a b : Nat) (f : Nat → Cm) : Prop := ∀ i j, a ≤ i → i < j → j < b → Lt (f i) (f j)
def PlA (a b : Nat) (f : Nat → Cm) : Prop := ∀ i j, a ≤ i → i < j → j < b → (f i).p < (f j).p

/-! Insertion. -/
def InsJ (a i j : Nat) (f h : Nat → Cm) : Prop := Mv a (i + 1) f h ∧ h j = f i ∧ a ≤ j ∧ j ≤ i ∧ (∀ u v, a ≤ u → u < v → v ≤ i → u ≠ j → v ≠ j → Lt (h u) (h v)) ∧ (∀ v, j < v → v ≤ i → Lt (f i) (h v)) ∧ ∀ u, a ≤ u → u ≤ i → u ≠ j → (h u).p < (f i).p
theorem InsJ.start {a i : Nat} {f : Nat → Cm} (hi : a ≤ i) (hs : SoL a i f) (hp : ∀ u, a ≤ u → u < i → (f u).p < (f i).p) : InsJ a i i f f :=
  ⟨Mv.refl _ _ _, rfl, hi, Nat.le_refl _, fun u v h1 h2 h3 h4 h5 => hs u v h1 h2 (by omega), fun v h1 h2 => by omega, fun u h1 h2 h3 => hp u h1 (by omega)⟩
theorem InsJ.step {a i j : Nat} {f h : Nat → Cm} (H : InsJ a i (j + 1) f h) (hj : a ≤ j) (hk : Kl (h (j + 1)) (h j)) : InsJ a i j f (swF h (j + 1) j) := by
  obtain ⟨h1, h2, h3, h4, h5, h6, h7⟩ := H
  have e0 : swF h (j + 1) j j = h (j + 1) := by unfold swF; rw [if_pos rfl]
  have e1 : swF h (j + 1) j (j + 1) = h j := by unfold swF; rw [if_neg (by omega), if_pos rfl]
  have e2 : ∀ k, k ≠ j → k ≠ j + 1 → swF h (j + 1) j k = h k := fun k a1 a2 => by unfold swF; rw [if_neg a1, if_neg a2]
  refine ⟨h1.trans (Mv.sw _ (by omega) (by omega) (by omega) (by omega)), e0.trans h2, hj, by omega, fun u v b1 b2 b3 b4 b5 => ?_, fun v b1 b2 => ?_, fun u b1 b2 b3 => ?_⟩
  · by_cases c1 : u = j + 1
    · subst c1
      rw [e1, e2 v b5 (by omega)]
      exact h5 j v hj (by omega) b3 (by omega) (by omega)
    · by_cases c2 : v = j + 1
      · subst c2
        rw [e1, e2 u b4 c1]
        exact h5 u j b1 (by omega) (by omega) c1 (by omega)
      · rw [e2 u b4 c1, e2 v b5 c2]
        exact h5 u v b1 b2 b3 c1 c2
  · by_cases c1 : v = j + 1
    · subst c1
      rw [e1, ← h2]; exact .inl hk
    · rw [e2 v (by omega) c1]; exact h6 v (by omega) b2
  · by_cases c1 : u = j + 1
    · subst c1; rw [e1]; exact h7 j hj (by omega) (by omega)
    · rw [e2 u b3 c1]; exact h7 u b1 b2 c1
theorem InsJ.stop {a i j : Nat} {f h : Nat → Cm} (H : InsJ a i j f h) (hs : j = a ∨ ∃ k, j = k + 1 ∧ ¬ Kl (h j) (h k)) : SoL a (i + 1) h := by
  obtain ⟨h1, h2, h3, h4, h5, h6, h7⟩ := H
  intro u v b1 b2 b3
  by_cases c1 : u = j
  · subst c1; rw [h2]; exact h6 v b2 (by omega)
  by_cases c2 : v = j
  · subst c2
    rcases hs with hs | ⟨k, rfl, hs⟩
    · omega
    have g1 := h7 k (by omega) (by omega) (by omega)
    have g2 : Lt (h k) (h (k + 1)) := by
      rw [h2] at hs ⊢
      unfold Lt Kl at *
      omega
    by_cases c3 : u = k
    · subst c3; exact g2
    · have g3 := h5 u k b1 (by omega) (by omega) (by omega) (by omega)
      unfold Lt Kl at *
      omega
  · exact h5 u v b1 b2 (by omega) c1 c2
theorem SoL.next {a i b : Nat} {f h : Nat → Cm} (hm : Mv a i f h) (hp : PlA a b f) (hi : a ≤ i) (hb : i < b) : ∀ u, a ≤ u → u < i → (h u).p < (h i).p := fun u h1 h2 => by
  obtain ⟨j, g1, g2, g3⟩ := hm.mem h1 h2
  rw [g3, hm.out (.inr (Nat.le_refl _))]
  exact hp j i g1 g2 hb

/-! Rotations. -/
def srF (f : Nat → Cm) (a b n : Nat) : Nat → Cm := fun k => if a ≤ k ∧ k < a + n then f (k - a + b) else if b ≤ k ∧ k < b + n then f (k - b + a) else f k
def rotF (f : Nat → Cm) (a m b : Nat) : Nat → Cm := fun k => if a ≤ k ∧ k < a + (b - m) then f (k + (m - a)) else if a + (b - m) ≤ k ∧ k < b then f (k - (b - m)) else f k
theorem sr_zero (f : Nat → Cm) (a b : Nat) : srF f a b 0 = f := by
  funext k; unfold srF; rw [if_neg (by omega), if_neg (by omega)]
theorem sr_next (f : Nat → Cm) (a b n : Nat) (h : a + n < b) : swF (srF f a b n) (a + n) (b + n) = srF f a b (n + 1) := by
  funext k
  unfold swF
  by_cases h1 : k = b + n
  · subst h1
    rw [if_pos rfl]
    unfold srF
    rw [if_neg (by omega), if_neg (by omega), if_neg (by omega), if_pos (by omega)]
    exact congrArg f (by omega)
  · rw [if_neg h1]
    by_cases h2 : k = a + n
    · subst h2
      rw [if_pos rfl]
      unfold srF
      rw [if_neg (by omega), if_neg (by omega), if_pos (by omega)]
      exact congrArg f (by omega)
    · rw [if_neg h2]
      unfold srF
      by_cases h3 : a ≤ k ∧ k < a + n
      · rw [if_pos h3, if_pos (by omega)]
      · rw [if_neg h3, if_neg (show ¬ (a ≤ k ∧ k < a + (n + 1)) by omega)]
        by_cases h4 : b ≤ k ∧ k < b + n
        · rw [if_pos h4, if_pos (by omega)]
        · rw [if_neg h4, if_neg (by omega)]
theorem rot_big (f : Nat → Cm) (lo m i j : Nat) (hm : lo + i = m) (hij : j < i) : rotF (srF f lo m j) (lo + j) m (m + j) = rotF f lo m (m + j) := by
  subst hm
  funext k
  unfold rotF
  by_cases h1 : lo ≤ k ∧ k < lo + j
  · rw [if_neg (by omega), if_neg (by omega), if_pos (by omega)]
    unfold srF
    rw [if_pos (by omega)]
    exact congrArg f (by omega)
  · by_cases h2 : lo + j ≤ k ∧ k < lo + j + j
    · rw [if_pos (by omega), if_neg (by omega), if_pos (by omega)]
      unfold srF
      by_cases h3 : k + (lo + i - (lo + j)) < lo + j
      · omega
      · by_cases h4 : lo + i ≤ k + (lo + i - (lo + j))
        · rw [if_neg (by omega), if_pos (by omega)]
          exact congrArg f (by omega)
        · omega
    · by_cases h5 : lo + j + j ≤ k ∧ k < lo + i + j
      · rw [if_neg (by omega), if_pos (by omega), if_neg (by omega), if_pos (by omega)]
        unfold srF
        rw [if_neg (by omega), if_neg (by omega)]
        all_goals exact congrArg f (by omega)
      · rw [if_neg (by omega), if_neg (by omega), if_neg (by omega), if_neg (by omega)]
        unfold srF
        rw [if_neg (by omega), if_neg (by omega)]
theorem rot_small (f : Nat → Cm) (lo m i j : Nat) (hm : lo + i = m) (hij : i < j) : rotF (srF f lo (m + j - i) i) lo m (m + (j - i)) = rotF f lo m (m + j) := by
  subst hm
  funext k
  unfold rotF
  by_cases h1 : lo ≤ k ∧ k < lo + (j - i)
  · rw [if_pos (by omega), if_pos (by omega)]
    unfold srF
    rw [if_neg (by omega), if_neg (by omega)]
  · by_cases h2 : lo + (j - i) ≤ k ∧ k < lo + j
    · rw [if_neg (by omega), if_pos (by omega), if_pos (by omega)]
      unfold srF
      rw [if_pos (by omega)]
      exact congrArg f (by omega)
    · by_cases h3 : lo + j ≤ k ∧ k < lo + i + j
      · rw [if_neg (by omega), if_neg (by omega), if_neg (by omega), if_pos (by omega)]
        unfold srF
        rw [if_neg (by omega), if_pos (by omega)]
        exact congrArg f (by omega)
      · rw [if_neg (by omega), if_neg (by omega), if_neg (by omega), if_neg (by omega)]
        unfold srF
        rw [if_neg (by omega), if_neg (by omega)]
theorem rot_even (f : Nat → Cm) (lo m i : Nat) (hm : lo + i = m) : srF f lo m i = rotF f lo m (m + i) := by
  subst hm
  funext k
  unfold rotF srF
  by_cases h1 : lo ≤ k ∧ k < lo + i
  · rw [if_pos h1, if_pos (by omega)]
    exact congrArg f (by omega)
  · rw [if_neg h1]
    by_cases h2 : lo + i ≤ k ∧ k < lo + i + i
    · rw [if_pos h2, if_neg (by omega), if_pos (by omega)]
      exact congrArg f (by omega)
    · rw [if_neg h2, if_neg (by omega), if_neg (by omega)]
theorem rot_none (f : Nat → Cm) (a m b : Nat) (h : a = m ∨ m = b) (h1 : a ≤ m) (h2 : m ≤ b) : rotF f a m b = f := by
  funext k
  unfold rotF
  rcases h with rfl | rfl
  · by_cases h3 : a ≤ k ∧ k < a + (b - a)
    · rw [if_pos h3]; exact congrArg f (by omega)
    · rw [if_neg h3, if_neg (by omega)]
  · rw [if_neg (by omega)]
    by_cases h3 : a + (m - m) ≤ k ∧ k < m
    · rw [if_pos h3]; exact congrArg f (by omega)
    · rw [if_neg h3]

/-! Merging. -/
def Pre (a m b : Nat) (f : Nat → Cm) : Prop := SoL a m f ∧ SoL m b f ∧ ∀ i j, a ≤ i → i < m → m ≤ j → j < b → (f i).p < (f j).p
theorem Pre.triv {a m b : Nat} {f : Nat → Cm} (h : Pre a m b f) (hm : a = m ∨ m = b ∨ b ≤ m ∨ m ≤ a) (h1 : a ≤ m) (h2 : m ≤ b) : SoL a b f := by
  rcases hm with rfl | rfl | hm | hm
  · exact h.2.1
  · exact h.1
  · obtain rfl : m = b := by omega
    exact h.1
  · obtain rfl : m = a := by omega
    exact h.2.1
/-- The first run's only one, brought behind those that are less. -/
def shF (f : Nat → Cm) (a k : Nat) : Nat → Cm := fun u => if a ≤ u ∧ u < k then f (u + 1) else if u = k then f a else f u
theorem sh_zero (f : Nat → Cm) (a : Nat) : shF f a a = f := by
  funext u; unfold shF; rw [if_neg (by omega)]; split
  · rename_i h; rw [h]
  · rfl
theorem sh_next (f : Nat → Cm) (a k : Nat) (h : a ≤ k) : swF (shF f a k) k (k + 1) = shF f a (k + 1) := by
  funext u
  unfold swF
  by_cases h1 : u = k + 1
  · subst h1
    rw [if_pos rfl]; unfold shF
    rw [if_neg (by omega), if_pos rfl, if_neg (by omega), if_pos rfl]
  · rw [if_neg h1]
    by_cases h2 : u = k
    · subst h2
      rw [if_pos rfl]; unfold shF
      rw [if_neg (by omega), if_neg (by omega), if_pos (by omega)]
    · rw [if_neg h2]; unfold shF
      by_cases h3 : a ≤ u ∧ u < k
      · rw [if_pos h3, if_pos (by omega)]
      · rw [if_neg h3, if_neg h2, if_neg (by omega), if_neg h1]
theorem sh_done {a b i : Nat} {f : Nat → Cm} (h : Pre a (a + 1) b f) (h1 : a + 1 ≤ i) (h2 : i ≤ b) (c1 : ∀ k, a + 1 ≤ k → k < i → Kl (f k) (f a)) (c2 : ∀ k, i ≤ k → k < b → ¬ Kl (f k) (f a)) : SoL a b (shF f a (i - 1)) := by
  obtain ⟨_, q2, q3⟩ := h
  have g1 : ∀ k, i ≤ k → k < b → Lt (f a) (f k) := fun k e1 e2 => by
    have := c2 k e1 e2; have := q3 a k (Nat.le_refl _) (by omega) (by omega) e2
    unfold Lt Kl at *; omega
  intro u v e1 e2 e3
  unfold shF
  by_cases d1 : u < i - 1
  · rw [if_pos ⟨e1, d1⟩]
    by_cases d2 : v < i - 1
    · rw [if_pos ⟨by omega, d2⟩]; exact q2 _ _ (by omega) (by omega) (by omega)
    · rw [if_neg (by omega)]
      by_cases d3 : v = i - 1
      · rw [if_pos d3]; exact .inl (c1 _ (by omega) (by omega))
      · rw [if_neg d3]; exact q2 _ _ (by omega) (by omega) e3
  · rw [if_neg (by omega)]
    by_cases d3 : u = i - 1
    · rw [if_pos d3, if_neg (by omega), if_neg (by omega)]; exact g1 v (by omega) e3
    · rw [if_neg d3, if_neg (by omega), if_neg (by omega)]; exact q2 _ _ (by omega) e2 e3
/-- The second run's only one, brought ahead of those that are greater. -/
def sdF (f : Nat → Cm) (m k : Nat) : Nat → Cm := fun u => if k < u ∧ u ≤ m then f (u - 1) else if u = k then f m else f u
theorem sd_zero (f : Nat → Cm) (m : Nat) : sdF f m m = f := by
  funext u; unfold sdF; rw [if_neg (by omega)]; split
  · rename_i h; rw [h]
  · rfl
theorem sd_next (f : Nat → Cm) (m k : Nat) (h : k + 1 ≤ m) : swF (sdF f m (k + 1)) (k + 1) k = sdF f m k := by
  funext u
  unfold swF
  by_cases h1 : u = k
  · subst h1
    rw [if_pos rfl]; unfold sdF
    rw [if_neg (by omega), if_pos rfl, if_neg (by omega), if_pos rfl]
  · rw [if_neg h1]
    by_cases h2 : u = k + 1
    · subst h2
      rw [if_pos rfl]; unfold sdF
      rw [if_neg (by omega), if_neg (by omega), if_pos (by omega)]
      exact congrArg f (by omega)
    · rw [if_neg h2]; unfold sdF
      by_cases h3 : k + 1 < u ∧ u ≤ m
      · rw [if_pos h3, if_pos (by omega)]
      · rw [if_neg h3, if_neg h2, if_neg (by omega), if_neg h1]
theorem sd_done {a m i : Nat} {f : Nat → Cm} (h : Pre a m (m + 1) f) (h1 : a ≤ i) (h2 : i ≤ m) (c1 : ∀ k, a ≤ k → k < i → ¬ Kl (f m) (f k)) (c2 : ∀ k, i ≤ k → k < m → Kl (f m) (f k)) : SoL a (m + 1) (sdF f m i) := by
  obtain ⟨q1, _, q3⟩ := h
  have g1 : ∀ k, a ≤ k → k < i → Lt (f k) (f m) := fun k e1 e2 => by
    have := c1 k e1 e2; have := q3 k m e1 (by omega) (Nat.le_refl _) (by omega)
    unfold Lt Kl at *; omega
  intro u v e1 e2 e3
  unfold sdF
  by_cases d1 : u < i
  · rw [if_neg (by omega), if_neg (by omega)]
    by_cases d2 : v < i
    · rw [if_neg (by omega), if_neg (by omega)]; exact q1 _ _ e1 e2 (by omega)
    · by_cases d3 : v = i
      · rw [if_neg (by omega), if_pos d3]; exact g1 u e1 d1
      · rw [if_pos (by omega)]; exact q1 _ _ e1 (by omega) (by omega)
  · by_cases d3 : u = i
    · rw [if_neg (by omega), if_pos d3, if_pos (by omega)]; exact .inl (c2 _ (by omega) (by omega))
    · rw [if_pos (by omega), if_pos (by omega)]; exact q1 _ _ (by omega) (by omega) (by omega)
/-- Where the two runs are cut: s in the first, mid + m - s in the second. -/
def CutAt (a m b mid s : Nat) (f : Nat → Cm) : Prop := a ≤ s ∧ s ≤ m ∧ s ≤ mid ∧ m ≤ mid + m - s ∧ mid + m - s ≤ b ∧
  (∀ i k, a ≤ i → i < s → mid + m - s ≤ k → k < b → Lt (f i) (f k)) ∧ (∀ i k, s ≤ i → i < m → m ≤ k → k < mid + m - s → Lt (f k) (f i))
theorem CutAt.of {a m b mid s s0 r0 : Nat} {f : Nat → Cm} (h : Pre a m b f) (ham : a < m) (hmb : m < b) (hmid : mid = (a + b) / 2) (h0 : (mid < m ∧ s0 = mid + m - b ∧ r0 = mid) ∨ (m ≤ mid ∧ s0 = a ∧ r0 = m)) (hs0 : s0 ≤ s) (hs1 : s ≤ r0)
    (c1 : s0 < s → ¬ Kl (f (mid + m - 1 - (s - 1))) (f (s - 1))) (c2 : s < r0 → Kl (f (mid + m - 1 - s)) (f s)) : CutAt a m b mid s f := by
  obtain ⟨q1, q2, q3⟩ := h
  refine ⟨by omega, by omega, by omega, by omega, by omega, fun i k e1 e2 e3 e4 => ?_, fun i k e1 e2 e3 e4 => ?_⟩
  · have g0 := c1 (by omega)
    rw [show mid + m - 1 - (s - 1) = mid + m - s by omega] at g0
    have g1 : i = s - 1 ∨ Lt (f i) (f (s - 1)) := by
      by_cases d : i = s - 1
      · exact .inl d
      · exact .inr (q1 i (s - 1) e1 (by omega) (by omega))
    have g2 : k = mid + m - s ∨ Lt (f (mid + m - s)) (f k) := by
      by_cases d : k = mid + m - s
      · exact .inl d
      · exact .inr (q2 (mid + m - s) k (by omega) (by omega) e4)
    have g3 := q3 i k e1 (by omega) (by omega) e4
    generalize hu : mid + m - s = u at *
    generalize hv : s - 1 = v at *
    rcases g1 with rfl | g1 <;> rcases g2 with rfl | g2 <;> unfold Lt Kl at * <;> omega
  · have g0 := c2 (by omega)
    have g1 : i = s ∨ Lt (f s) (f i) := by
      by_cases d : i = s
      · exact .inl d
      · exact .inr (q1 s i (by omega) (by omega) e2)
    have g2 : k = mid + m - 1 - s ∨ Lt (f k) (f (mid + m - 1 - s)) := by
      by_cases d : k = mid + m - 1 - s
      · exact .inl d
      · exact .inr (q2 k (mid + m - 1 - s) e3 (by omega) (by omega))
    generalize hu : mid + m - 1 - s = u at *
    rcases g1 with rfl | g1 <;> rcases g2 with rfl | g2 <;> unfold Lt Kl at * <;> omega
theorem CutAt.rot {a m b mid s : Nat} {f : Nat → Cm} (hc : CutAt a m b mid s f) (h : Pre a m b f) (hmb : mid ≤ b) :
    Pre a s mid (rotF f s m (mid + m - s)) ∧ Pre mid (mid + m - s) b (rotF f s m (mid + m - s)) ∧ (∀ i j, a ≤ i → i < mid → mid ≤ j → j < b → Lt (rotF f s m (mid + m - s) i) (rotF f s m (mid + m - s) j)) := by
  obtain ⟨k1, k2, k3, k4, k5, k6, k7⟩ := hc
  obtain ⟨q1, q2, q3⟩ := h
  have e1 : ∀ i, i < s → rotF f s m (mid + m - s) i = f i := fun i hi => by unfold rotF; rw [if_neg (by omega), if_neg (by omega)]
  have e2 : ∀ i, s ≤ i → i < mid → rotF f s m (mid + m - s) i = f (i + (m - s)) := fun i h1 h2 => by unfold rotF; rw [if_pos (by omega)]
  have e3 : ∀ i, mid ≤ i → i < mid + m - s → rotF f s m (mid + m - s) i = f (i - (mid - s)) := fun i h1 h2 => by
    unfold rotF; rw [if_neg (by omega), if_pos (by omega)]; exact congrArg f (by omega)
  have e4 : ∀ i, mid + m - s ≤ i → rotF f s m (mid + m - s) i = f i := fun i h1 => by unfold rotF; rw [if_neg (by omega), if_neg (by omega)]
  refine ⟨⟨fun i j d1 d2 d3 => ?_, fun i j d1 d2 d3 => ?_, fun i j d1 d2 d3 d4 => ?_⟩, ⟨fun i j d1 d2 d3 => ?_, fun i j d1 d2 d3 => ?_, fun i j d1 d2 d3 d4 => ?_⟩, fun i j d1 d2 d3 d4 => ?_⟩
  · rw [e1 i (by omega), e1 j d3]; exact q1 i j d1 d2 (by omega)
  · rw [e2 i d1 (by omega), e2 j (by omega) d3]; exact q2 _ _ (by omega) (by omega) (by omega)
  · rw [e1 i d2, e2 j d3 d4]; exact q3 _ _ d1 (by omega) (by omega) (by omega)
  · rw [e3 i d1 (by omega), e3 j (by omega) d3]; exact q1 _ _ (by omega) (by omega) (by omega)
  · rw [e4 i d1, e4 j (by omega)]; exact q2 _ _ (by omega) d2 d3
  · rw [e3 i d1 d2, e4 j d3]; exact q3 _ _ (by omega) (by omega) (by omega) d4
  · by_cases g1 : i < s
    · rw [e1 i g1]
      by_cases g2 : j < mid + m - s
      · rw [e3 j d3 g2]; exact q1 _ _ d1 (by omega) (by omega)
      · rw [e4 j (by omega)]; exact k6 i j d1 g1 (by omega) d4
    · rw [e2 i (by omega) d2]
      by_cases g2 : j < mid + m - s
      · rw [e3 j d3 g2]; exact k7 _ _ (by omega) (by omega) (by omega) (by omega)
      · rw [e4 j (by omega)]; exact q2 _ _ (by omega) (by omega) d4
/-- Two halves in order, the one ahead of the other. -/
theorem SoL.join {a mid b : Nat} {g h k : Nat → Cm} (hx : ∀ i j, a ≤ i → i < mid → mid ≤ j → j < b → Lt (g i) (g j)) (m1 : Mv a mid g h) (s1 : SoL a mid h) (m2 : Mv mid b h k) (s2 : SoL mid b k) : SoL a b k := by
  intro i j e1 e2 e3
  by_cases d1 : j < mid
  · rw [m2.out (.inl (by omega)), m2.out (.inl d1)]; exact s1 i j e1 e2 d1
  · by_cases d2 : i < mid
    · rw [m2.out (.inl d2)]
      obtain ⟨i', a1, a2, a3⟩ := m1.mem e1 d2
      obtain ⟨j', b1, b2, b3⟩ := m2.mem (show mid ≤ j by omega) e3
      rw [a3, b3, m1.out (.inr b1)]
      exact hx i' j' a1 a2 b1 b2
    · exact s2 i j (by omega) e2 e3
end Go.Proofs.YtgnonbghgcpnoaaDoor
