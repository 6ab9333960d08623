/- Appending to a list of one's own, whatever is appended; lists of names. -/
import Derived.Test.YtajjaddlalbnmaaDocFrs
import Derived.Test.YtajjaddlalbnmaaSelFrom
import Derived.Deep.Upon
import Derived.Deep.AppendLies
import Derived.Deep.CutBlock
import Derived.Deep.AppendSrc
namespace Go.Proofs.Ytajjaddlalbnmaa
open Go.ChangeShapes Go.WideShapes Go.ChangeAt Go.RowKit
set_option linter.unusedVariables false

/-- From one to another by one step or more. -/
inductive Rc {α : Type} (E : α → List α) : α → α → Prop
  | one {a b : α} : b ∈ E a → Rc E a b
  | snoc {a b c : α} : Rc E a b → c ∈ E b → Rc E a c
theorem Rc.trans {α : Type} {E : α → List α} {a b c : α} (h : Rc E a b) (h' : Rc E b c) : Rc E a c := by
  induction h' with
  | one h1 => exact .snoc h h1
  | snoc _ h1 ih => exact .snoc ih h1
/-- The first step of a way. -/
theorem Rc.head {α : Type} {E : α → List α} {a c : α} (h : Rc E a c) : ∃ b, b ∈ E a ∧ (b = c ∨ Rc E b c) := by
  induction h with
  | one h1 => exact ⟨_, h1, .inl rfl⟩
  | snoc _ h1 ih =>
    obtain ⟨b, hb, hc⟩ := ih
    rcases hc with rfl | hc
    · exact ⟨_, hb, .inr (.one h1)⟩
    · exact ⟨_, hb, .inr (.snoc hc h1)⟩
theorem Rc.turn {α : Type} {E : α → List α} {a : α} (h : Rc E a a) : ∃ b, b ∈ E a ∧ Rc E b b := by
  obtain ⟨b, hb, hc⟩ := h.head
  rcases hc with rfl | hc
  · exact ⟨_, hb, h⟩
  · exact ⟨b, hb, hc.trans (.one hb)⟩
theorem filter_less {α : Type} (p q : α → Bool) : ∀ (l : List α), (∀ x ∈ l, p x = true → q x = true) → (∃ y ∈ l, q y = true ∧ p y = false) → (l.filter p).length < (l.filter q).length
  | [], _, h => by obtain ⟨y, hy, _⟩ := h; simp at hy
  | x :: l, hs, h => by
    have hle : ∀ (l : List α), (∀ x ∈ l, p x = true → q x = true) → (l.filter p).length ≤ (l.filter q).length := by
      intro l
      induction l with
      | nil => intro _; exact Nat.le_refl _
      | cons z l ih =>
        intro hz
        have h1 := ih fun y hy => hz y (by simp [hy])
        cases hp : p z with
        | true => rw [List.filter_cons_of_pos hp, List.filter_cons_of_pos (hz z (by simp) hp)]; simpa using h1
        | false =>
          rw [List.filter_cons_of_neg (by simp [hp])]
          cases hq : q z with
          | true => rw [List.filter_cons_of_pos hq]; simp; omega
          | false => rw [List.filter_cons_of_neg (by simp [hq])]; exact h1
    obtain ⟨y, hy, hq, hp⟩ := h
    rcases List.mem_cons.1 hy with rfl | hy
    · rw [List.filter_cons_of_neg (by simp [hp]), List.filter_cons_of_pos hq]
      have := hle l fun z hz => hs z (by simp [hz])
      simp; omega
    · have ih := filter_less p q l (fun z hz => hs z (by simp [hz])) ⟨y, hy, hq, hp⟩
      cases hpx : p x with
      | true => rw [List.filter_cons_of_pos hpx, List.filter_cons_of_pos (hs x (by simp) hpx)]; simpa using ih
      | false =>
        rw [List.filter_cons_of_neg (by simp [hpx])]
        cases hqx : q x with
        | true => rw [List.filter_cons_of_pos hqx]; simp; omega
        | false => rw [List.filter_cons_of_neg (by simp [hqx])]; exact ih
/-- If each of some has a next one among them, one of them comes to itself. -/
theorem stuck {α : Type} {E : α → List α} {L : List α} (h0 : L ≠ []) (h : ∀ x ∈ L, ∃ y ∈ L, y ∈ E x) : ∃ n, Rc E n n := by
  refine Classical.byContradiction fun hno => ?_
  have hd : ∀ a b, Decidable (Rc E a b) := fun a b => Classical.propDecidable _
  have key : ∀ n, ∀ x ∈ L, (L.filter fun z => @decide (Rc E x z) (hd x z)).length = n → False := by
    intro n
    induction n using Nat.strongRecOn with
    | _ n ih =>
      intro x hx hn
      obtain ⟨y, hy, hxy⟩ := h x hx
      refine ih _ ?_ y hy rfl
      rw [← hn]
      refine filter_less _ _ L (fun z _ hz => ?_) ⟨y, hy, ?_, ?_⟩
      · have hz : Rc E y z := by simpa using hz
        have : Rc E x z := (Rc.one hxy).trans hz
        simpa using this
      · simpa using (Rc.one hxy : Rc E x y)
      · simp only [decide_eq_false_iff_not]
        intro hc; exact hno ⟨y, hc⟩
  cases L with
  | nil => exact h0 rfl
  | cons x L => exact key _ x (by simp) rfl
theorem nodup_sub {α : Type} [DecidableEq α] : ∀ (l u : List α), l.Nodup → (∀ x ∈ l, x ∈ u) → l.length ≤ u.length
  | [], u, _, _ => Nat.zero_le _
  | x :: l, u, hn, hs => by
    have hx : x ∈ u := hs x (by simp)
    rw [List.nodup_cons] at hn
    have := nodup_sub l (u.erase x) hn.2 fun y hy => by
      have hne : y ≠ x := fun e => hn.1 (e ▸ hy)
      exact (List.mem_erase_of_ne hne).2 (hs y (by simp [hy]))
    rw [List.length_erase_of_mem hx] at this
    have h1 : 0 < u.length := List.length_pos_of_mem hx
    simp; omega
/-- What is closed and holds the first steps holds all that is come to. -/
theorem closed {α : Type} {E : α → List α} {n : α} {S : List α} (h0 : ∀ x ∈ E n, x ∈ S) (h1 : ∀ x ∈ S, ∀ y ∈ E x, y ∈ S) {m : α} (h : Rc E n m) : m ∈ S := by
  induction h with
  | one h => exact h0 _ h
  | snoc _ h ih => exact h1 _ ih _ h

/-- The names that a set spreads, however deep. -/
def sprd : Sels → List ByteArray
  | .nil => []
  | .cons h sub rest => (if (h.k == 2) = true then [h.nm] else []) ++ (sprd sub ++ sprd rest)
def sprdL (s : Sels) : List (List UInt8) := (sprd s).map ByteArray.toList
def isFrL (s : List UInt8) (x : De) : Bool := (x.k == 3) && (x.nm.toList == s)
theorem isFrL_eq (s : ByteArray) : isFrL s.toList = isFr s := rfl
/-- What the fragment of a name spreads. -/
def spE (l : List De) (n : List UInt8) : List (List UInt8) := match l.find? (isFrL n) with
  | none => []
  | some x => sprdL x.sels
/-- Some fragment comes to itself. -/
def Cyc (l : List De) : Prop := ∃ n, Rc (spE l) n n
theorem spE_some {l : List De} {n : List UInt8} {m : List UInt8} (h : m ∈ spE l n) : ∃ x ∈ l, isFrL n x = true ∧ l.find? (isFrL n) = some x := by
  unfold spE at h
  cases hf : l.find? (isFrL n) with
  | none => rw [hf] at h; simp at h
  | some x => exact ⟨x, List.mem_of_find?_eq_some hf, List.find?_some hf, rfl⟩
theorem spE_of {l : List De} {x : De} (h : l.find? (isFr x.nm) = some x) : spE l x.nm.toList = sprdL x.sels := by
  unfold spE; rw [isFrL_eq, h]
theorem sprd_len : ∀ s : Sels, (sprd s).length ≤ s.size
  | .nil => Nat.le_refl _
  | .cons h sub rest => by
    have h1 := sprd_len sub
    have h2 := sprd_len rest
    simp only [sprd, Sels.size, List.length_append]
    split <;> simp <;> omega
/-- All names that are spread in a document. -/
def allSp (l : List De) : List (List UInt8) := l.flatMap fun x => sprdL x.sels
theorem spE_all {l : List De} {n m : List UInt8} (h : m ∈ spE l n) : m ∈ allSp l := by
  obtain ⟨x, hx, _, hf⟩ := spE_some h
  unfold spE at h
  rw [hf] at h
  exact List.mem_flatMap.2 ⟨x, hx, h⟩

/-- Fragments that are left: those that come to themselves are among them. -/
def LeftOK (l L : List De) : Prop := (∀ x ∈ L, l.find? (isFr x.nm) = some x) ∧ ∀ n, Rc (spE l) n n → ∃ x ∈ L, x.nm.toList = n
theorem leftOK_start (l : List De) (hf : ∀ x ∈ frsOf l, l.find? (isFr x.nm) = some x) : LeftOK l (frsOf l) := by
  refine ⟨hf, fun n hn => ?_⟩
  obtain ⟨b, hb, _⟩ := hn.head
  obtain ⟨x, hx, h1, h2⟩ := spE_some hb
  unfold isFrL at h1
  simp only [Bool.and_eq_true, beq_iff_eq] at h1
  have h3 : hasNm (frsOf l) x.nm = true := by
    rw [frs_any]
    refine List.any_eq_true.2 ⟨x, hx, ?_⟩
    unfold isFr; simp [h1.1]
  unfold hasNm at h3
  obtain ⟨y, hy, h4⟩ := List.any_eq_true.1 h3
  exact ⟨y, hy, (beq_iff_eq.1 h4).trans h1.2⟩
/-- One that spreads none of those that are left goes. -/
theorem leftOK_step {l L : List De} {x : De} (h : LeftOK l L) (hx : x ∈ L) (hs : (sprd x.sels).any (hasNm L) = false) : LeftOK l (L.filter fun y => !(y.nm.toList == x.nm.toList)) := by
  refine ⟨fun y hy => h.1 y (List.mem_filter.1 hy).1, fun n hn => ?_⟩
  obtain ⟨y, hy, hyn⟩ := h.2 n hn
  refine ⟨y, List.mem_filter.2 ⟨hy, ?_⟩, hyn⟩
  cases hc : (y.nm.toList == x.nm.toList) with
  | false => rfl
  | true =>
    exfalso
    have e : x.nm.toList = n := by rw [← hyn]; exact (beq_iff_eq.1 hc).symm
    obtain ⟨b, hb, hbb⟩ := hn.turn
    rw [← e, spE_of (h.1 x hx)] at hb
    obtain ⟨z, hz, hzb⟩ := h.2 b hbb
    unfold sprdL at hb
    obtain ⟨s, hs1, hs2⟩ := List.mem_map.1 hb
    have h1 : hasNm L s = true := List.any_eq_true.2 ⟨z, hz, by rw [hzb, hs2]; simp⟩
    have : (sprd x.sels).any (hasNm L) = true := List.any_eq_true.2 ⟨s, hs1, h1⟩
    rw [hs] at this; cases this
theorem leftOK_end {l : List De} (h : LeftOK l []) : ¬ Cyc l := fun ⟨n, hn⟩ => by
  obtain ⟨x, hx, _⟩ := h.2 n hn; simp at hx
theorem left_stuck {l L : List De} (h : LeftOK l L) (h0 : L ≠ []) (hs : ∀ x ∈ L, (sprd x.sels).any (hasNm L) = true) : Cyc l := by
  refine stuck (L := L.map fun x => x.nm.toList) (by cases L <;> simp at h0 ⊢) fun n hn => ?_
  obtain ⟨x, hx, rfl⟩ := List.mem_map.1 hn
  obtain ⟨s, h1, h2⟩ := List.any_eq_true.1 (hs x hx)
  unfold hasNm at h2
  obtain ⟨y, hy, h3⟩ := List.any_eq_true.1 h2
  refine ⟨y.nm.toList, List.mem_map.2 ⟨y, hy, rfl⟩, ?_⟩
  rw [spE_of (h.1 x hx), beq_iff_eq.1 h3]
  exact List.mem_map.2 ⟨s, h1, rfl⟩
theorem filter_lt {L : List De} {x : De} (hx : x ∈ L) : (L.filter fun y => !(y.nm.toList == x.nm.toList)).length < L.length := by
  refine Nat.lt_of_le_of_ne (List.length_filter_le _ _) fun e => ?_
  have := List.length_filter_eq_length_iff.1 e x hx
  simp at this
/-- The names come to from a fragment, gone through one by one. -/
structure SeenOK (l : List De) (n : List UInt8) (k : Nat) (S : List (List UInt8)) : Prop where
  rc : ∀ m ∈ S, Rc (spE l) n m
  first : ∀ m ∈ spE l n, m ∈ S
  done : ∀ j, (h : j < S.length) → j < k → S[j] ≠ n ∧ ∀ m ∈ spE l S[j], m ∈ S
theorem seen_end {l : List De} {n : List UInt8} {S : List (List UInt8)} (h : SeenOK l n S.length S) : ¬ Rc (spE l) n n := fun hn => by
  have := closed (S := S) h.first (fun x hx y hy => by
    obtain ⟨j, hj, rfl⟩ := List.getElem_of_mem hx
    exact (h.done j hj hj).2 y hy) hn
  obtain ⟨j, hj, e⟩ := List.getElem_of_mem this
  exact (h.done j hj hj).1 e
end Go.Proofs.Ytajjaddlalbnmaa
namespace Go.Proofs.Ytajjaddlalbnmaa
open Go.ChangeShapes Go.WideShapes Go.ChangeAt Go.RowKit
set_option linter.unusedVariables false

/-- A set as a list. -/
def toL : Sels → List (Hd × Sels)
  | .nil => []
  | .cons h sub rest => (h, sub) :: toL rest
theorem toL_len : ∀ s : Sels, (toL s).length = s.len
  | .nil => rfl
  | .cons h sub rest => by simp [toL, Sels.len, toL_len rest]
/-- What stands in a selection; in a spread what it spreads. -/
def frS (l : List De) (n : ByteArray) : Sels := match l.find? (isFr n) with
  | none => .nil
  | some x => x.sels
def inS (l : List De) (x : Hd × Sels) : Sels := if (x.1.k == 2) = true then frS l x.1.nm else x.2
/-- Going through a set that stands in d fields, n selections gone through: the code, and how many then. -/
inductive Lim (l : List De) : List (Hd × Sels) → Nat → Nat → Int → Nat → Prop
  | nil {d n : Nat} : Lim l [] d n 0 n
  | deep {x : Hd × Sels} {r : List (Hd × Sels)} {d n : Nat} : 11 < d → Lim l (x :: r) d n 8 n
  | many {x : Hd × Sels} {r : List (Hd × Sels)} {d n : Nat} : d ≤ 11 → 400 ≤ n → Lim l (x :: r) d n 6 (n + 1)
  | bad {x : Hd × Sels} {r : List (Hd × Sels)} {d n m : Nat} {c : Int} : d ≤ 11 → n < 400 → Lim l (toL (inS l x)) (d + if (x.1.k == 1) = true then 1 else 0) (n + 1) c m → c ≠ 0 → Lim l (x :: r) d n c m
  | ok {x : Hd × Sels} {r : List (Hd × Sels)} {d n m k : Nat} {c : Int} : d ≤ 11 → n < 400 → Lim l (toL (inS l x)) (d + if (x.1.k == 1) = true then 1 else 0) (n + 1) 0 m → Lim l r d m c k → Lim l (x :: r) d n c k
theorem Lim.det {l : List De} {s : List (Hd × Sels)} {d n m : Nat} {c : Int} (h : Lim l s d n c m) : ∀ {c' : Int} {m' : Nat}, Lim l s d n c' m' → c = c' ∧ m = m' := by
  induction h with
  | nil => intro c' m' h'; cases h'; exact ⟨rfl, rfl⟩
  | deep h1 =>
    intro c' m' h'
    cases h' with
    | deep _ => exact ⟨rfl, rfl⟩
    | many h2 _ => omega
    | bad h2 _ _ _ => omega
    | ok h2 _ _ _ => omega
  | many h1 h2 =>
    intro c' m' h'
    cases h' with
    | deep h3 => omega
    | many _ _ => exact ⟨rfl, rfl⟩
    | bad _ h3 _ _ => omega
    | ok _ h3 _ _ => omega
  | bad h1 h2 h3 h4 ih =>
    intro c' m' h'
    cases h' with
    | deep h5 => omega
    | many _ h5 => omega
    | bad _ _ h5 _ => exact ih h5
    | ok _ _ h5 _ => exact absurd (ih h5).1 h4
  | ok h1 h2 h3 h4 ih3 ih4 =>
    intro c' m' h'
    cases h' with
    | deep h5 => omega
    | many _ h5 => omega
    | bad _ _ h5 h6 => exact absurd (ih3 h5).1.symm h6
    | ok _ _ h5 h6 =>
      obtain ⟨_, rfl⟩ := ih3 h5
      exact ih4 h6
theorem Lim.up {l : List De} {s : List (Hd × Sels)} {d n m : Nat} {c : Int} (h : Lim l s d n c m) : n ≤ m := by
  induction h with
  | nil => exact Nat.le_refl _
  | deep _ => exact Nat.le_refl _
  | many _ _ => omega
  | bad _ _ _ _ ih => omega
  | ok _ _ _ _ ih1 ih2 => omega
theorem Lim.top {l : List De} {s : List (Hd × Sels)} {d n m : Nat} {c : Int} (h : Lim l s d n c m) (hn : n ≤ 400) : m ≤ 401 ∧ (c = 0 → m ≤ 400) ∧ (c = 6 → m = 401) := by
  induction h with
  | nil => exact ⟨by omega, fun _ => hn, fun h => by cases h⟩
  | deep _ => exact ⟨by omega, fun h => (by cases h), fun h => by cases h⟩
  | many _ h => exact ⟨by omega, fun h => (by cases h), fun _ => by omega⟩
  | bad _ h _ hc ih => have := ih (by omega); exact ⟨this.1, fun h => absurd h hc, this.2.2⟩
  | ok _ h _ _ ih1 ih2 => have h1 := ih1 (by omega); exact ih2 (h1.2.1 rfl)
theorem Lim.codes {l : List De} {s : List (Hd × Sels)} {d n m : Nat} {c : Int} (h : Lim l s d n c m) : c = 0 ∨ c = 6 ∨ c = 8 := by
  induction h with
  | nil => exact .inl rfl
  | deep _ => exact .inr (.inr rfl)
  | many _ _ => exact .inr (.inl rfl)
  | bad _ _ _ _ ih => exact ih
  | ok _ _ _ _ _ ih => exact ih
/-- How many selections a set has, spreads being what they spread. -/
inductive Ex (l : List De) : List (Hd × Sels) → Nat → Prop
  | nil : Ex l [] 0
  | cons {x : Hd × Sels} {r : List (Hd × Sels)} {a b : Nat} : Ex l (toL (inS l x)) a → Ex l r b → Ex l (x :: r) (1 + a + b)
theorem Lim.ex {l : List De} {s : List (Hd × Sels)} {d n m : Nat} {c : Int} (h : Lim l s d n c m) : c = 0 → ∃ a, Ex l s a ∧ m = n + a := by
  induction h with
  | nil => exact fun _ => ⟨0, .nil, rfl⟩
  | deep _ => exact fun h => by cases h
  | many _ _ => exact fun h => by cases h
  | bad _ _ _ hc _ => exact fun h => absurd h hc
  | ok _ _ _ _ ih1 ih2 =>
    intro hc
    obtain ⟨a, ha, e⟩ := ih1 rfl
    obtain ⟨b, hb, e'⟩ := ih2 hc
    exact ⟨_, .cons ha hb, by omega⟩
theorem Ex.append {l : List De} {s t : List (Hd × Sels)} {a b : Nat} (h : Ex l s a) (h' : Ex l t b) : Ex l (s ++ t) (a + b) := by
  induction h with
  | nil => simpa using h'
  | cons h1 h2 ih1 ih2 =>
    have := Ex.cons h1 ih2
    rwa [show ∀ a b c : Nat, 1 + a + (b + c) = 1 + a + b + c by intros; omega] at this
/-- The fields of a set, inline ones and spreads put in their places. -/
inductive Flat (l : List De) : List (Hd × Sels) → List (Hd × Sels) → Prop
  | nil : Flat l [] []
  | fld {x : Hd × Sels} {r f : List (Hd × Sels)} : (x.1.k == 1) = true → Flat l r f → Flat l (x :: r) (x :: f)
  | oth {x : Hd × Sels} {r f g : List (Hd × Sels)} : (x.1.k == 1) = false → Flat l (toL (inS l x)) g → Flat l r f → Flat l (x :: r) (g ++ f)
theorem Flat.det {l : List De} {s f : List (Hd × Sels)} (h : Flat l s f) : ∀ {f' : List (Hd × Sels)}, Flat l s f' → f = f' := by
  induction h with
  | nil => intro f' h'; cases h'; rfl
  | fld h1 h2 ih =>
    intro f' h'
    cases h' with
    | fld _ h3 => rw [ih h3]
    | oth h3 _ _ => rw [h1] at h3; cases h3
  | oth h1 h2 h3 ih2 ih3 =>
    intro f' h'
    cases h' with
    | fld h4 _ => rw [h1] at h4; cases h4
    | oth _ h5 h6 => rw [ih2 h5, ih3 h6]
/-- Fields, how many selections are in all of them together, and they themselves. -/
inductive ExF (l : List De) : List (Hd × Sels) → Nat → Prop
  | nil : ExF l [] 0
  | cons {x : Hd × Sels} {r : List (Hd × Sels)} {a b : Nat} : (x.1.k == 1) = true → Ex l (toL x.2) a → ExF l r b → ExF l (x :: r) (1 + a + b)
theorem ExF.append {l : List De} {s t : List (Hd × Sels)} {a b : Nat} (h : ExF l s a) (h' : ExF l t b) : ExF l (s ++ t) (a + b) := by
  induction h with
  | nil => simpa using h'
  | cons h0 h1 h2 ih2 =>
    have := ExF.cons h0 h1 ih2
    rwa [show ∀ a b c : Nat, 1 + a + (b + c) = 1 + a + b + c by intros; omega] at this
theorem Ex.flat {l : List De} {s : List (Hd × Sels)} {a : Nat} (h : Ex l s a) : ∃ f m, Flat l s f ∧ ExF l f m ∧ m ≤ a := by
  induction h with
  | nil => exact ⟨[], 0, .nil, .nil, Nat.le_refl _⟩
  | @cons x r a b h1 h2 ih1 ih2 =>
    obtain ⟨f, m, hf, he, hm⟩ := ih2
    cases hk : (x.1.k == 1) with
    | true =>
      have e : inS l x = x.2 := by
        unfold inS
        rw [if_neg]
        rw [beq_iff_eq] at hk
        rw [hk]; decide
      rw [e] at h1
      exact ⟨x :: f, _, .fld hk hf, .cons hk h1 he, by omega⟩
    | false =>
      obtain ⟨g, m', hg, he', hm'⟩ := ih1
      exact ⟨g ++ f, _, .oth hk hg hf, he'.append he, by omega⟩
theorem ExF.len {l : List De} {s : List (Hd × Sels)} {a : Nat} (h : ExF l s a) : s.length ≤ a := by
  induction h with
  | nil => exact Nat.le_refl _
  | cons _ _ _ ih => simp; omega
theorem Ex.len {l : List De} {s : List (Hd × Sels)} {a : Nat} (h : Ex l s a) : s.length ≤ a := by
  induction h with
  | nil => exact Nat.le_refl _
  | cons _ _ ih1 ih2 => simp; omega
/-- The name that a field is answered under. -/
def kyB (h : Hd) : ByteArray := if (h.al.toList == []) = true then h.nm else h.al
def kyL (x : Hd × Sels) : List UInt8 := (kyB x.1).toList
/-- The fields of one key, and their sets one behind the other. -/
def ofK (k : List UInt8) (f : List (Hd × Sels)) : List (Hd × Sels) := f.filter fun x => kyL x == k
def tog (f : List (Hd × Sels)) : List (Hd × Sels) := f.flatMap fun x => toL x.2
theorem ExF.tog {l : List De} {s : List (Hd × Sels)} {a : Nat} (h : ExF l s a) : ∃ b, Ex l (tog s) b ∧ b + s.length ≤ a := by
  induction h with
  | nil => exact ⟨0, .nil, Nat.le_refl _⟩
  | cons h0 h1 h2 ih =>
    obtain ⟨b, hb, hl⟩ := ih
    have h3 := h1.append hb
    rw [Go.Proofs.Ytajjaddlalbnmaa.tog] at h3 ⊢
    rw [List.flatMap_cons]
    exact ⟨_, h3, by simp; omega⟩
theorem ExF.filter {l : List De} {s : List (Hd × Sels)} {a : Nat} (h : ExF l s a) (p : Hd × Sels → Bool) : ∃ b, ExF l (s.filter p) b ∧ b ≤ a := by
  induction h with
  | nil => exact ⟨0, .nil, Nat.le_refl _⟩
  | @cons x r a b h0 h1 h2 ih =>
    obtain ⟨c, hc, hl⟩ := ih
    cases hp : p x with
    | true => rw [List.filter_cons_of_pos hp]; exact ⟨_, .cons h0 h1 hc, by omega⟩
    | false => rw [List.filter_cons_of_neg (by simp [hp])]; exact ⟨c, hc, by omega⟩
theorem ExF.group {l : List De} {f : List (Hd × Sels)} {a : Nat} (h : ExF l f a) {x : Hd × Sels} (hx : x ∈ f) : ∃ b, Ex l (Go.Proofs.Ytajjaddlalbnmaa.tog (ofK (kyL x) f)) b ∧ b < a := by
  obtain ⟨b, hb, hl⟩ := h.filter fun y => kyL y == kyL x
  obtain ⟨c, hc, hl2⟩ := hb.tog
  have : 0 < (ofK (kyL x) f).length := List.length_pos_of_mem (List.mem_filter.2 ⟨hx, by simp⟩)
  exact ⟨c, hc, by unfold ofK at this; omega⟩
/-- Two fields ask the same. -/
def SameA (x y : Hd) : Prop := x.nm.toList = y.nm.toList ∧ x.args.Perm y.args
theorem SameA.symm {x y : Hd} (h : SameA x y) : SameA y x := ⟨h.1.symm, h.2.symm⟩
theorem SameA.trans {x y z : Hd} (h : SameA x y) (h' : SameA y z) : SameA x z := ⟨h.1.trans h'.1, h.2.trans h'.2⟩
/-- Fields of one key ask the same, and their selections together merge likewise. -/
inductive MOk (l : List De) : List (Hd × Sels) → Prop
  | mk {s f : List (Hd × Sels)} : Flat l s f → (∀ x ∈ f, ∀ y ∈ f, kyL x = kyL y → SameA x.1 y.1) → (∀ x ∈ f, MOk l (tog (ofK (kyL x) f))) → MOk l s
theorem MOk.inv {l : List De} {s f : List (Hd × Sels)} (h : MOk l s) (hf : Flat l s f) : (∀ x ∈ f, ∀ y ∈ f, kyL x = kyL y → SameA x.1 y.1) ∧ ∀ x ∈ f, MOk l (tog (ofK (kyL x) f)) := by
  cases h with
  | mk h1 h2 h3 => rw [hf.det h1]; exact ⟨h2, h3⟩
/-- No argument comes twice, in the set and in those within it. -/
def AOk : Sels → Prop
  | .nil => True
  | .cons h sub rest => (h.args.map fun a => a.nm.toList).Nodup ∧ AOk sub ∧ AOk rest
def AOkL (s : List (Hd × Sels)) : Prop := ∀ x ∈ s, (x.1.args.map fun a => a.nm.toList).Nodup ∧ AOk x.2
theorem AOk.toL : ∀ {s : Sels}, AOk s → AOkL (Go.Proofs.Ytajjaddlalbnmaa.toL s)
  | .nil, _ => fun x hx => by simp [Go.Proofs.Ytajjaddlalbnmaa.toL] at hx
  | .cons h sub rest, hs => fun x hx => by
    rcases List.mem_cons.1 hx with rfl | hx
    · exact ⟨hs.1, hs.2.1⟩
    · exact AOk.toL hs.2.2 x hx
theorem AOk.inS {l : List De} (hl : ∀ x ∈ l, AOk x.sels) {x : Hd × Sels} (hx : AOk x.2) : AOk (Go.Proofs.Ytajjaddlalbnmaa.inS l x) := by
  unfold Go.Proofs.Ytajjaddlalbnmaa.inS frS
  split
  · split
    · trivial
    · rename_i y hy; exact hl y (List.mem_of_find?_eq_some hy)
  · exact hx
theorem AOkL.flat {l : List De} (hl : ∀ x ∈ l, AOk x.sels) {s f : List (Hd × Sels)} (h : Flat l s f) : AOkL s → AOkL f := by
  induction h with
  | nil => exact fun h => h
  | fld h1 h2 ih =>
    intro hs y hy
    rcases List.mem_cons.1 hy with rfl | hy
    · exact hs y (by simp)
    · exact ih (fun z hz => hs z (by simp [hz])) y hy
  | oth h1 h2 h3 ih2 ih3 =>
    intro hs y hy
    rcases List.mem_append.1 hy with hy | hy
    · exact ih2 (AOk.inS hl (hs _ (by simp)).2).toL y hy
    · exact ih3 (fun z hz => hs z (by simp [hz])) y hy
theorem AOkL.tog {f : List (Hd × Sels)} (h : AOkL f) : AOkL (Go.Proofs.Ytajjaddlalbnmaa.tog f) := fun y hy => by
  unfold Go.Proofs.Ytajjaddlalbnmaa.tog at hy
  obtain ⟨x, hx, hxy⟩ := List.mem_flatMap.1 hy
  exact (h x hx).2.toL y hxy
theorem AOkL.ofK {f : List (Hd × Sels)} (h : AOkL f) (k : List UInt8) : AOkL (Go.Proofs.Ytajjaddlalbnmaa.ofK k f) := fun y hy => h y (List.mem_filter.1 hy).1
end Go.Proofs.Ytajjaddlalbnmaa
namespace Go.Proofs.Ytajjaddlalbnmaa
open Go.ChangeShapes Go.WideShapes Go.ChangeAt Go.RowKit
set_option linter.unusedVariables false

/-- A selection's six cells; its lists lie in the world w0. -/
def FAt (w0 : World) (rd : Nat → Option Value) (o : Nat) (x : Hd × Sels) : Prop := HdAt 0 w0.heap.size w0 rd o x.1 ∧ ∃ a c, rd (o + 5) = some (.slice a x.2.len c) ∧ SelRow 0 w0.heap.size w0 a x.2
abbrev FRow (w0 : World) := Row (FAt w0) 6
theorem FAt.up {w0 w1 : World} {rd : Nat → Option Value} {o : Nat} {x : Hd × Sels} (h : FAt w0 rd o x) (hb : Below w0.heap.size w0 w1) : FAt w1 rd o x := by
  obtain ⟨h1, a, c, h2, h3⟩ := h
  exact ⟨(h1.keep (Below.agree hb (Nat.le_refl _))).wide (Nat.le_refl _) hb.size, a, c, h2, h3.up hb⟩
theorem FAt.cells {w0 : World} {rd : Nat → Option Value} {o : Nat} {x : Hd × Sels} (h : FAt w0 rd o x) : ∃ a1 c1 a2 c2 a3 c3, rd o = some (.int .i64 x.1.k) ∧ rd (o + 1) = some (.string x.1.al) ∧ rd (o + 2) = some (.string x.1.nm) ∧ rd (o + 3) = some (.slice a1 x.1.args.length c1) ∧ rd (o + 4) = some (.slice a2 x.1.dirs.length c2) ∧ rd (o + 5) = some (.slice a3 x.2.len c3) ∧
    ArRow 0 w0.heap.size w0 a1 x.1.args ∧ x.1.args.length ≤ c1 ∧ DiRow 0 w0.heap.size w0 a2 x.1.dirs ∧ SelRow 0 w0.heap.size w0 a3 x.2 := by
  obtain ⟨⟨h0, h1, h2, ⟨a1, c1, h3, hq, r1⟩, ⟨a2, c2, h4, r2⟩⟩, a3, c3, h5, r3⟩ := h
  exact ⟨a1, c1, a2, c2, a3, c3, h0, h1, h2, h3, h4, h5, r1, hq, r2, r3⟩
theorem FAt.of {w0 : World} {rd : Nat → Option Value} {o : Nat} {x : Hd × Sels} {a1 a2 a3 : Option Addr} {c1 c2 c3 : Nat} (h0 : rd o = some (.int .i64 x.1.k)) (h1 : rd (o + 1) = some (.string x.1.al)) (h2 : rd (o + 2) = some (.string x.1.nm)) (h3 : rd (o + 3) = some (.slice a1 x.1.args.length c1)) (h4 : rd (o + 4) = some (.slice a2 x.1.dirs.length c2)) (h5 : rd (o + 5) = some (.slice a3 x.2.len c3))
    (r1 : ArRow 0 w0.heap.size w0 a1 x.1.args) (hq : x.1.args.length ≤ c1) (r2 : DiRow 0 w0.heap.size w0 a2 x.1.dirs) (r3 : SelRow 0 w0.heap.size w0 a3 x.2) : FAt w0 rd o x :=
  ⟨⟨h0, h1, h2, ⟨a1, c1, h3, hq, r1⟩, ⟨a2, c2, h4, r2⟩⟩, a3, c3, h5, r3⟩
theorem SelPre.fat {w0 : World} : ∀ {s : Sels} {rd : Nat → Option Value} {o : Nat}, SelPre 0 w0.heap.size w0 s rd o s.len → ∀ i x, (toL s)[i]? = some x → FAt w0 rd (o + i * 6) x
  | .nil, _, _, _, i, x, hx => by simp [toL] at hx
  | .cons h sub rest, rd, o, hp, i, x, hx => by
    obtain ⟨p1, p2, p3⟩ := SelPre.head hp
    cases i with
    | zero =>
      simp only [toL, List.getElem?_cons_zero, Option.some.injEq] at hx
      subst hx
      rw [Nat.zero_mul, Nat.add_zero]
      exact ⟨p1, p2⟩
    | succ i =>
      have := SelPre.fat p3 i x (by simpa [toL] using hx)
      rwa [show o + (i + 1) * 6 = o + 6 + i * 6 by omega]
theorem SelRow.fr {w0 : World} {a : Option Addr} {s : Sels} (h : SelRow 0 w0.heap.size w0 a s) : FRow w0 0 w0.heap.size w0 a (toL s) := by
  rcases h with rfl | ⟨b, o, rfl, h1, h2, h3⟩
  · exact .inl rfl
  · exact .inr ⟨b, o, rfl, h1, h2, fun i x hx => h3.fat i x hx⟩
theorem SelRow.fr2 {w0 w : World} {a : Option Addr} {s : Sels} (h : SelRow 0 w0.heap.size w0 a s) (hb : Below w0.heap.size w0 w) : FRow w0 0 w.heap.size w a (toL s) := Row.up h.fr hb
/-- One of a list, its cells. -/
theorem FRow.cells {w0 w : World} {a : Option Addr} {f : List (Hd × Sels)} (h : FRow w0 0 w.heap.size w a f) (k : Nat) (hk : k < f.length) :
    ∃ b o a1 c1 a2 c2 a3 c3, a = some ⟨b, o, none⟩ ∧ b < w.heap.size ∧ w.cell? ⟨b, o + k * 6, none⟩ = some (.int .i64 f[k].1.k) ∧ w.cell? ⟨b, o + k * 6 + 1, none⟩ = some (.string f[k].1.al) ∧ w.cell? ⟨b, o + k * 6 + 2, none⟩ = some (.string f[k].1.nm) ∧
      w.cell? ⟨b, o + k * 6 + 3, none⟩ = some (.slice a1 f[k].1.args.length c1) ∧ w.cell? ⟨b, o + k * 6 + 4, none⟩ = some (.slice a2 f[k].1.dirs.length c2) ∧ w.cell? ⟨b, o + k * 6 + 5, none⟩ = some (.slice a3 f[k].2.len c3) ∧
      ArRow 0 w0.heap.size w0 a1 f[k].1.args ∧ f[k].1.args.length ≤ c1 ∧ DiRow 0 w0.heap.size w0 a2 f[k].1.dirs ∧ SelRow 0 w0.heap.size w0 a3 f[k].2 := by
  obtain ⟨b, o, h1, h2, h3, h4⟩ := h.at_ k hk
  obtain ⟨a1, c1, a2, c2, a3, c3, q⟩ := h4.cells
  exact ⟨b, o, a1, c1, a2, c2, a3, c3, h1, h3, q⟩
/-- The cells of a list of selections. -/
def VsOf (w0 : World) (f : List (Hd × Sels)) (vs : List Value) : Prop := vs.length = f.length * 6 ∧ (∀ u ∈ vs, u.oneCell' = true) ∧ ∀ i x, f[i]? = some x → FAt w0 (fun j => vs[j]?) (i * 6) x
theorem VsOf.nil (w0 : World) : VsOf w0 [] [] := ⟨rfl, fun u hu => by simp at hu, fun i x hx => by simp at hx⟩
theorem FAt.move {w0 : World} {rd rd' : Nat → Option Value} {o o' : Nat} {x : Hd × Sels} (h : FAt w0 rd o x) (hm : ∀ j, j < 6 → rd' (o' + j) = rd (o + j)) : FAt w0 rd' o' x := by
  obtain ⟨a1, c1, a2, c2, a3, c3, h0, h1, h2, h3, h4, h5, r1, hq, r2, r3⟩ := h.cells
  exact FAt.of ((hm 0 (by omega)).trans h0) ((hm 1 (by omega)).trans h1) ((hm 2 (by omega)).trans h2) ((hm 3 (by omega)).trans h3) ((hm 4 (by omega)).trans h4) ((hm 5 (by omega)).trans h5) r1 hq r2 r3
theorem VsOf.append {w0 : World} {f g : List (Hd × Sels)} {vs us : List Value} (h : VsOf w0 f vs) (h' : VsOf w0 g us) : VsOf w0 (f ++ g) (vs ++ us) := by
  obtain ⟨l1, o1, f1⟩ := h
  obtain ⟨l2, o2, f2⟩ := h'
  refine ⟨by rw [List.length_append, List.length_append, l1, l2, Nat.add_mul], fun u hu => ?_, fun i x hx => ?_⟩
  · rcases List.mem_append.1 hu with hu | hu
    · exact o1 u hu
    · exact o2 u hu
  · by_cases hi : i < f.length
    · rw [List.getElem?_append_left hi] at hx
      refine (f1 i x hx).move fun j hj => ?_
      show (vs ++ us)[i * 6 + j]? = vs[i * 6 + j]?
      rw [List.getElem?_append_left (by rw [l1]; omega)]
    · rw [List.getElem?_append_right (by omega)] at hx
      refine (f2 _ x hx).move fun j hj => ?_
      show (vs ++ us)[i * 6 + j]? = us[(i - f.length) * 6 + j]?
      rw [List.getElem?_append_right (by rw [l1]; omega), l1, Nat.sub_mul]
      congr 1; omega
theorem VsOf.one {w0 : World} {x : Hd × Sels} {a1 a2 a3 : Option Addr} {c1 c2 c3 : Nat} (r1 : ArRow 0 w0.heap.size w0 a1 x.1.args) (hq : x.1.args.length ≤ c1) (r2 : DiRow 0 w0.heap.size w0 a2 x.1.dirs) (r3 : SelRow 0 w0.heap.size w0 a3 x.2) :
    VsOf w0 [x] [.int .i64 x.1.k, .string x.1.al, .string x.1.nm, .slice a1 x.1.args.length c1, .slice a2 x.1.dirs.length c2, .slice a3 x.2.len c3] := by
  refine ⟨rfl, fun u hu => ?_, fun i y hy => ?_⟩
  · simp only [List.mem_cons, List.not_mem_nil, or_false] at hu
    rcases hu with rfl | rfl | rfl | rfl | rfl | rfl <;> rfl
  · cases i with
    | zero =>
      simp only [List.getElem?_cons_zero, Option.some.injEq] at hy
      subst hy
      exact FAt.of (a1 := a1) (c1 := c1) (a2 := a2) (c2 := c2) (a3 := a3) (c3 := c3) rfl rfl rfl rfl rfl rfl r1 hq r2 r3
    | succ i => simp at hy
theorem VsOf.nodes {w0 : World} {rd : Nat → Option Value} : ∀ (f : List (Hd × Sels)) (o : Nat), (∀ i x, f[i]? = some x → FAt w0 rd (o + i * 6) x) → ∃ vs, VsOf w0 f vs ∧ ∀ j u, vs[j]? = some u → rd (o + j) = some u
  | [], o, _ => ⟨[], VsOf.nil w0, fun j u h => by simp at h⟩
  | x :: f, o, h => by
    obtain ⟨vs, hv, hc⟩ := VsOf.nodes f (o + 6) fun i y hy => by
      have := h (i + 1) y (by simpa using hy)
      rwa [show o + (i + 1) * 6 = o + 6 + i * 6 by omega] at this
    have h0 := h 0 x rfl
    rw [Nat.zero_mul, Nat.add_zero] at h0
    obtain ⟨a1, c1, a2, c2, a3, c3, k0, k1, k2, k3, k4, k5, r1, hq, r2, r3⟩ := h0.cells
    refine ⟨_, VsOf.append (VsOf.one (c2 := c2) (c3 := c3) r1 hq r2 r3) hv, fun j u hj => ?_⟩
    by_cases h6 : j < 6
    · rw [List.getElem?_append_left (by simpa using h6)] at hj
      match j, h6, hj with
      | 0, _, hu => exact k0.trans hu
      | 1, _, hu => exact k1.trans hu
      | 2, _, hu => exact k2.trans hu
      | 3, _, hu => exact k3.trans hu
      | 4, _, hu => exact k4.trans hu
      | 5, _, hu => exact k5.trans hu
    · rw [List.getElem?_append_right (by simp; omega)] at hj
      have := hc _ u hj
      rw [← this]
      congr 1; simp; omega
theorem FRow.vals {w0 w : World} {a : Option Addr} {f : List (Hd × Sels)} (h : FRow w0 0 w.heap.size w a f) (h0 : 0 < f.length) : ∃ ad vs, a = some ad ∧ VsOf w0 f vs ∧ ∀ j u, vs[j]? = some u → w.cell? (ad.add j) = some u := by
  rcases h with rfl | ⟨b, o, rfl, _, h2, h3⟩
  · simp at h0
  · obtain ⟨vs, hv, hc⟩ := VsOf.nodes f o h3
    exact ⟨_, vs, rfl, hv, fun j u hj => by rw [add_plain]; exact hc j u hj⟩
/-- A list of selections in a block of its own that may grow. -/
def FOwn (w0 : World) (base : Nat) (e : TypeId) (w : World) (v : Value) (f : List (Hd × Sels)) : Prop := ∃ vs, w.ownsRow base e 6 v f.length vs ∧ VsOf w0 f vs
theorem FOwn.row {w0 w : World} {base : Nat} {e : TypeId} {v : Value} {f : List (Hd × Sels)} (h : FOwn w0 base e w v f) : ∃ a c, v = .slice a f.length c ∧ f.length ≤ c ∧ FRow w0 0 w.heap.size w a f := by
  obtain ⟨vs, hown, hl, _, hv⟩ := h
  rcases hown.2 with ⟨rfl, h0⟩ | ⟨g, cap, cur, rfl, q1, q2, q3, q4, q5, q6⟩
  · refine ⟨none, 0, by rw [h0], by omega, .inl (List.length_eq_zero_iff.1 h0)⟩
  · refine ⟨_, _, rfl, q3, .inr ⟨g, 0, rfl, Nat.zero_le _, (Array.getElem?_eq_some_iff.1 q2).1, fun i x hx => ?_⟩⟩
    have hi := (List.getElem?_eq_some_iff.1 hx).1
    refine (hv i x hx).move fun j hj => ?_
    rw [row_rd q2, ← q6, List.getElem?_take, if_pos (by omega)]
    simp
theorem owns_sameV {w w' : World} {base : Nat} {e : TypeId} {size : Nat} {v : Value} {n : Nat} {xs : List Value} (h : w.ownsRow base e size v n xs) (hs : ∀ g, v.ownBlock = some g → w'.heap[g]? = w.heap[g]?) : w'.ownsRow base e size v n xs := by
  refine ⟨h.1, ?_⟩
  rcases h.2 with h0 | ⟨g, cap, cur, rfl, q1, q2, q3⟩
  · exact .inl h0
  · exact .inr ⟨g, cap, cur, rfl, q1, (hs g rfl).trans q2, q3⟩
theorem FOwn.keep {w0 w w' : World} {base : Nat} {e : TypeId} {v : Value} {f : List (Hd × Sels)} (h : FOwn w0 base e w v f) (hs : ∀ g, v.ownBlock = some g → w'.heap[g]? = w.heap[g]?) : FOwn w0 base e w' v f := by
  obtain ⟨vs, hown, hv⟩ := h
  exact ⟨vs, owns_sameV hown hs, hv⟩
theorem FOwn.lt {w0 w : World} {base : Nat} {e : TypeId} {v : Value} {f : List (Hd × Sels)} (h : FOwn w0 base e w v f) : ∀ g, v.ownBlock = some g → base ≤ g ∧ g < w.heap.size := by
  obtain ⟨vs, hown, hv⟩ := h
  intro g hg
  rcases hown.2 with ⟨rfl, h0⟩ | ⟨g', cap, cur, rfl, q1, q2, _⟩
  · simp [Value.ownBlock] at hg
  · simp only [Value.ownBlock, Option.some.injEq] at hg
    subst hg
    exact ⟨q1, (Array.getElem?_eq_some_iff.1 q2).1⟩
theorem FOwn.up {w0 w w' : World} {base : Nat} {e : TypeId} {v : Value} {f : List (Hd × Sels)} (h : FOwn w0 base e w v f) (hb : Below w.heap.size w w') : FOwn w0 base e w' v f :=
  h.keep fun g hg => hb.block g (h.lt g hg).2
theorem FOwn.elder {w0 w1 w : World} {base : Nat} {e : TypeId} {v : Value} {f : List (Hd × Sels)} (h : FOwn w0 base e w v f) (hb : Below w0.heap.size w0 w1) : FOwn w1 base e w v f := by
  obtain ⟨vs, hown, hl, ho, hv⟩ := h
  exact ⟨vs, hown, hl, ho, fun i x hx => (hv i x hx).up hb⟩
theorem FOwn.none (w0 w : World) (base : Nat) (e : TypeId) : FOwn w0 base e w (.slice none 0 0) [] := ⟨[], ⟨rfl, .inl ⟨rfl, rfl⟩⟩, VsOf.nil w0⟩
theorem FOwn.made (w0 w : World) (e : TypeId) {base : Nat} (hb : base ≤ w.heap.size) : FOwn w0 base e (w.alloc (.cells #[] e)) (.slice (some ⟨w.heap.size, 0, Option.none⟩) 0 0) [] := ⟨[], World.ownsRow_made w #[] 0 hb (Nat.zero_le _) (by simp), VsOf.nil w0⟩
end Go.Proofs.Ytajjaddlalbnmaa
namespace Go.Proofs.Ytajjaddlalbnmaa
open Go.ChangeShapes Go.WideShapes Go.ChangeAt Go.RowKit
set_option linter.unusedVariables false

theorem ownsRow_as {w : World} {base : Nat} {e : TypeId} {size : Nat} {v : Value} {n : Nat} {xs : List Value} (h : w.ownsRow base e size v n xs) : ∃ a c, v = .slice a n c ∧ n ≤ c := by
  rcases h.2 with ⟨rfl, h0⟩ | ⟨g, cap, cur, rfl, _, _, h3, _⟩
  · exact ⟨none, 0, by rw [h0], by omega⟩
  · exact ⟨_, _, rfl, h3⟩
theorem grown_same (w : World) (row : Option Nat) : w.grownBy w row := ⟨rfl, rfl, rfl, Nat.le_refl _, fun _ _ _ => rfl⟩
theorem wpList_append_any {P : Program} {w : World} {ops : Array Oper} {rest : List Oper} {o : Oper} {a : Act} {Q : Exit → Act → World → Prop} (hgd : o.guard = none) (s x : Operand) (t : TypeId)
    (ho : o.op = .call { callee := .builtin .append, args := #[s, x], argTypes := #[t, t] })
    (base : Nat) (e : TypeId) (i : TypeInfo) (z : Value) (size bytes : Nat) (ht : P.underlying t = some (.slice e)) (hi : P.info? e = some i) (hz : i.zero = some z)
    (hsize : i.size = size) (hby : i.bytes = bytes) (hzs : z.cells.size = size) (hsz : 0 < size)
    (v : Value) (n : Nat) (xs : List Value) (hs : a.eval s = v) (hown : w.ownsRow base e size v n xs)
    (p : Option Addr) (m c : Nat) (news : List Value) (hx : a.eval x = .slice p m c) (hl : news.length = m * size) (hsrc : m = 0 ∨ ∃ ad, p = some ad ∧ ∀ j u, news[j]? = some u → w.cell? (ad.add j) = some u) (h1 : ∀ u ∈ news, u.oneCell' = true)
    (h63 : n + m ≤ maxLen) (hbytes : (n + m) * bytes ≤ 140737488355328) (hbase : base ≤ w.heap.size)
    (h : ∀ a' c' w', w'.ownsRow base e size (.slice a' (n + m) c') (n + m) (xs ++ news) → w.grownBy w' v.ownBlock → ((Value.slice a' (n + m) c').ownBlock = v.ownBlock ∨ (Value.slice a' (n + m) c').ownBlock = some w.heap.size) → wpList P ops Q rest (a.put o.dst (.slice a' (n + m) c')) w') : wpList P ops Q (o :: rest) a w := by
  by_cases hm : m = 0
  · subst hm
    obtain rfl : news = [] := List.length_eq_zero_iff.1 (by omega)
    obtain ⟨a1, c1, rfl, hc⟩ := ownsRow_as hown
    have hsr : Src P i.size t (.slice p 0 c) 0 [] w := by
      cases p
      · exact Src.ofNil w ht c
      · exact Src.ofSlice w ht _ 0 c [] (by simp) (by simp) (by simp)
    have hr := run_append_nothing (P := P) w t t o.type e i ht hi a1 n c1 hc _ hsr
    refine wpList_plain hgd fun K hK => ?_
    unfold Oper.wp execOp
    simp only [ho, resolve, invoke, builtin, Sem.run_bind, Sem.run_pure, Result.andThen_ok, List.map_toArray, List.map_cons, List.map_nil, hs, hx, hr]
    refine hK _ _ (h a1 c1 w (by simpa using hown) (grown_same _ _) (.inl rfl))
  · obtain ⟨ad, rfl, hn⟩ : ∃ ad, p = some ad ∧ ∀ j u, news[j]? = some u → w.cell? (ad.add j) = some u := by
      rcases hsrc with h | h
      · exact absurd h hm
      · exact h
    refine wpList_append_lies w hgd s x t ho base e i z size bytes ht hi hz hsize hby hzs hsz v n xs hs hown ad m c news hx hl hn h1 (by omega) h63 hbytes hbase w.heap.size rfl ?_
    intro g cap w' hown' hgrow hat hlt'
    exact h _ _ _ hown' hgrow (by rcases hat with h | h; exact .inl h.symm; exact .inr (by rw [h]; rfl))

/-- A list of names in a block of its own. -/
def NOwn (base : Nat) (w : World) (v : Value) (ms : List ByteArray) : Prop := w.ownsRow base 9 1 v ms.length (ms.map Value.string)
def NmAt (rd : Nat → Option Value) (o : Nat) (s : ByteArray) : Prop := rd o = some (.string s)
abbrev NRow := Row NmAt 1
theorem NOwn.none (w : World) (base : Nat) : NOwn base w (.slice none 0 0) [] := ⟨rfl, .inl ⟨rfl, rfl⟩⟩
theorem NOwn.made (w : World) {base : Nat} (hb : base ≤ w.heap.size) : NOwn base (w.alloc (.cells #[] 9)) (.slice (some ⟨w.heap.size, 0, Option.none⟩) 0 0) [] := World.ownsRow_made w #[] 0 hb (Nat.zero_le _) (by simp)
theorem NOwn.row {w : World} {base : Nat} {v : Value} {ms : List ByteArray} (h : NOwn base w v ms) : ∃ a c, v = .slice a ms.length c ∧ ms.length ≤ c ∧ NRow 0 w.heap.size w a ms := by
  rcases h.2 with ⟨rfl, h0⟩ | ⟨g, cap, cur, rfl, q1, q2, q3, q4, q5, q6⟩
  · refine ⟨Option.none, 0, by rw [h0], by omega, .inl (List.length_eq_zero_iff.1 h0)⟩
  · refine ⟨_, _, rfl, q3, .inr ⟨g, 0, rfl, Nat.zero_le _, (Array.getElem?_eq_some_iff.1 q2).1, fun i x hx => ?_⟩⟩
    have hi := (List.getElem?_eq_some_iff.1 hx).1
    show rdOf _ _ (0 + i * 1) = _
    have : (ms.map Value.string)[i]? = some (.string x) := by rw [List.getElem?_map, hx]; rfl
    rw [← q6, List.getElem?_take, if_pos (by omega)] at this
    rw [row_rd q2, ← this]
    simp
theorem NOwn.keep {w w' : World} {base : Nat} {v : Value} {ms : List ByteArray} (h : NOwn base w v ms) (hs : ∀ g, v.ownBlock = some g → w'.heap[g]? = w.heap[g]?) : NOwn base w' v ms := owns_sameV h hs
theorem NOwn.lt {w : World} {base : Nat} {v : Value} {ms : List ByteArray} (h : NOwn base w v ms) : ∀ g, v.ownBlock = some g → base ≤ g ∧ g < w.heap.size := World.ownsRow.lt h
theorem NOwn.up {w w' : World} {base : Nat} {v : Value} {ms : List ByteArray} (h : NOwn base w v ms) (hb : Below w.heap.size w w') : NOwn base w' v ms := h.keep fun g hg => hb.block g (h.lt g hg).2
theorem NOwn.wide {w : World} {base base' : Nat} {v : Value} {ms : List ByteArray} (h : NOwn base w v ms) (hb : base' ≤ base) : NOwn base' w v ms := by
  refine ⟨h.1, ?_⟩
  rcases h.2 with h0 | ⟨g, cap, cur, h1, h2, h3⟩
  · exact .inl h0
  · exact .inr ⟨g, cap, cur, h1, by omega, h3⟩
theorem NRow.at_ {w : World} {a : Option Addr} {ms : List ByteArray} (h : NRow 0 w.heap.size w a ms) (k : Nat) (hk : k < ms.length) : ∃ b o, a = some ⟨b, o, none⟩ ∧ b < w.heap.size ∧ w.cell? ⟨b, o + k, none⟩ = some (.string ms[k]) := by
  obtain ⟨b, o, h1, _, h3, h4⟩ := Row.at_ h k hk
  exact ⟨b, o, h1, h3, by have h4 : w.cell? ⟨b, o + k * 1, none⟩ = _ := h4; rwa [Nat.mul_one] at h4⟩
theorem NRow.src {w : World} {a : Option Addr} {ms : List ByteArray} (h : NRow 0 w.heap.size w a ms) : ms.length = 0 ∨ ∃ ad, a = some ad ∧ ∀ j u, (ms.map Value.string)[j]? = some u → w.cell? (ad.add j) = some u := by
  rcases h with rfl | ⟨b, o, rfl, _, h2, h3⟩
  · exact .inl rfl
  · refine .inr ⟨_, rfl, fun j u hj => ?_⟩
    rw [List.getElem?_map] at hj
    cases hx : ms[j]? with
    | none => rw [hx] at hj; cases hj
    | some s =>
      rw [hx] at hj
      cases hj
      have := h3 j s hx
      rw [add_plain]
      have h4 : w.cell? ⟨b, o + j * 1, none⟩ = some (.string s) := this
      rwa [Nat.mul_one] at h4
theorem names_cells (ms : List ByteArray) : ∀ u ∈ ms.map Value.string, u.oneCell' = true := by
  intro u hu
  obtain ⟨s, _, rfl⟩ := List.mem_map.1 hu
  rfl
theorem info_strN : ∃ i, Try.prog.info? 9 = some i ∧ i.zero = some (.string ⟨#[]⟩) ∧ i.size = 1 ∧ i.bytes = 16 := by
  exact info_parts (by kernel_rfl)
/-- Names appended to a list of one's own. -/
theorem wpList_append_names {w : World} {ops : Array Oper} {rest : List Oper} {o : Oper} {a : Act} {Q : Exit → Act → World → Prop} (hgd : o.guard = none) (s x : Operand)
    (ho : o.op = .call { callee := .builtin .append, args := #[s, x], argTypes := #[59, 59] })
    (base : Nat) (v : Value) (ms ns : List ByteArray) (hs : a.eval s = v) (hown : NOwn base w v ms) (p : Option Addr) (c : Nat) (hx : a.eval x = .slice p ns.length c) (hr : NRow 0 w.heap.size w p ns)
    (h63 : ms.length + ns.length ≤ 1048576) (hbase : base ≤ w.heap.size)
    (h : ∀ a' c' w', NOwn base w' (.slice a' (ms.length + ns.length) c') (ms ++ ns) → w.grownBy w' v.ownBlock → ((Value.slice a' (ms.length + ns.length) c').ownBlock = v.ownBlock ∨ (Value.slice a' (ms.length + ns.length) c').ownBlock = some w.heap.size) → wpList Try.prog ops Q rest (a.put o.dst (.slice a' (ms.length + ns.length) c')) w') : wpList Try.prog ops Q (o :: rest) a w := by
  obtain ⟨i, hi, hz, hsz, hby⟩ := info_strN
  refine wpList_append_any hgd s x 59 ho base 9 i _ 1 16 Try.underlying59 hi hz hsz hby rfl (by decide) v ms.length _ hs hown p ns.length c (ns.map Value.string) hx (by simp) hr.src (names_cells _) (by unfold maxLen; omega) (by omega) hbase ?_
  intro a' c' w' ho' hg hat
  refine h a' c' w' ?_ hg hat
  unfold NOwn
  rw [List.length_append, List.map_append]
  exact ho'
theorem one_name (w : World) (s : ByteArray) : NRow 0 (w.alloc (.cells #[.string s] 9)).heap.size (w.alloc (.cells #[.string s] 9)) (some ⟨w.heap.size, 0, none⟩) [s] := by
  refine .inr ⟨w.heap.size, 0, rfl, Nat.zero_le _, by simp, fun i x hx => ?_⟩
  cases i with
  | zero =>
    simp only [List.getElem?_cons_zero, Option.some.injEq] at hx
    subst hx
    exact row_cell (heap_alloc_new _ _) 0
  | succ i => simp at hx
theorem info_selV : ∃ i, Try.prog.info? 63 = some i ∧ i.zero = some (.agg #[.int .i64 0, .string ⟨#[]⟩, .string ⟨#[]⟩, .slice none 0 0, .slice none 0 0, .slice none 0 0]) ∧ i.size = 6 ∧ i.bytes = 112 := by
  exact info_parts (by kernel_rfl)
/-- Selections appended to a list of one's own. -/
theorem wpList_append_sels {w0 w : World} {ops : Array Oper} {rest : List Oper} {o : Oper} {a : Act} {Q : Exit → Act → World → Prop} (hgd : o.guard = none) (s x : Operand)
    (ho : o.op = .call { callee := .builtin .append, args := #[s, x], argTypes := #[28, 28] })
    (base : Nat) (v : Value) (f g : List (Hd × Sels)) (hs : a.eval s = v) (hown : FOwn w0 base 63 w v f) (p : Option Addr) (c : Nat) (hx : a.eval x = .slice p g.length c) (hr : FRow w0 0 w.heap.size w p g)
    (h63 : f.length + g.length ≤ 1048576) (hbase : base ≤ w.heap.size)
    (h : ∀ a' c' w', FOwn w0 base 63 w' (.slice a' (f.length + g.length) c') (f ++ g) → w.grownBy w' v.ownBlock → ((Value.slice a' (f.length + g.length) c').ownBlock = v.ownBlock ∨ (Value.slice a' (f.length + g.length) c').ownBlock = some w.heap.size) → wpList Try.prog ops Q rest (a.put o.dst (.slice a' (f.length + g.length) c')) w') : wpList Try.prog ops Q (o :: rest) a w := by
  obtain ⟨i, hi, hz, hsz, hby⟩ := info_selV
  obtain ⟨vs, hown, hv⟩ := hown
  obtain ⟨us, hu, hsrc⟩ : ∃ us, VsOf w0 g us ∧ (g.length = 0 ∨ ∃ ad, p = some ad ∧ ∀ j u, us[j]? = some u → w.cell? (ad.add j) = some u) := by
    by_cases h0 : 0 < g.length
    · obtain ⟨ad, us, h1, h2, h3⟩ := FRow.vals hr h0
      exact ⟨us, h2, .inr ⟨ad, h1, h3⟩⟩
    · obtain rfl : g = [] := List.length_eq_zero_iff.1 (by omega)
      exact ⟨[], VsOf.nil w0, .inl rfl⟩
  refine wpList_append_any hgd s x 28 ho base 63 i _ 6 112 Try.underlying28 hi hz hsz hby rfl (by decide) v f.length _ hs hown p g.length c us hx hu.1 hsrc hu.2.1 (by unfold maxLen; omega) (by omega) hbase ?_
  intro a' c' w' ho' hg hat
  refine h a' c' w' ⟨vs ++ us, ?_, hv.append hu⟩ hg hat
  rw [List.length_append]
  exact ho'
theorem wp_append_anyO {P : Program} {w : World} {o : Oper} {a : Act} {K : Act → World → Prop} {Q : Exit → Act → World → Prop} (s x : Operand) (t : TypeId)
    (ho : o.op = .call { callee := .builtin .append, args := #[s, x], argTypes := #[t, t] })
    (base : Nat) (e : TypeId) (i : TypeInfo) (z : Value) (size bytes : Nat) (ht : P.underlying t = some (.slice e)) (hi : P.info? e = some i) (hz : i.zero = some z)
    (hsize : i.size = size) (hby : i.bytes = bytes) (hzs : z.cells.size = size) (hsz : 0 < size)
    (v : Value) (n : Nat) (xs : List Value) (hs : a.eval s = v) (hown : w.ownsRow base e size v n xs)
    (p : Option Addr) (m c : Nat) (news : List Value) (hx : a.eval x = .slice p m c) (hl : news.length = m * size) (hsrc : m = 0 ∨ ∃ ad, p = some ad ∧ ∀ j u, news[j]? = some u → w.cell? (ad.add j) = some u) (h1 : ∀ u ∈ news, u.oneCell' = true)
    (h63 : n + m ≤ maxLen) (hbytes : (n + m) * bytes ≤ 140737488355328) (hbase : base ≤ w.heap.size)
    (h : ∀ a' c' w', w'.ownsRow base e size (.slice a' (n + m) c') (n + m) (xs ++ news) → w.grownBy w' v.ownBlock → ((Value.slice a' (n + m) c').ownBlock = v.ownBlock ∨ (Value.slice a' (n + m) c').ownBlock = some w.heap.size) → K (a.put o.dst (.slice a' (n + m) c')) w') : o.wp P a w K Q := by
  by_cases hm : m = 0
  · subst hm
    obtain rfl : news = [] := List.length_eq_zero_iff.1 (by omega)
    obtain ⟨a1, c1, rfl, hc⟩ := ownsRow_as hown
    have hsr : Src P i.size t (.slice p 0 c) 0 [] w := by
      cases p
      · exact Src.ofNil w ht c
      · exact Src.ofSlice w ht _ 0 c [] (by simp) (by simp) (by simp)
    have hr := run_append_nothing (P := P) w t t o.type e i ht hi a1 n c1 hc _ hsr
    unfold Oper.wp execOp
    simp only [ho, resolve, invoke, builtin, Sem.run_bind, Sem.run_pure, Result.andThen_ok, List.map_toArray, List.map_cons, List.map_nil, hs, hx, hr]
    exact h a1 c1 w (by simpa using hown) (grown_same _ _) (.inl rfl)
  · obtain ⟨ad, rfl, hn⟩ : ∃ ad, p = some ad ∧ ∀ j u, news[j]? = some u → w.cell? (ad.add j) = some u := by
      rcases hsrc with h | h
      · exact absurd h hm
      · exact h
    refine wp_append_lies w s x t ho base e i z size bytes ht hi hz hsize hby hzs hsz v n xs hs hown ad m c news hx hl hn h1 (by omega) h63 hbytes hbase w.heap.size rfl ?_
    intro g cap w' hown' hgrow hat hlt'
    exact h _ _ _ hown' hgrow (by rcases hat with h | h; exact .inl h.symm; exact .inr (by rw [h]; rfl))
theorem wp_append_selsO {w0 w : World} {o : Oper} {a : Act} {K : Act → World → Prop} {Q : Exit → Act → World → Prop} (s x : Operand)
    (ho : o.op = .call { callee := .builtin .append, args := #[s, x], argTypes := #[28, 28] })
    (base : Nat) (v : Value) (f g : List (Hd × Sels)) (hs : a.eval s = v) (hown : FOwn w0 base 63 w v f) (p : Option Addr) (c : Nat) (hx : a.eval x = .slice p g.length c) (hr : FRow w0 0 w.heap.size w p g)
    (h63 : f.length + g.length ≤ 1048576) (hbase : base ≤ w.heap.size)
    (h : ∀ a' c' w', FOwn w0 base 63 w' (.slice a' (f.length + g.length) c') (f ++ g) → w.grownBy w' v.ownBlock → K (a.put o.dst (.slice a' (f.length + g.length) c')) w') : o.wp Try.prog a w K Q := by
  obtain ⟨i, hi, hz, hsz, hby⟩ := info_selV
  obtain ⟨vs, hown, hv⟩ := hown
  obtain ⟨us, hu, hsrc⟩ : ∃ us, VsOf w0 g us ∧ (g.length = 0 ∨ ∃ ad, p = some ad ∧ ∀ j u, us[j]? = some u → w.cell? (ad.add j) = some u) := by
    by_cases h0 : 0 < g.length
    · obtain ⟨ad, us, h1, h2, h3⟩ := FRow.vals hr h0
      exact ⟨us, h2, .inr ⟨ad, h1, h3⟩⟩
    · obtain rfl : g = [] := List.length_eq_zero_iff.1 (by omega)
      exact ⟨[], VsOf.nil w0, .inl rfl⟩
  refine wp_append_anyO s x 28 ho base 63 i _ 6 112 Try.underlying28 hi hz hsz hby rfl (by decide) v f.length _ hs hown p g.length c us hx hu.1 hsrc hu.2.1 (by unfold maxLen; omega) (by omega) hbase ?_
  intro a' c' w' ho' hg _
  refine h a' c' w' ⟨vs ++ us, ?_, hv.append hu⟩ hg
  rw [List.length_append]
  exact ho'
theorem one_sel {w0 : World} (w : World) (x : Hd × Sels) {a1 a2 a3 : Option Addr} {c1 c2 c3 : Nat} (r1 : ArRow 0 w0.heap.size w0 a1 x.1.args) (hq : x.1.args.length ≤ c1) (r2 : DiRow 0 w0.heap.size w0 a2 x.1.dirs) (r3 : SelRow 0 w0.heap.size w0 a3 x.2) :
    FRow w0 0 (w.alloc (.cells #[.int .i64 x.1.k, .string x.1.al, .string x.1.nm, .slice a1 x.1.args.length c1, .slice a2 x.1.dirs.length c2, .slice a3 x.2.len c3] 63)).heap.size (w.alloc (.cells #[.int .i64 x.1.k, .string x.1.al, .string x.1.nm, .slice a1 x.1.args.length c1, .slice a2 x.1.dirs.length c2, .slice a3 x.2.len c3] 63)) (some ⟨w.heap.size, 0, none⟩) [x] := by
  refine .inr ⟨w.heap.size, 0, rfl, Nat.zero_le _, by simp, fun i y hy => ?_⟩
  cases i with
  | zero =>
    simp only [List.getElem?_cons_zero, Option.some.injEq] at hy
    subst hy
    have q := fun o => row_cell (heap_alloc_new w (.cells #[.int .i64 x.1.k, .string x.1.al, .string x.1.nm, .slice a1 x.1.args.length c1, .slice a2 x.1.dirs.length c2, .slice a3 x.2.len c3] 63)) o
    exact FAt.of (a1 := a1) (c1 := c1) (a2 := a2) (c2 := c2) (a3 := a3) (c3 := c3) (q 0) (q 1) (q 2) (q 3) (q 4) (q 5) r1 hq r2 r3
  | succ i => simp at hy
end Go.Proofs.Ytajjaddlalbnmaa
