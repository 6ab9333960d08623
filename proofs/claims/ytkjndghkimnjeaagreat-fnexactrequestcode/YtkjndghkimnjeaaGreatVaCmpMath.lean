/- compareArgs is a total order. -/
import Derived.Test.YtkjndghkimnjeaaGreatVaCmpA
import Derived.Sort.Statements
namespace Go.Proofs.YtkjndghkimnjeaaGreat
set_option linter.unusedVariables false

theorem bl_irr : ∀ a : List UInt8, Op.bytesLess a a = false
  | [] => rfl
  | x :: a => by
    have h : ¬ x < x := by rw [UInt8.lt_iff_toNat_lt]; omega
    simp [Op.bytesLess, bl_irr a, h]
theorem bl_cons {x y : UInt8} {a b : List UInt8} : Op.bytesLess (x :: a) (y :: b) = true ↔ x < y ∨ (x = y ∧ Op.bytesLess a b = true) := by
  simp [Op.bytesLess]
theorem bl_tr : ∀ a b c : List UInt8, Op.bytesLess a b = true → Op.bytesLess b c = true → Op.bytesLess a c = true
  | _, [], _, h, _ => by cases ‹List UInt8› <;> simp [Op.bytesLess] at h
  | _, _ :: _, [], _, h => by simp [Op.bytesLess] at h
  | [], _ :: _, _ :: _, _, _ => rfl
  | x :: a, y :: b, z :: c, h, h' => by
    rw [bl_cons] at h h' ⊢
    rcases h with h | ⟨rfl, h⟩ <;> rcases h' with h' | ⟨rfl, h'⟩
    · left; rw [UInt8.lt_iff_toNat_lt] at *; omega
    · exact .inl h
    · exact .inl h'
    · exact .inr ⟨rfl, bl_tr a b c h h'⟩
theorem bl_tri : ∀ a b : List UInt8, Op.bytesLess a b = true ∨ a = b ∨ Op.bytesLess b a = true
  | [], [] => .inr (.inl rfl)
  | [], _ :: _ => .inl rfl
  | _ :: _, [] => .inr (.inr rfl)
  | x :: a, y :: b => by
    rw [bl_cons, bl_cons]
    by_cases h1 : x < y
    · exact .inl (.inl h1)
    by_cases h2 : y < x
    · exact .inr (.inr (.inl h2))
    have h3 : x = y := by
      rw [UInt8.lt_iff_toNat_lt] at h1 h2
      exact UInt8.toNat_inj.1 (by omega)
    subst h3
    rcases bl_tri a b with h | rfl | h
    · exact .inl (.inr ⟨rfl, h⟩)
    · exact .inr (.inl rfl)
    · exact .inr (.inr (.inr ⟨rfl, h⟩))
/-- A comparison by a key. -/
structure CO {α δ : Type} (k : α → δ) (c : α → α → Int) : Prop where
  eq : ∀ x y, c x y = 0 ↔ k x = k y
  sym : ∀ x y, c x y < 0 ↔ 0 < c y x
  tr : ∀ x y z, c x y < 0 → c y z < 0 → c x z < 0
  cgr : ∀ x y z, k y = k z → c x y = c x z
  cgl : ∀ x y z, k y = k z → c y x = c z x
theorem cmI_co {α : Type} (f : α → Int) : CO f (fun x y => cmI (f x) (f y)) where
  eq x y := by unfold cmI; (repeat' split) <;> omega
  sym x y := by unfold cmI; (repeat' split) <;> omega
  tr x y z := by unfold cmI; (repeat' split) <;> omega
  cgr x y z h := by rw [h]
  cgl x y z h := by rw [h]
theorem cmS_lt {a b : ByteArray} : cmS a b < 0 ↔ Op.bytesLess a.toList b.toList = true := by
  unfold cmS; (repeat' split) <;> simp_all
theorem cmS_gt {a b : ByteArray} : 0 < cmS a b ↔ Op.bytesLess b.toList a.toList = true := by
  unfold cmS
  split
  · rename_i h
    constructor
    · intro h'; omega
    · intro h'
      have := bl_tr _ _ _ h h'
      rw [bl_irr] at this; cases this
  · rename_i h
    split
    · rename_i h2
      rw [beq_iff_eq] at h2
      rw [h2, bl_irr]; simp
    · rename_i h2
      rcases bl_tri a.toList b.toList with h3 | h3 | h3
      · exact absurd h3 h
      · exact absurd (beq_iff_eq.2 h3) h2
      · simp [h3]
theorem cmS_eq {a b : ByteArray} : cmS a b = 0 ↔ a.toList = b.toList := by
  constructor
  · intro h
    rcases bl_tri a.toList b.toList with h3 | h3 | h3
    · have := cmS_lt.2 h3; omega
    · exact h3
    · have := cmS_gt.2 h3; omega
  · intro h
    unfold cmS
    rw [h, bl_irr]; simp
theorem cmS_cg {a b c d : ByteArray} (h : a.toList = b.toList) (h' : c.toList = d.toList) : cmS a c = cmS b d := by unfold cmS; rw [h, h']
theorem cmS_co {α : Type} (f : α → ByteArray) : CO (fun x => (f x).toList) (fun x y => cmS (f x) (f y)) where
  eq x y := cmS_eq
  sym x y := by rw [cmS_lt, cmS_gt]
  tr x y z h h' := cmS_lt.2 (bl_tr _ _ _ (cmS_lt.1 h) (cmS_lt.1 h'))
  cgr x y z h := cmS_cg rfl h
  cgl x y z h := cmS_cg h rfl
theorem CO.lex {α δ ε : Type} {k : α → δ} {j : α → ε} {c d : α → α → Int} (h : CO k c) (h' : CO j d) : CO (fun x => (k x, j x)) (fun x y => if c x y = 0 then d x y else c x y) where
  eq x y := by
    have := h.eq x y; have := h'.eq x y
    simp only [Prod.mk.injEq]
    split <;> simp_all
  sym x y := by
    have e1 := h.eq x y; have e2 := h.eq y x; have e3 := h.sym x y; have e4 := h'.sym x y
    by_cases hz : c x y = 0
    · have : c y x = 0 := e2.2 (e1.1 hz).symm
      rw [if_pos hz, if_pos this]; exact e4
    · have : ¬ c y x = 0 := fun q => hz (e1.2 (e2.1 q).symm)
      rw [if_neg hz, if_neg this]; exact e3
  tr x y z := by
    by_cases h1 : c x y = 0 <;> by_cases h2 : c y z = 0
    · have : c x z = 0 := (h.eq x z).2 (((h.eq x y).1 h1).trans ((h.eq y z).1 h2))
      rw [if_pos h1, if_pos h2, if_pos this]; exact h'.tr x y z
    · have : c x z = c y z := h.cgl z x y ((h.eq x y).1 h1)
      rw [if_pos h1, if_neg h2, this, if_neg h2]; exact fun _ q => q
    · have : c x y = c x z := h.cgr x y z ((h.eq y z).1 h2)
      rw [if_neg h1, if_pos h2, ← this, if_neg h1]; exact fun q _ => q
    · rw [if_neg h1, if_neg h2]
      intro q q'
      have := h.tr x y z q q'
      rw [if_neg (by omega)]; exact this
  cgr x y z e := by
    simp only [Prod.mk.injEq] at e
    rw [h.cgr x y z e.1, h'.cgr x y z e.2]
  cgl x y z e := by
    simp only [Prod.mk.injEq] at e
    rw [h.cgl x y z e.1, h'.cgl x y z e.2]
theorem cfA_co : CO (fun x : Ar => (x.nm.toList, x.v.k, x.v.n, x.v.t.toList)) cfA := by
  have := (cmS_co Ar.nm).lex ((cmI_co fun x : Ar => x.v.k).lex ((cmI_co fun x : Ar => x.v.n).lex (cmS_co fun x : Ar => x.v.t)))
  have he : cfA = fun x y : Ar => if cmS x.nm y.nm = 0 then if cmI x.v.k y.v.k = 0 then if cmI x.v.n y.v.n = 0 then cmS x.v.t y.v.t else cmI x.v.n y.v.n else cmI x.v.k y.v.k else cmS x.nm y.nm := by
    funext x y
    unfold cfA
    rw [fstN_cons, fstN_cons, fstN_cons, fstN_cons]
    (repeat' split) <;> first | rfl | (simp_all [fstN]; done)
  rw [he]; exact this
theorem CO.swo {α δ : Type} {k : α → δ} {c : α → α → Int} (h : CO k c) : Sort.SWO (fun x y => decide (c x y < 0)) where
  irrefl x := by have := (h.eq x x).2 rfl; simp; omega
  trans x y z q q' := by simp only [decide_eq_true_eq] at *; exact h.tr x y z q q'
  ntrans x y z q q' := by
    simp only [decide_eq_false_iff_not, Int.not_lt] at *
    by_cases h1 : c x y = 0
    · rw [h.cgl z x y ((h.eq x y).1 h1)]; exact q'
    by_cases h2 : c y z = 0
    · rw [← h.cgr x y z ((h.eq y z).1 h2)]; exact q
    have a1 := (h.sym y x).2 (by omega)
    have a2 := (h.sym z y).2 (by omega)
    have := (h.sym z x).1 (h.tr z y x a2 a1)
    omega
theorem cfA_tot (x y : Ar) (h : decide (cfA x y < 0) = false) (h' : decide (cfA y x < 0) = false) : x = y := by
  simp only [decide_eq_false_iff_not, Int.not_lt] at h h'
  have h0 : cfA x y = 0 := by
    by_cases q : cfA x y = 0
    · exact q
    have := (cfA_co.sym y x).2 (by omega)
    omega
  have := (cfA_co.eq x y).1 h0
  simp only [Prod.mk.injEq] at this
  obtain ⟨nm, k, n, t⟩ := x
  obtain ⟨nm', k', n', t'⟩ := y
  obtain ⟨q1, q2, q3, q4⟩ := this
  simp only at q1 q2 q3 q4
  rw [toList_inj q1, q2, q3, toList_inj q4]
end Go.Proofs.YtkjndghkimnjeaaGreat
