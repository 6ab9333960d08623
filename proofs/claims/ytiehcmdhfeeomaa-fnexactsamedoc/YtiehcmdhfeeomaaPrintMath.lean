/- A document's text in plain terms, and that no two right documents have one text. -/
import Derived.Test.YtiehcmdhfeeomaaDocMath
import Derived.Lib.ItoaNum
namespace Go.Proofs.Ytiehcmdhfeeomaa
open Go.ChangeShapes Go.WideShapes Go.ChangeAt Go.RowKit
set_option linter.unusedVariables false

def nl (s : ByteArray) : List UInt8 := s.data.toList
theorem nl_inj {a b : ByteArray} (h : nl a = nl b) : a = b := by
  apply ByteArray.ext; exact Array.toList_inj.1 h
def valP (v : Va) : List UInt8 := if v.k = 1 then Lib.itoa v.n else if v.k = 2 then (if v.n = 1 then [116, 114, 117, 101] else [102, 97, 108, 115, 101]) else if v.k = 4 then 36 :: nl v.t else [110, 117, 108, 108]
def arP (x : Ar) : List UInt8 := nl x.nm ++ 58 :: 32 :: valP x.v
def argsT : List Ar → List UInt8
  | [] => [41]
  | x :: l => 32 :: (arP x ++ argsT l)
def argsP : List Ar → List UInt8
  | [] => []
  | x :: l => 40 :: (arP x ++ argsT l)
def wordP (b : Bool) : List UInt8 := if b then [115, 107, 105, 112] else [105, 110, 99, 108, 117, 100, 101]
def diP (x : Di) : List UInt8 := 32 :: 64 :: (wordP x.sk ++ 40 :: 105 :: 102 :: 58 :: 32 :: (valP x.v ++ [41]))
def dirsP : List Di → List UInt8
  | [] => []
  | x :: l => diP x ++ dirsP l
def headP (h : Hd) : List UInt8 :=
  if h.k = 1 then (if noB h.al then nl h.nm else nl h.al ++ 58 :: 32 :: nl h.nm)
  else if h.k = 2 then 46 :: 46 :: 46 :: 32 :: nl h.nm
  else if noB h.nm then [46, 46, 46] else 46 :: 46 :: 46 :: 32 :: 111 :: 110 :: 32 :: nl h.nm
def selsP : Sels → List UInt8
  | .nil => [32, 125]
  | .cons h sub rest => 32 :: (headP h ++ (argsP h.args ++ (dirsP h.dirs ++ ((if sub.isNil then [] else 32 :: 123 :: selsP sub) ++ selsP rest))))
def kindP (k : Int) : List UInt8 := if k = 2 then [109, 117, 116, 97, 116, 105, 111, 110] else if k = 3 then [102, 114, 97, 103, 109, 101, 110, 116] else [113, 117, 101, 114, 121]
def defP (x : De) : List UInt8 := kindP x.k ++ ((if noB x.nm then [] else 32 :: nl x.nm) ++ ((if noB x.on then [] else 32 :: 111 :: 110 :: 32 :: nl x.on) ++ 32 :: 123 :: selsP x.sels))
def docT : List De → List UInt8
  | [] => []
  | x :: l => 32 :: (defP x ++ docT l)
def docP : List De → List UInt8
  | [] => []
  | x :: l => defP x ++ docT l

def wd (c : UInt8) : Bool := letB c.toNat || digB c.toNat
def vl (c : UInt8) : Bool := wd c || c == 45 || c == 36
def Stops (p : UInt8 → Bool) (r : List UInt8) : Prop := ∀ c t, r = c :: t → p c = false
theorem span_inj {p : UInt8 → Bool} : ∀ {a b r r' : List UInt8}, (∀ c ∈ a, p c = true) → (∀ c ∈ b, p c = true) → Stops p r → Stops p r' → a ++ r = b ++ r' → a = b ∧ r = r'
  | [], [], _, _, _, _, _, _, h => ⟨rfl, h⟩
  | [], c :: b, r, _, _, hb, hr, _, h => by
    have := hr c _ h; rw [hb c List.mem_cons_self] at this; cases this
  | c :: a, [], _, r', ha, _, _, hr', h => by
    have := hr' c _ h.symm; rw [ha c List.mem_cons_self] at this; cases this
  | c :: a, d :: b, r, r', ha, hb, hr, hr', h => by
    simp only [List.cons_append, List.cons.injEq] at h
    obtain ⟨rfl, h⟩ := h
    obtain ⟨rfl, h2⟩ := span_inj (fun x hx => ha x (List.mem_cons_of_mem _ hx)) (fun x hx => hb x (List.mem_cons_of_mem _ hx)) hr hr' h
    exact ⟨rfl, h2⟩
theorem stops_cons {p : UInt8 → Bool} {c : UInt8} {t : List UInt8} (h : p c = false) : Stops p (c :: t) := fun d u e => by
  simp only [List.cons.injEq] at e; rw [← e.1]; exact h

theorem tail_wd (s : ByteArray) : ∀ (f k i : Nat), tailB s f k = true → k ≤ i → i < k + f → (letB (bt s i) || digB (bt s i)) = true
  | 0, k, i, _, _, _ => by omega
  | f + 1, k, i, h, h1, h2 => by
    rw [tailB, Bool.and_eq_true] at h
    by_cases e : i = k
    · subst e; exact h.1
    · exact tail_wd s f (k + 1) i h.2 (by omega) (by omega)
theorem name_open {t : ByteArray} (h : nameB t = true) : ∃ c W, nl t = c :: W ∧ letB c.toNat = true ∧ ∀ x ∈ nl t, wd x = true := by
  simp only [nameB, Bool.and_eq_true, decide_eq_true_eq] at h
  obtain ⟨⟨⟨h1, _⟩, h3⟩, h4⟩ := h
  have hs : t.size = (nl t).length := by rw [nl, Array.length_toList]; rfl
  have hb : ∀ i (hi : i < (nl t).length), bt t i = (((nl t)[i]).toNat : Int) := by
    intro i hi
    rw [bt_lt (by omega)]
    rfl
  cases hl : nl t with
  | nil => rw [hl, List.length_nil] at hs; omega
  | cons c W =>
    have h0 := hb 0 (by rw [hl]; simp)
    simp only [hl, List.getElem_cons_zero] at h0
    rw [h0] at h3
    refine ⟨c, W, rfl, h3, fun x hx => ?_⟩
    rw [← hl] at hx
    obtain ⟨i, hi, rfl⟩ := List.getElem_of_mem hx
    unfold wd
    rw [← hb i hi]
    by_cases e : i = 0
    · subst e; rw [h0, h3]; rfl
    · exact tail_wd t _ 1 i h4 (by omega) (by omega)
theorem name_inj {s s' : ByteArray} {r r' : List UInt8} (h : nameB s = true) (h' : nameB s' = true) (hr : Stops wd r) (hr' : Stops wd r') (e : nl s ++ r = nl s' ++ r') : s = s' ∧ r = r' := by
  obtain ⟨_, _, _, _, h1⟩ := name_open h
  obtain ⟨_, _, _, _, h2⟩ := name_open h'
  obtain ⟨h3, h4⟩ := span_inj h1 h2 hr hr' e
  exact ⟨nl_inj h3, h4⟩
theorem noB_iff {s : ByteArray} : noB s = true ↔ s = ⟨#[]⟩ := by
  unfold noB
  rw [ByteArray.toList_eq]
  constructor
  · intro h
    apply ByteArray.ext
    have : s.data.toList = [] := by simpa using h
    exact Array.toList_inj.1 this
  · rintro rfl; rfl
theorem name_no {s : ByteArray} (h : nameB s = true) : noB s = false := by
  cases hn : noB s with
  | false => rfl
  | true => rw [noB_iff.1 hn] at h; revert h; decide

def numOf (l : List UInt8) : Nat := l.foldl (fun a c => 10 * a + (c.toNat - 48)) 0
theorem numOf_digits (u : Nat) : numOf (Lib.decDigits u) = u := by
  induction u using Nat.strongRecOn with
  | _ u ih =>
    rw [Lib.decDigits]
    split
    · rename_i h
      have : (UInt8.ofNat (48 + u)).toNat = 48 + u := by simp [UInt8.toNat_ofNat']; omega
      simp [numOf]; omega
    · rename_i h
      have e := ih (u / 10) (by omega)
      have : (UInt8.ofNat (48 + u % 10)).toNat = 48 + u % 10 := by simp [UInt8.toNat_ofNat']; omega
      unfold numOf at e ⊢
      rw [List.foldl_append, e]
      simp only [List.foldl_cons, List.foldl_nil, this]
      omega
theorem digits_all (u : Nat) : ∀ x ∈ Lib.decDigits u, 48 ≤ x.toNat ∧ x.toNat ≤ 57 := by
  induction u using Nat.strongRecOn with
  | _ u ih =>
    intro x hx
    rw [Lib.decDigits] at hx
    split at hx
    · rename_i h
      have : (UInt8.ofNat (48 + u)).toNat = 48 + u := by simp [UInt8.toNat_ofNat']; omega
      simp only [List.mem_singleton] at hx
      subst hx; omega
    · rename_i h
      have : (UInt8.ofNat (48 + u % 10)).toNat = 48 + u % 10 := by simp [UInt8.toNat_ofNat']; omega
      rcases List.mem_append.1 hx with hx | hx
      · exact ih (u / 10) (by omega) x hx
      · simp only [List.mem_singleton] at hx
        subst hx; omega
theorem digits_ne (u : Nat) : Lib.decDigits u ≠ [] := by
  rw [Lib.decDigits]; split <;> simp
theorem itoa_head (n : Int) : ∃ c W, Lib.itoa n = c :: W ∧ (c = 45 ∨ (48 ≤ c.toNat ∧ c.toNat ≤ 57)) ∧ ∀ x ∈ Lib.itoa n, x = 45 ∨ (48 ≤ x.toNat ∧ x.toNat ≤ 57) := by
  unfold Lib.itoa
  split
  · refine ⟨45, _, rfl, .inl rfl, fun x hx => ?_⟩
    rcases List.mem_cons.1 hx with rfl | hx
    · exact .inl rfl
    · exact .inr (digits_all _ x hx)
  · cases he : Lib.decDigits n.toNat with
    | nil => exact absurd he (digits_ne _)
    | cons c W =>
      exact ⟨c, W, rfl, .inr (digits_all n.toNat c (by rw [he]; exact List.mem_cons_self)), fun x hx => .inr (digits_all n.toNat x (by rw [he]; exact hx))⟩
theorem itoa_inj {n m : Int} (h : Lib.itoa n = Lib.itoa m) : n = m := by
  unfold Lib.itoa at h
  split at h <;> split at h
  · simp only [List.cons.injEq, true_and] at h
    have := congrArg numOf h
    rw [numOf_digits, numOf_digits] at this; omega
  · exfalso
    have := digits_all m.toNat 45 (by rw [← h]; exact List.mem_cons_self)
    revert this; decide
  · exfalso
    have := digits_all n.toNat 45 (by rw [h]; exact List.mem_cons_self)
    revert this; decide
  · have := congrArg numOf h
    rw [numOf_digits, numOf_digits] at this; omega

/-- The kinds of right values. -/
theorem val_kinds {v : Va} (h : valB v = true) : (v.k = 1 ∧ v.t = ⟨#[]⟩ ∧ valP v = Lib.itoa v.n) ∨ (v = ⟨2, 0, ⟨#[]⟩⟩) ∨ (v = ⟨2, 1, ⟨#[]⟩⟩) ∨ (v = ⟨3, 0, ⟨#[]⟩⟩) ∨ (v.k = 4 ∧ v.n = 0 ∧ nameB v.t = true ∧ valP v = 36 :: nl v.t) := by
  obtain ⟨k, n, t⟩ := v
  unfold valB at h
  simp only at h
  split at h
  · rename_i hk
    simp only [Bool.and_eq_true] at h
    exact .inl ⟨hk, noB_iff.1 h.2, by simp [valP, hk]⟩
  split at h
  · rename_i hk
    simp only [Bool.and_eq_true, Bool.or_eq_true, beq_iff_eq] at h
    obtain ⟨h1, h2⟩ := h
    rw [noB_iff.1 h2]
    rcases h1 with h1 | h1
    · exact .inr (.inl (by rw [hk, h1]))
    · exact .inr (.inr (.inl (by rw [hk, h1])))
  split at h
  · rename_i hk
    simp only [Bool.and_eq_true, beq_iff_eq] at h
    rw [noB_iff.1 h.2, h.1, hk]
    exact .inr (.inr (.inr (.inl rfl)))
  split at h
  · rename_i hk
    simp only [Bool.and_eq_true, beq_iff_eq] at h
    exact .inr (.inr (.inr (.inr ⟨hk, h.1, h.2, by simp [valP, hk]⟩)))
  · cases h
theorem dig_vl {c : UInt8} (h : c = 45 ∨ (48 ≤ c.toNat ∧ c.toNat ≤ 57)) : vl c = true := by
  rcases h with rfl | h
  · decide
  · have : digB (c.toNat : Int) = true := by simp only [digB, decide_eq_true_eq]; omega
    simp [vl, wd, this]
theorem val_vl {v : Va} (h : valB v = true) : ∀ c ∈ valP v, vl c = true := by
  rcases val_kinds h with ⟨_, _, e⟩ | rfl | rfl | rfl | ⟨_, _, hn, e⟩
  · rw [e]; obtain ⟨_, _, _, _, ha⟩ := itoa_head v.n
    exact fun c hc => dig_vl (ha c hc)
  · decide
  · decide
  · decide
  · rw [e]
    obtain ⟨_, _, _, _, hw⟩ := name_open hn
    intro c hc
    rcases List.mem_cons.1 hc with rfl | hc
    · decide
    · simp [vl, hw c hc]
def tagOf (c : UInt8) : Int := if c = 36 then 4 else if c = 110 then 3 else if c = 102 ∨ c = 116 then 2 else 1
theorem val_tag {v : Va} (h : valB v = true) : ∃ c W, valP v = c :: W ∧ tagOf c = v.k := by
  rcases val_kinds h with ⟨k1, t1, e1⟩ | rfl | rfl | rfl | ⟨k1, n1, hn, e1⟩
  · obtain ⟨c, W, hc, hd, _⟩ := itoa_head v.n
    refine ⟨c, W, e1.trans hc, ?_⟩
    rw [k1]
    rcases hd with rfl | hd
    · decide
    · have n1 : c ≠ 36 := by rintro rfl; revert hd; decide
      have n2 : c ≠ 110 := by rintro rfl; revert hd; decide
      have n3 : ¬ (c = 102 ∨ c = 116) := by rintro (rfl | rfl) <;> (revert hd; decide)
      unfold tagOf; rw [if_neg n1, if_neg n2, if_neg n3]
  · exact ⟨102, [97, 108, 115, 101], by decide, by decide⟩
  · exact ⟨116, [114, 117, 101], by decide, by decide⟩
  · exact ⟨110, [117, 108, 108], by decide, by decide⟩
  · exact ⟨36, nl v.t, e1, by rw [k1]; decide⟩
theorem valP_inj {v v' : Va} (h : valB v = true) (h' : valB v' = true) (e : valP v = valP v') : v = v' := by
  have hk : v.k = v'.k := by
    obtain ⟨c, W, h1, h2⟩ := val_tag h
    obtain ⟨c', W', h3, h4⟩ := val_tag h'
    rw [h1, h3] at e
    simp only [List.cons.injEq] at e
    rw [← h2, ← h4, e.1]
  rcases val_kinds h with ⟨k1, t1, e1⟩ | rfl | rfl | rfl | ⟨k1, n1, hn, e1⟩ <;> rcases val_kinds h' with ⟨k2, t2, e2⟩ | rfl | rfl | rfl | ⟨k2, n2, hn', e2⟩
  all_goals first
    | rfl
    | (exfalso; omega)
    | (exfalso; simp only at hk; omega)
    | (exfalso; revert e; decide)
    | skip
  · rw [e1, e2] at e
    obtain ⟨k, n, t⟩ := v; obtain ⟨k', n', t'⟩ := v'
    simp only at *
    rw [k1, k2, t1, t2, itoa_inj e]
  · rw [e1, e2] at e
    simp only [List.cons.injEq, true_and] at e
    obtain ⟨k, n, t⟩ := v; obtain ⟨k', n', t'⟩ := v'
    simp only at *
    rw [k1, k2, n1, n2, nl_inj e]
theorem val_inj {v v' : Va} {r r' : List UInt8} (h : valB v = true) (h' : valB v' = true) (hr : Stops vl r) (hr' : Stops vl r') (e : valP v ++ r = valP v' ++ r') : v = v' ∧ r = r' := by
  obtain ⟨h1, h2⟩ := span_inj (val_vl h) (val_vl h') hr hr' e
  exact ⟨valP_inj h h' h1, h2⟩
theorem ar_inj {x y : Ar} {r r' : List UInt8} (h : arB x = true) (h' : arB y = true) (hr : Stops vl r) (hr' : Stops vl r') (e : arP x ++ r = arP y ++ r') : x = y ∧ r = r' := by
  simp only [arB, Bool.and_eq_true] at h h'
  unfold arP at e
  simp only [List.append_assoc, List.cons_append] at e
  obtain ⟨e1, e2⟩ := name_inj h.1 h'.1 (stops_cons (by decide)) (stops_cons (by decide)) e
  simp only [List.cons.injEq, true_and] at e2
  obtain ⟨e3, e4⟩ := val_inj h.2 h'.2 hr hr' e2
  obtain ⟨a, b⟩ := x; obtain ⟨a', b'⟩ := y
  simp only at e1 e3
  exact ⟨by rw [e1, e3], e4⟩
theorem argsT_stops (l : List Ar) (r : List UInt8) : Stops vl (argsT l ++ r) := by
  cases l with
  | nil => exact stops_cons (by decide)
  | cons x l => exact stops_cons (by decide)
theorem argsT_inj : ∀ {l l' : List Ar} {r r' : List UInt8}, l.all arB = true → l'.all arB = true → argsT l ++ r = argsT l' ++ r' → l = l' ∧ r = r'
  | [], [], _, _, _, _, e => by simp only [argsT, List.cons_append, List.cons.injEq, true_and, List.nil_append] at e; exact ⟨rfl, e⟩
  | [], y :: l', _, _, _, _, e => by simp [argsT] at e
  | x :: l, [], _, _, _, _, e => by simp [argsT] at e
  | x :: l, y :: l', r, r', h, h', e => by
    simp only [List.all_cons, Bool.and_eq_true] at h h'
    simp only [argsT, List.cons_append, List.cons.injEq, true_and, List.append_assoc] at e
    obtain ⟨rfl, e2⟩ := ar_inj h.1 h'.1 (argsT_stops l r) (argsT_stops l' r') e
    obtain ⟨rfl, e3⟩ := argsT_inj h.2 h'.2 e2
    exact ⟨rfl, e3⟩
theorem argsP_inj {l l' : List Ar} {r r' : List UInt8} (h : l.all arB = true) (h' : l'.all arB = true) (hr : ∀ t, r ≠ 40 :: t) (hr' : ∀ t, r' ≠ 40 :: t) (e : argsP l ++ r = argsP l' ++ r') : l = l' ∧ r = r' := by
  cases l with
  | nil =>
    cases l' with
    | nil => exact ⟨rfl, e⟩
    | cons y l' => exact absurd e (hr _)
  | cons x l =>
    cases l' with
    | nil => exact absurd e.symm (hr' _)
    | cons y l' =>
      simp only [List.all_cons, Bool.and_eq_true] at h h'
      simp only [argsP, List.cons_append, List.cons.injEq, true_and, List.append_assoc] at e
      obtain ⟨rfl, e2⟩ := ar_inj h.1 h'.1 (argsT_stops l r) (argsT_stops l' r') e
      obtain ⟨rfl, e3⟩ := argsT_inj h.2 h'.2 e2
      exact ⟨rfl, e3⟩
theorem di_inj {x y : Di} {r r' : List UInt8} (h : diB x = true) (h' : diB y = true) (e : diP x ++ r = diP y ++ r') : x = y ∧ r = r' := by
  obtain ⟨a, b⟩ := x; obtain ⟨a', b'⟩ := y
  unfold diP wordP at e
  cases a <;> cases a' <;> simp at e
  all_goals
    obtain ⟨rfl, e4⟩ := val_inj (v := b) (v' := b') h h' (stops_cons (by decide)) (stops_cons (by decide)) e
    simp only [List.cons.injEq, true_and] at e4
    exact ⟨rfl, e4⟩
theorem dirsP_inj : ∀ {l l' : List Di} {r r' : List UInt8}, l.all diB = true → l'.all diB = true → (∀ t, r ≠ 32 :: 64 :: t) → (∀ t, r' ≠ 32 :: 64 :: t) → dirsP l ++ r = dirsP l' ++ r' → l = l' ∧ r = r'
  | [], [], _, _, _, _, _, _, e => ⟨rfl, e⟩
  | [], y :: l', r, _, _, _, hr, _, e => by
    simp only [dirsP, List.nil_append, List.append_assoc, diP, List.cons_append] at e
    exact absurd e (hr _)
  | x :: l, [], _, r', _, _, _, hr', e => by
    simp only [dirsP, List.nil_append, List.append_assoc, diP, List.cons_append] at e
    exact absurd e.symm (hr' _)
  | x :: l, y :: l', r, r', h, h', hr, hr', e => by
    simp only [List.all_cons, Bool.and_eq_true] at h h'
    simp only [dirsP, List.append_assoc] at e
    obtain ⟨rfl, e2⟩ := di_inj h.1 h'.1 e
    obtain ⟨rfl, e3⟩ := dirsP_inj h.2 h'.2 hr hr' e2
    exact ⟨rfl, e3⟩

def St (T : List UInt8) : Prop := ∃ c t, T = c :: t ∧ (c = 40 ∨ c = 32)
def In (T : List UInt8) : Prop := ∃ c t, T = 32 :: c :: t ∧ (c = 64 ∨ c = 123)
theorem St.stops {T : List UInt8} (h : St T) : Stops wd T := by
  obtain ⟨c, t, rfl, rfl | rfl⟩ := h <;> exact stops_cons (by decide)
theorem let_ne {c : UInt8} (h : letB c.toNat = true) : c ≠ 46 ∧ c ≠ 125 ∧ c ≠ 123 ∧ c ≠ 64 := by
  refine ⟨?_, ?_, ?_, ?_⟩ <;> (rintro rfl; revert h; decide)
theorem onB_iff {s : ByteArray} (h : nl s = [111, 110]) : onB s = true := by
  unfold onB; rw [ByteArray.toList_eq, show s.data.toList = [111, 110] from h]; rfl
/-- A right selection's first byte is a letter, or a dot. -/
theorem head_first {h : Hd} {z : Bool} (hk : kindB h z = true) : ∃ c t, headP h = c :: t ∧ (letB c.toNat = true ∨ c = 46) ∧ (h.k = 1 → letB c.toNat = true) ∧ (h.k ≠ 1 → c = 46) := by
  unfold kindB at hk
  split at hk
  · rename_i h1
    simp only [Bool.and_eq_true, Bool.or_eq_true] at hk
    unfold headP
    rw [if_pos h1]
    split
    · obtain ⟨c, W, e, hl, _⟩ := name_open hk.1
      exact ⟨c, W, e, .inl hl, fun _ => hl, fun h => absurd h1 h⟩
    · rename_i hn
      obtain ⟨c, W, e, hl, _⟩ := name_open (hk.2.resolve_left hn)
      exact ⟨c, W ++ 58 :: 32 :: nl h.nm, by rw [e]; rfl, .inl hl, fun _ => hl, fun h => absurd h1 h⟩
  · rename_i h1
    unfold headP
    rw [if_neg h1]
    split
    · exact ⟨46, _, rfl, .inr rfl, fun h => absurd h h1, fun _ => rfl⟩
    · split
      · exact ⟨46, _, rfl, .inr rfl, fun h => absurd h h1, fun _ => rfl⟩
      · exact ⟨46, _, rfl, .inr rfl, fun h => absurd h h1, fun _ => rfl⟩
theorem kind_1 {h : Hd} {z : Bool} (hk : kindB h z = true) (h1 : h.k = 1) : nameB h.nm = true ∧ (noB h.al = true ∨ nameB h.al = true) := by
  unfold kindB at hk; rw [if_pos h1] at hk; simpa using hk
theorem kind_2 {h : Hd} {z : Bool} (hk : kindB h z = true) (h1 : h.k = 2) : nameB h.nm = true ∧ onB h.nm = false ∧ noB h.al = true ∧ h.args = [] ∧ z = true := by
  unfold kindB at hk; rw [if_neg (by omega), if_pos h1] at hk
  simp only [Bool.and_eq_true, Bool.not_eq_true', List.isEmpty_iff] at hk
  exact ⟨hk.1.1.1.1, hk.1.1.1.2, hk.1.1.2, hk.1.2, hk.2⟩
theorem kind_3 {h : Hd} {z : Bool} (hk : kindB h z = true) (h1 : h.k = 3) : (noB h.nm = true ∨ nameB h.nm = true) ∧ noB h.al = true ∧ h.args = [] ∧ z = false := by
  unfold kindB at hk; rw [if_neg (by omega), if_neg (by omega), if_pos h1] at hk
  simp only [Bool.and_eq_true, Bool.not_eq_true', Bool.or_eq_true, List.isEmpty_iff] at hk
  exact ⟨hk.1.1.1, hk.1.1.2, hk.1.2, hk.2⟩
theorem kind_of {h : Hd} {z : Bool} (hk : kindB h z = true) : h.k = 1 ∨ h.k = 2 ∨ h.k = 3 := by
  unfold kindB at hk
  split at hk
  · exact .inl ‹_›
  · split at hk
    · exact .inr (.inl ‹_›)
    · split at hk
      · exact .inr (.inr ‹_›)
      · cases hk
/-- A selection's head is read back from its text. -/
theorem head_inj {h h' : Hd} {z z' : Bool} {T T' : List UInt8} (hk : kindB h z = true) (hk' : kindB h' z' = true) (hT : St T) (hT' : St T') (hI : h.k = 3 → In T) (hI' : h'.k = 3 → In T')
    (e : headP h ++ T = headP h' ++ T') : h.k = h'.k ∧ h.al = h'.al ∧ h.nm = h'.nm ∧ T = T' := by
  have first : h.k = 1 ↔ h'.k = 1 := by
    obtain ⟨c, t, e1, _, l1, l2⟩ := head_first hk
    obtain ⟨c', t', e2, _, l3, l4⟩ := head_first hk'
    rw [e1, e2] at e
    simp only [List.cons_append, List.cons.injEq] at e
    obtain ⟨rfl, _⟩ := e
    constructor
    · intro h1
      refine Decidable.byContradiction fun hn => (let_ne (l1 h1)).1 (l4 hn)
    · intro h1
      refine Decidable.byContradiction fun hn => (let_ne (l3 h1)).1 (l2 hn)
  by_cases h1 : h.k = 1
  · have h1' := first.1 h1
    obtain ⟨a1, a2⟩ := kind_1 hk h1
    obtain ⟨b1, b2⟩ := kind_1 hk' h1'
    refine ⟨h1.trans h1'.symm, ?_⟩
    unfold headP at e
    rw [if_pos h1, if_pos h1'] at e
    cases hn : noB h.al <;> cases hn' : noB h'.al <;> simp only [hn, hn', if_true, if_false, Bool.false_eq_true, List.append_assoc, List.cons_append] at e
    · obtain ⟨e1, e2⟩ := name_inj (a2.resolve_left (by simp [hn])) (b2.resolve_left (by simp [hn'])) (stops_cons (by decide)) (stops_cons (by decide)) e
      simp only [List.cons.injEq, true_and] at e2
      obtain ⟨e3, e4⟩ := name_inj a1 b1 hT.stops hT'.stops e2
      exact ⟨e1, e3, e4⟩
    · obtain ⟨e1, e2⟩ := name_inj (a2.resolve_left (by simp [hn])) b1 (stops_cons (by decide)) hT'.stops e
      obtain ⟨c, t, e3, e4⟩ := hT'
      rw [e3] at e2
      simp only [List.cons.injEq] at e2
      rcases e4 with rfl | rfl <;> exact absurd e2.1 (by decide)
    · obtain ⟨e1, e2⟩ := name_inj a1 (b2.resolve_left (by simp [hn'])) hT.stops (stops_cons (by decide)) e
      obtain ⟨c, t, e3, e4⟩ := hT
      rw [e3] at e2
      simp only [List.cons.injEq] at e2
      rcases e4 with rfl | rfl <;> exact absurd e2.1 (by decide)
    · obtain ⟨e1, e2⟩ := name_inj a1 b1 hT.stops hT'.stops e
      exact ⟨(noB_iff.1 hn).trans (noB_iff.1 hn').symm, e1, e2⟩
  have h1' : h'.k ≠ 1 := fun h => h1 (first.2 h)
  have S32 : ∀ t : List UInt8, Stops wd (32 :: t) := fun t => stops_cons (by decide)
  have won : ∀ c ∈ [(111 : UInt8), 110], wd c = true := by decide
  -- a spread against an inline one
  have spin : ∀ {x y : Hd} {zx zy : Bool} {A B : List UInt8}, kindB x zx = true → kindB y zy = true → x.k = 2 → y.k = 3 → St A → In B → headP x ++ A = headP y ++ B → False := by
    intro x y zx zy A B kx ky x2 y3 sA iB e
    obtain ⟨n1, n2, _, _, _⟩ := kind_2 kx x2
    unfold headP at e
    rw [if_neg (by omega), if_pos x2, if_neg (by omega), if_neg (by omega)] at e
    cases hn : noB y.nm <;> simp only [hn, if_true, if_false, Bool.false_eq_true, List.cons_append, List.cons.injEq, true_and, List.nil_append] at e
    · obtain ⟨_, _, _, _, hw⟩ := name_open n1
      have := span_inj (a := nl x.nm) (b := [111, 110]) hw won sA.stops (S32 _) e
      rw [onB_iff this.1] at n2; cases n2
    · obtain ⟨c, t, rfl, hc⟩ := iB
      obtain ⟨d, W, e1, hl, _⟩ := name_open n1
      rw [e1] at e
      simp only [List.cons_append, List.cons.injEq, true_and] at e
      obtain ⟨rfl, _⟩ := e
      rcases hc with rfl | rfl
      · exact (let_ne hl).2.2.2 rfl
      · exact (let_ne hl).2.2.1 rfl
  rcases (kind_of hk).resolve_left h1 with h2 | h3 <;> rcases (kind_of hk').resolve_left h1' with h2' | h3'
  · obtain ⟨a1, _, a3, _, _⟩ := kind_2 hk h2
    obtain ⟨b1, _, b3, _, _⟩ := kind_2 hk' h2'
    unfold headP at e
    rw [if_neg h1, if_pos h2, if_neg h1', if_pos h2'] at e
    simp only [List.cons_append, List.cons.injEq, true_and] at e
    obtain ⟨e1, e2⟩ := name_inj a1 b1 hT.stops hT'.stops e
    exact ⟨h2.trans h2'.symm, (noB_iff.1 a3).trans (noB_iff.1 b3).symm, e1, e2⟩
  · exact (spin hk hk' h2 h3' hT (hI' h3') e).elim
  · exact (spin hk' hk h2' h3 hT' (hI h3) e.symm).elim
  · obtain ⟨a1, a2, _, _⟩ := kind_3 hk h3
    obtain ⟨b1, b2, _, _⟩ := kind_3 hk' h3'
    refine ⟨h3.trans h3'.symm, (noB_iff.1 a2).trans (noB_iff.1 b2).symm, ?_⟩
    unfold headP at e
    rw [if_neg h1, if_neg (show ¬ h.k = 2 by omega), if_neg h1', if_neg (show ¬ h'.k = 2 by omega)] at e
    cases hn : noB h.nm <;> cases hn' : noB h'.nm <;> simp only [hn, hn', if_true, if_false, Bool.false_eq_true, List.cons_append, List.cons.injEq, true_and, List.nil_append] at e
    · obtain ⟨e1, e2⟩ := name_inj (a1.resolve_left (by simp [hn])) (b1.resolve_left (by simp [hn'])) hT.stops hT'.stops e
      exact ⟨e1, e2⟩
    · obtain ⟨c, t, rfl, hc⟩ := hI' h3'
      simp only [List.cons.injEq, true_and] at e
      rcases hc with rfl | rfl <;> exact absurd e.1 (by decide)
    · obtain ⟨c, t, rfl, hc⟩ := hI h3
      simp only [List.cons.injEq, true_and] at e
      rcases hc with rfl | rfl <;> exact absurd e.1 (by decide)
    · exact ⟨(noB_iff.1 hn).trans (noB_iff.1 hn').symm, e⟩

def subP (sub : Sels) : List UInt8 := if sub.isNil then [] else 32 :: 123 :: selsP sub
theorem ok_cons {d : Nat} {h : Hd} {sub rest : Sels} (hk : okS d (.cons h sub rest) = true) : h.args.all arB = true ∧ h.dirs.all diB = true ∧ kindB h sub.isNil = true ∧ okS (d - 1) sub = true ∧ okS d rest = true := by
  simp only [okS, hdB, argsB, dirsB, Bool.and_eq_true] at hk
  exact ⟨hk.1.1.2.1.1.2, hk.1.1.2.1.2.2, hk.1.1.2.2, hk.1.2, hk.2⟩
/-- What stands in a set begins with a blank, and then the end, a letter or a dot. -/
theorem sels_first {d : Nat} {l : Sels} (hk : okS d l = true) (r : List UInt8) : ∃ c t, selsP l ++ r = 32 :: c :: t ∧ (c = 125 ∨ letB c.toNat = true ∨ c = 46) ∧ (l ≠ .nil → c ≠ 125) := by
  cases l with
  | nil => exact ⟨125, r, rfl, .inl rfl, fun h => absurd rfl h⟩
  | cons h sub rest =>
    obtain ⟨_, _, hh, _, _⟩ := ok_cons hk
    obtain ⟨c, t, e, hc, _, _⟩ := head_first hh
    refine ⟨c, t ++ (argsP h.args ++ (dirsP h.dirs ++ ((if sub.isNil then [] else 32 :: 123 :: selsP sub) ++ (selsP rest ++ r)))), ?_, .inr hc, fun _ => ?_⟩
    · simp only [selsP, e, List.cons_append, List.append_assoc]
    · rcases hc with hc | rfl
      · exact (let_ne hc).2.1
      · decide
theorem first_ne {c : UInt8} (h : c = 125 ∨ letB c.toNat = true ∨ c = 46) : c ≠ 64 ∧ c ≠ 123 := by
  rcases h with rfl | h | rfl
  · decide
  · exact ⟨(let_ne h).2.2.2, (let_ne h).2.2.1⟩
  · decide
theorem dirs_first (l : List Di) (r : List UInt8) : dirsP l ++ r = r ∧ l = [] ∨ ∃ t, dirsP l ++ r = 32 :: 64 :: t := by
  cases l with
  | nil => exact .inl ⟨rfl, rfl⟩
  | cons x l => exact .inr ⟨_, by simp only [dirsP, diP, List.cons_append, List.append_assoc]; rfl⟩
theorem sels_inj : ∀ {l l' : Sels} {d d' : Nat} {r r' : List UInt8}, okS d l = true → okS d' l' = true → selsP l ++ r = selsP l' ++ r' → l = l' ∧ r = r'
  | .nil, .nil, _, _, _, _, _, _, e => by simp only [selsP, List.cons_append, List.cons.injEq, true_and, List.nil_append] at e; exact ⟨rfl, e⟩
  | .nil, .cons h sub rest, _, _, r, r', _, hk', e => by
    obtain ⟨c, t, e1, _, hc⟩ := sels_first hk' r'
    rw [e1] at e
    simp only [selsP, List.cons_append, List.cons.injEq, true_and] at e
    exact absurd e.1.symm (hc (by simp))
  | .cons h sub rest, .nil, _, _, r, r', hk, _, e => by
    obtain ⟨c, t, e1, _, hc⟩ := sels_first hk r
    rw [e1] at e
    simp only [selsP, List.cons_append, List.cons.injEq, true_and] at e
    exact absurd e.1 (hc (by simp))
  | .cons h sub rest, .cons h' sub' rest', d, d', r, r', hk, hk', e => by
    obtain ⟨ka, kd, kh, ks, kr⟩ := ok_cons hk
    obtain ⟨ka', kd', kh', ks', kr'⟩ := ok_cons hk'
    have eS : ∀ s : Sels, (if s.isNil = true then ([] : List UInt8) else 32 :: 123 :: selsP s) = subP s := fun s => rfl
    simp only [selsP, List.cons_append, List.append_assoc, List.cons.injEq, true_and, eS] at e
    -- what stands behind the directives
    have subF : ∀ {s r0 : Sels} {dd : Nat} {q : List UInt8}, okS dd r0 = true → ∃ c t, subP s ++ (selsP r0 ++ q) = 32 :: c :: t ∧ c ≠ 64 ∧ (s.isNil = false → c = 123) ∧ (s.isNil = true → c ≠ 123) := by
      intro s r0 dd q h0
      unfold subP
      cases hs : s.isNil
      · exact ⟨123, _, rfl, by decide, fun _ => rfl, fun h => by cases h⟩
      · obtain ⟨c, t, e1, hc, _⟩ := sels_first h0 q
        exact ⟨c, t, by simpa using e1, (first_ne hc).1, fun h => (by cases h), fun _ => (first_ne hc).2⟩
    obtain ⟨c1, t1, f1, f2, f3, f4⟩ := subF (s := sub) (q := r) kr
    obtain ⟨c2, t2, g1, g2, g3, g4⟩ := subF (s := sub') (q := r') kr'
    have dF : ∀ (l : List Di) {q : List UInt8} {c : UInt8} {t : List UInt8}, q = 32 :: c :: t → ∃ c' t', dirsP l ++ q = 32 :: c' :: t' ∧ (c' = 64 ∨ c' = c) := by
      intro l q c t hq
      rcases dirs_first l q with ⟨h1, _⟩ | ⟨t', h1⟩
      · exact ⟨c, t, h1.trans hq, .inr rfl⟩
      · exact ⟨64, t', h1, .inl rfl⟩
    obtain ⟨x1, y1, u1, u2⟩ := dF h.dirs f1
    obtain ⟨x2, y2, v1, v2⟩ := dF h'.dirs g1
    have aF : ∀ (l : List Ar) {q : List UInt8} {c : UInt8} {t : List UInt8}, q = 32 :: c :: t → St (argsP l ++ q) := by
      intro l q c t hq
      cases l with
      | nil => exact ⟨32, _, hq, .inr rfl⟩
      | cons x l => exact ⟨40, _, rfl, .inl rfl⟩
    have inF : ∀ {hh : Hd} {s : Sels} {q : List UInt8} {c x : UInt8} {t : List UInt8}, kindB hh s.isNil = true → q = 32 :: x :: t → (x = 64 ∨ x = c) → (s.isNil = false → c = 123) → hh.k = 3 → In (argsP hh.args ++ q) := by
      intro hh s q c x t hk0 hq hx hc h3
      obtain ⟨_, _, e0, e1⟩ := kind_3 hk0 h3
      rw [e0]
      refine ⟨x, t, hq, ?_⟩
      rcases hx with rfl | rfl
      · exact .inl rfl
      · exact .inr (hc e1)
    obtain ⟨e1, e2, e3, e4⟩ := head_inj kh kh' (aF h.args u1) (aF h'.args v1) (inF kh u1 u2 f3) (inF kh' v1 v2 g3) e
    obtain ⟨e5, e6⟩ := argsP_inj ka ka' (by rw [u1]; simp) (by rw [v1]; simp) e4
    obtain ⟨e7, e8⟩ := dirsP_inj kd kd' (by rw [f1]; simp [f2]) (by rw [g1]; simp [g2]) e6
    have hh : h = h' := by
      obtain ⟨a, b, c, d, e⟩ := h; obtain ⟨a', b', c', d', e'⟩ := h'
      simp only at e1 e2 e3 e5 e7
      rw [e1, e2, e3, e5, e7]
    subst hh
    cases hn : sub.isNil <;> cases hn' : sub'.isNil
    · unfold subP at e8
      rw [hn, hn'] at e8
      simp only [Bool.false_eq_true, if_false, List.cons_append, List.cons.injEq, true_and] at e8
      obtain ⟨rfl, e9⟩ := sels_inj ks ks' e8
      obtain ⟨rfl, e10⟩ := sels_inj kr kr' e9
      exact ⟨rfl, e10⟩
    · exfalso
      rw [f1, g1] at e8
      simp only [List.cons.injEq, true_and] at e8
      exact g4 hn' (e8.1.symm.trans (f3 hn))
    · exfalso
      rw [f1, g1] at e8
      simp only [List.cons.injEq, true_and] at e8
      exact f4 hn (e8.1.trans (g3 hn'))
    · unfold subP at e8
      rw [hn, hn'] at e8
      simp only [if_true, List.nil_append] at e8
      obtain ⟨rfl, e10⟩ := sels_inj kr kr' e8
      have : ∀ s : Sels, s.isNil = true → s = .nil := fun s hs => by cases s with | nil => rfl | cons _ _ _ => cases hs
      rw [this sub hn, this sub' hn']
      exact ⟨rfl, e10⟩
theorem def_inj {x y : De} {r r' : List UInt8} (h : defB x = true) (h' : defB y = true) (e : defP x ++ r = defP y ++ r') : x = y ∧ r = r' := by
  simp only [defB, Bool.and_eq_true] at h h'
  obtain ⟨⟨hh, _⟩, hs⟩ := h
  obtain ⟨⟨hh', _⟩, hs'⟩ := h'
  obtain ⟨k, nm, on, sels⟩ := x
  obtain ⟨k', nm', on', sels'⟩ := y
  unfold headB at hh hh'
  simp only at hh hh' hs hs'
  have S32 : ∀ t : List UInt8, Stops wd (32 :: t) := fun t => stops_cons (by decide)
  have hk : k = k' := by
    have kk : ∀ {k : Int} {nm on : ByteArray}, (if k = 1 ∨ k = 2 then (noB nm || nameB nm) && noB on else if k = 3 then nameB nm && !onB nm && nameB on else false) = true → k = 1 ∨ k = 2 ∨ k = 3 := by
      intro k nm on h
      split at h
      · omega
      · split at h
        · omega
        · cases h
    unfold defP kindP at e
    simp only at e
    rcases kk hh with rfl | rfl | rfl <;> rcases kk hh' with rfl | rfl | rfl <;> first | rfl | (simp at e; done)
  subst hk
  unfold defP at e
  simp only [List.append_assoc] at e
  have e := List.append_cancel_left e
  split at hh
  · rename_i h12
    rw [if_pos h12] at hh'
    simp only [Bool.and_eq_true, Bool.or_eq_true] at hh hh'
    simp only [hh.2, hh'.2, if_true, List.nil_append] at e
    have hon : on = on' := (noB_iff.1 hh.2).trans (noB_iff.1 hh'.2).symm
    cases hn : noB nm <;> cases hn' : noB nm' <;> simp only [hn, hn', if_true, if_false, Bool.false_eq_true, List.cons_append, List.cons.injEq, true_and, List.nil_append] at e
    · obtain ⟨e1, e2⟩ := name_inj (hh.1.resolve_left (by simp [hn])) (hh'.1.resolve_left (by simp [hn'])) (S32 _) (S32 _) e
      simp only [List.cons.injEq, true_and] at e2
      obtain ⟨e3, e4⟩ := sels_inj hs hs' e2
      exact ⟨by rw [e1, hon, e3], e4⟩
    · exfalso
      obtain ⟨c, W, e1, hl, _⟩ := name_open (hh.1.resolve_left (by simp [hn]))
      rw [e1] at e
      simp only [List.cons_append, List.cons.injEq] at e
      exact (let_ne hl).2.2.1 e.1
    · exfalso
      obtain ⟨c, W, e1, hl, _⟩ := name_open (hh'.1.resolve_left (by simp [hn']))
      rw [e1] at e
      simp only [List.cons_append, List.cons.injEq] at e
      exact (let_ne hl).2.2.1 e.1.symm
    · obtain ⟨e3, e4⟩ := sels_inj hs hs' e
      exact ⟨by rw [noB_iff.1 hn, noB_iff.1 hn', hon, e3], e4⟩
  · rename_i h12
    rw [if_neg h12] at hh'
    split at hh
    · rename_i h3
      rw [if_pos h3] at hh'
      simp only [Bool.and_eq_true] at hh hh'
      simp only [name_no hh.1.1, name_no hh.2, name_no hh'.1.1, name_no hh'.2, if_false, Bool.false_eq_true, List.cons_append, List.cons.injEq, true_and] at e
      obtain ⟨e1, e2⟩ := name_inj hh.1.1 hh'.1.1 (S32 _) (S32 _) e
      simp only [List.cons.injEq, true_and] at e2
      obtain ⟨e3, e4⟩ := name_inj hh.2 hh'.2 (S32 _) (S32 _) e2
      simp only [List.cons.injEq, true_and] at e4
      obtain ⟨e5, e6⟩ := sels_inj hs hs' e4
      exact ⟨by rw [e1, e3, e5], e6⟩
    · cases hh
theorem docT_inj : ∀ {l l' : List De}, l.all defB = true → l'.all defB = true → docT l = docT l' → l = l'
  | [], [], _, _, _ => rfl
  | [], y :: l', _, _, e => by simp [docT] at e
  | x :: l, [], _, _, e => by simp [docT] at e
  | x :: l, y :: l', h, h', e => by
    simp only [List.all_cons, Bool.and_eq_true] at h h'
    simp only [docT, List.cons.injEq, true_and] at e
    obtain ⟨rfl, e2⟩ := def_inj h.1 h'.1 e
    rw [docT_inj h.2 h'.2 e2]
/-- Right documents of one text are one. -/
theorem doc_inj {l l' : List De} (h : docB l = true) (h' : docB l' = true) (e : docP l = docP l') : l = l' := by
  simp only [docB, Bool.and_eq_true, decide_eq_true_eq] at h h'
  match l, l', h, h', e with
  | [], _, h, _, _ => exact absurd h.1.1.1 (by simp)
  | _ :: _, [], _, h', _ => exact absurd h'.1.1.1 (by simp)
  | x :: l, y :: l', h, h', e =>
    have a := h.1.2
    have b := h'.1.2
    simp only [List.all_cons, Bool.and_eq_true] at a b
    obtain ⟨rfl, e2⟩ := def_inj a.1 b.1 e
    rw [docT_inj a.2 b.2 e2]
end Go.Proofs.Ytiehcmdhfeeomaa
