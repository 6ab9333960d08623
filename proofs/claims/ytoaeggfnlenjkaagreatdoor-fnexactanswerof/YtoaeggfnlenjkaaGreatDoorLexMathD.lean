/- What reading a text into tokens is, in plain terms: blanks and remarks, words, numbers, marks. -/
import Derived.Test.YtoaeggfnlenjkaaGreatDoorOuText
import Derived.Lib.ItoaNum
import Derived.Test.YtoaeggfnlenjkaaGreatDoorDigitsD
import Derived.Lib.ItoaLen
import Derived.Lib.AtoiAll
import Derived.Lib.AtoiTie
namespace Go.Proofs.YtoaeggfnlenjkaaGreatDoor.G
open Go.ChangeShapes Go.WideShapes Go.ChangeAt Go.RowKit
set_option linter.unusedVariables false

def nl (s : ByteArray) : List UInt8 := s.data.toList
theorem nl_inj {a b : ByteArray} (h : nl a = nl b) : a = b := by
  apply ByteArray.ext; exact Array.toList_inj.1 h
def wd (c : UInt8) : Bool := letB c.toNat || digB c.toNat
def Stops (p : UInt8 → Bool) (r : List UInt8) : Prop := ∀ c t, r = c :: t → p c = false
theorem span_inj {p : UInt8 → Bool} : ∀ {a b r r' : List UInt8}, (∀ c ∈ a, p c = true) → (∀ c ∈ b, p c = true) → Stops p r → Stops p r' → a ++ r = b ++ r' → a = b ∧ r = r'
  | [], [], _, _, _, _, _, _, h => ⟨rfl, h⟩
  | [], c :: b, r, _, _, hb, hr, _, h => by
    have := hr c _ h; rw [hb c List.mem_cons_self] at this; cases this
  | c :: a, [], _, r', ha, _, _, hr', h => by
    have := hr' c _ h.symm; rw [ha c List.mem_cons_self] at this; cases this
  | c :: a, d :: b, r, r', ha, hb, hr, hr', h => by
    simp only [List.cons_append, List.cons.injEq] at h
    obtain ⟨rfl, h⟩ := h
    obtain ⟨rfl, h2⟩ := span_inj (fun x hx => ha x (List.mem_cons_of_mem _ hx)) (fun x hx => hb x (List.mem_cons_of_mem _ hx)) hr hr' h
    exact ⟨rfl, h2⟩
theorem stops_cons {p : UInt8 → Bool} {c : UInt8} {t : List UInt8} (h : p c = false) : Stops p (c :: t) := fun d u e => by
  simp only [List.cons.injEq] at e; rw [← e.1]; exact h

theorem tail_wd (s : ByteArray) : ∀ (f k i : Nat), tailB s f k = true → k ≤ i → i < k + f → (letB (bt s i) || digB (bt s i)) = true
  | 0, k, i, _, _, _ => by omega
  | f + 1, k, i, h, h1, h2 => by
    rw [tailB, Bool.and_eq_true] at h
    by_cases e : i = k
    · subst e; exact h.1
    · exact tail_wd s f (k + 1) i h.2 (by omega) (by omega)
theorem name_open {t : ByteArray} (h : nameB t = true) : ∃ c W, nl t = c :: W ∧ letB c.toNat = true ∧ ∀ x ∈ nl t, wd x = true := by
  simp only [nameB, Bool.and_eq_true, decide_eq_true_eq] at h
  obtain ⟨⟨⟨h1, _⟩, h3⟩, h4⟩ := h
  have hs : t.size = (nl t).length := by rw [nl, Array.length_toList]; rfl
  have hb : ∀ i (hi : i < (nl t).length), bt t i = (((nl t)[i]).toNat : Int) := by
    intro i hi
    rw [bt_lt (by omega)]
    rfl
  cases hl : nl t with
  | nil => rw [hl, List.length_nil] at hs; omega
  | cons c W =>
    have h0 := hb 0 (by rw [hl]; simp)
    simp only [hl, List.getElem_cons_zero] at h0
    rw [h0] at h3
    refine ⟨c, W, rfl, h3, fun x hx => ?_⟩
    rw [← hl] at hx
    obtain ⟨i, hi, rfl⟩ := List.getElem_of_mem hx
    unfold wd
    rw [← hb i hi]
    by_cases e : i = 0
    · subst e; rw [h0, h3]; rfl
    · exact tail_wd t _ 1 i h4 (by omega) (by omega)
theorem name_inj {s s' : ByteArray} {r r' : List UInt8} (h : nameB s = true) (h' : nameB s' = true) (hr : Stops wd r) (hr' : Stops wd r') (e : nl s ++ r = nl s' ++ r') : s = s' ∧ r = r' := by
  obtain ⟨_, _, _, _, h1⟩ := name_open h
  obtain ⟨_, _, _, _, h2⟩ := name_open h'
  obtain ⟨h3, h4⟩ := span_inj h1 h2 hr hr' e
  exact ⟨nl_inj h3, h4⟩
def numOf (l : List UInt8) : Nat := l.foldl (fun a c => 10 * a + (c.toNat - 48)) 0
theorem numOf_digits (u : Nat) : numOf (Lib.decDigits u) = u := by
  induction u using Nat.strongRecOn with
  | _ u ih =>
    rw [Lib.decDigits]
    split
    · rename_i h
      have : (UInt8.ofNat (48 + u)).toNat = 48 + u := by simp [UInt8.toNat_ofNat']; omega
      simp [numOf]; omega
    · rename_i h
      have e := ih (u / 10) (by omega)
      have : (UInt8.ofNat (48 + u % 10)).toNat = 48 + u % 10 := by simp [UInt8.toNat_ofNat']; omega
      unfold numOf at e ⊢
      rw [List.foldl_append, e]
      simp only [List.foldl_cons, List.foldl_nil, this]
      omega
theorem digits_all (u : Nat) : ∀ x ∈ Lib.decDigits u, 48 ≤ x.toNat ∧ x.toNat ≤ 57 := by
  induction u using Nat.strongRecOn with
  | _ u ih =>
    intro x hx
    rw [Lib.decDigits] at hx
    split at hx
    · rename_i h
      have : (UInt8.ofNat (48 + u)).toNat = 48 + u := by simp [UInt8.toNat_ofNat']; omega
      simp only [List.mem_singleton] at hx
      subst hx; omega
    · rename_i h
      have : (UInt8.ofNat (48 + u % 10)).toNat = 48 + u % 10 := by simp [UInt8.toNat_ofNat']; omega
      rcases List.mem_append.1 hx with hx | hx
      · exact ih (u / 10) (by omega) x hx
      · simp only [List.mem_singleton] at hx
        subst hx; omega
theorem digits_ne (u : Nat) : Lib.decDigits u ≠ [] := by
  rw [Lib.decDigits]; split <;> simp
theorem itoa_head (n : Int) : ∃ c W, Lib.itoa n = c :: W ∧ (c = 45 ∨ (48 ≤ c.toNat ∧ c.toNat ≤ 57)) ∧ ∀ x ∈ Lib.itoa n, x = 45 ∨ (48 ≤ x.toNat ∧ x.toNat ≤ 57) := by
  unfold Lib.itoa
  split
  · refine ⟨45, _, rfl, .inl rfl, fun x hx => ?_⟩
    rcases List.mem_cons.1 hx with rfl | hx
    · exact .inl rfl
    · exact .inr (digits_all _ x hx)
  · cases he : Lib.decDigits n.toNat with
    | nil => exact absurd he (digits_ne _)
    | cons c W =>
      exact ⟨c, W, rfl, .inr (digits_all n.toNat c (by rw [he]; exact List.mem_cons_self)), fun x hx => .inr (digits_all n.toNat x (by rw [he]; exact hx))⟩
theorem itoa_inj {n m : Int} (h : Lib.itoa n = Lib.itoa m) : n = m := by
  unfold Lib.itoa at h
  split at h <;> split at h
  · simp only [List.cons.injEq, true_and] at h
    have := congrArg numOf h
    rw [numOf_digits, numOf_digits] at this; omega
  · exfalso
    have := digits_all m.toNat 45 (by rw [← h]; exact List.mem_cons_self)
    revert this; decide
  · exfalso
    have := digits_all n.toNat 45 (by rw [h]; exact List.mem_cons_self)
    revert this; decide
  · have := congrArg numOf h
    rw [numOf_digits, numOf_digits] at this; omega

def nm (c : UInt8) : Bool := c == 45 || digB c.toNat
/-- A value's text, its items' texts told; each item with a comma ahead. -/
def vP (h : Oh) (b : List UInt8) : List UInt8 :=
  if h.k = 0 then [110, 117, 108, 108]
  else if h.k = 1 then Lib.itoa h.n
  else if h.k = 2 then 34 :: (nl h.t ++ [34])
  else (if h.k = 4 then 123 else 91) :: (b.drop 1 ++ [if h.k = 4 then 125 else 93])
def kP (ob : Bool) (k : ByteArray) : List UInt8 := if ob = true then 34 :: (nl k ++ [34, 58]) else []
def rP : Bool → List ByteArray → Ous → List UInt8
  | _, _, .nil => []
  | ob, ks, .cons h sub rest => 44 :: (kP ob (ks.headD ⟨#[]⟩) ++ (vP h (rP (h.k == 4) h.keys sub) ++ rP ob ks.tail rest))
def oP (h : Oh) (sub : Ous) : List UInt8 := vP h (rP (h.k == 4) h.keys sub)
theorem nl_app (a b : ByteArray) : nl (a ++ b) = nl a ++ nl b := by simp [nl]
def cW (ss : List ByteArray) : List UInt8 := ss.flatMap fun s => 44 :: nl s
theorem cW_drop {ss : List ByteArray} {s : ByteArray} (h : ss ≠ []) : (cW (ss ++ [s])).drop 1 = (cW ss).drop 1 ++ 44 :: nl s := by
  cases ss with
  | nil => exact absurd rfl h
  | cons x ss => simp [cW]
theorem cjTo_nl {ss : List ByteArray} : ∀ k, k ≤ ss.length → nl (cjTo ss k) = (cW (ss.take k)).drop 1
  | 0, _ => rfl
  | k + 1, hk => by
    have ih := cjTo_nl (ss := ss) k (by omega)
    have hg : ss.getD k ⟨#[]⟩ = ss[k] := by rw [List.getD_eq_getElem?_getD, List.getElem?_eq_getElem (by omega)]; rfl
    rw [cjTo, hg, List.take_succ_eq_append_getElem (by omega)]
    split
    · rename_i h0
      have hne : ss.take k ≠ [] := by
        intro e
        have h2 : (ss.take k).length = 0 := by rw [e]; rfl
        rw [List.length_take] at h2; omega
      rw [cW_drop hne, nl_app, nl_app, ih]
      show _ ++ [44] ++ _ = _
      simp
    · rename_i h0
      have : k = 0 := by omega
      subst this
      rw [nl_app, ih]
      simp [cW]
theorem cj_nl (ss : List ByteArray) : nl (cj ss) = (cW ss).drop 1 := by
  have := cjTo_nl (ss := ss) ss.length (Nat.le_refl _)
  rw [List.take_length] at this; exact this
theorem valT_nl (h : Oh) (ws : List ByteArray) : nl (valT h ws) = vP h (cW ws) := by
  unfold valT vP
  split
  · rfl
  split
  · show (Lib.itoa h.n).toArray.toList = _; simp
  split
  · rw [nl_app, nl_app]; show [34] ++ nl h.t ++ [34] = _; simp
  · rw [nl_app, nl_app, cj_nl]
    unfold endsA endsB
    split
    · show [123] ++ _ ++ [125] = _; simp
    · show [91] ++ _ ++ [93] = _; simp
theorem keyed_nl (ob : Bool) (k s : ByteArray) : nl (keyed ob k s) = kP ob k ++ nl s := by
  unfold keyed kP
  split
  · rw [nl_app, nl_app, nl_app]; show [34] ++ nl k ++ [34, 58] ++ nl s = _; simp
  · rfl
theorem words_nl : ∀ (l : Ous) (ob : Bool) (ks : List ByteArray), cW (wordsO ob ks l) = rP ob ks l
  | .nil, ob, ks => rfl
  | .cons h sub rest, ob, ks => by
    have i1 := words_nl sub (h.k == 4) h.keys
    have i2 := words_nl rest ob ks.tail
    rw [wordsO, rP, ← i2]
    show 44 :: nl _ ++ cW _ = _
    rw [keyed_nl, valT_nl, i1]
    simp
theorem outT_nl (h : Oh) (sub : Ous) : nl (outT h sub) = oP h sub := by
  unfold outT oP
  rw [valT_nl, words_nl]
/-- What may follow a value. -/
def Ed (r : List UInt8) : Prop := r = [] ∨ ∃ c t, r = c :: t ∧ (c = 44 ∨ c = 93 ∨ c = 125)
def Sp (r : List UInt8) : Prop := ∃ c t, r = c :: t ∧ (c = 93 ∨ c = 125)
theorem Ed.stops {r : List UInt8} (h : Ed r) : Stops nm r := by
  rcases h with rfl | ⟨c, t, rfl, h⟩
  · intro c t e; cases e
  · refine stops_cons ?_
    rcases h with rfl | rfl | rfl <;> decide
theorem Sp.ed {r : List UInt8} (h : Sp r) (ob : Bool) (ks : List ByteArray) (l : Ous) : Ed (rP ob ks l ++ r) := by
  cases l with
  | nil => obtain ⟨c, t, rfl, h⟩ := h; exact .inr ⟨c, t, rfl, by rcases h with h | h <;> simp [h]⟩
  | cons h sub rest => exact .inr ⟨44, _, rfl, .inl rfl⟩
theorem itoa_nm (n : Int) : ∀ x ∈ Lib.itoa n, nm x = true := by
  obtain ⟨_, _, _, _, h⟩ := itoa_head n
  intro x hx
  unfold nm digB
  rcases h x hx with rfl | h
  · rfl
  · rw [Bool.or_eq_true]; right; rw [decide_eq_true_eq]; omega
theorem noT_eq {h : Oh} (hn : noT h = true) : h.t = ⟨#[]⟩ := by
  unfold noT at hn
  rw [ByteArray.toList_eq] at hn
  exact nl_inj (by simpa [nl] using hn)
/-- A right head, by its kind. -/
theorem head_kinds {h : Oh} {sub : Ous} (hh : headB h sub = true) :
    (h = ⟨0, 0, ⟨#[]⟩, []⟩ ∧ sub = .nil) ∨ (h = ⟨1, h.n, ⟨#[]⟩, []⟩ ∧ sub = .nil) ∨ (h = ⟨2, 0, h.t, []⟩ ∧ nameB h.t = true ∧ sub = .nil) ∨ h = ⟨3, 0, ⟨#[]⟩, []⟩ ∨ (h = ⟨4, 0, ⟨#[]⟩, h.keys⟩ ∧ h.keys.length = sub.len ∧ keysB h.keys = true) := by
  unfold headB at hh
  obtain ⟨k, n, t, ks⟩ := h
  simp only at hh
  by_cases k0 : k = 0
  · subst k0
    simp only [if_pos, Bool.and_eq_true] at hh
    have hs := plain_nil hh.1.1
    have ht := noT_eq hh.2
    have hp := hh.1.1
    simp only [plainB, Bool.and_eq_true, decide_eq_true_eq] at hp
    have hk : ks = [] := List.eq_nil_of_length_eq_zero hp.1
    have hn : n = 0 := by simpa using hh.1.2
    exact .inl ⟨by rw [hk, hn]; simp only at ht; rw [ht], hs⟩
  rw [if_neg k0] at hh
  by_cases k1 : k = 1
  · subst k1
    simp only [if_pos, Bool.and_eq_true] at hh
    have hs := plain_nil hh.1.1
    have ht := noT_eq hh.2
    have hp := hh.1.1
    simp only [plainB, Bool.and_eq_true, decide_eq_true_eq] at hp
    have hk : ks = [] := List.eq_nil_of_length_eq_zero hp.1
    exact .inr (.inl ⟨by rw [hk]; simp only at ht; rw [ht], hs⟩)
  rw [if_neg k1] at hh
  by_cases k2 : k = 2
  · subst k2
    simp only [if_pos, Bool.and_eq_true] at hh
    have hs := plain_nil hh.1.1
    have hp := hh.1.1
    simp only [plainB, Bool.and_eq_true, decide_eq_true_eq] at hp
    have hk : ks = [] := List.eq_nil_of_length_eq_zero hp.1
    have hn : n = 0 := by simpa using hh.1.2
    exact .inr (.inr (.inl ⟨by rw [hk, hn], hh.2, hs⟩))
  rw [if_neg k2] at hh
  by_cases k3 : k = 3
  · subst k3
    simp only [if_pos, Bool.and_eq_true, decide_eq_true_eq] at hh
    have ht := noT_eq hh.1.2
    have hk : ks = [] := List.eq_nil_of_length_eq_zero hh.2
    have hn : n = 0 := by simpa using hh.1.1
    exact .inr (.inr (.inr (.inl (by rw [hk, hn]; simp only at ht; rw [ht]))))
  rw [if_neg k3] at hh
  by_cases k4 : k = 4
  · subst k4
    simp only [if_pos, Bool.and_eq_true, decide_eq_true_eq] at hh
    have ht := noT_eq hh.1.1.2
    have hn : n = 0 := by simpa using hh.1.1.1
    exact .inr (.inr (.inr (.inr ⟨by rw [hn]; simp only at ht; rw [ht], hh.1.2, hh.2⟩)))
  rw [if_neg k4] at hh; cases hh
/-- A text's first byte tells its kind. -/
def tagO (c : UInt8) : Int := if c = 110 then 0 else if c = 34 then 2 else if c = 91 then 3 else if c = 123 then 4 else 1
theorem val_first {h : Oh} {sub : Ous} (hh : headB h sub = true) (b : List UInt8) : ∃ c W, vP h b = c :: W ∧ tagO c = h.k ∧ c ≠ 93 ∧ c ≠ 125 := by
  rcases head_kinds hh with ⟨e, _⟩ | ⟨e, _⟩ | ⟨e, _, _⟩ | e | ⟨e, _, _⟩
  · rw [e]; exact ⟨110, _, rfl, rfl, by decide, by decide⟩
  · obtain ⟨c, W, h1, h2, _⟩ := itoa_head h.n
    rw [e]
    refine ⟨c, W, by rw [← h1]; rfl, ?_, ?_, ?_⟩
    · unfold tagO
      rcases h2 with rfl | h2
      · rfl
      · have hne : ∀ d : UInt8, ¬ (48 ≤ d.toNat ∧ d.toNat ≤ 57) → c ≠ d := fun d hd e => hd (e ▸ h2)
        rw [if_neg (hne 110 (by decide)), if_neg (hne 34 (by decide)), if_neg (hne 91 (by decide)), if_neg (hne 123 (by decide))]
    · rintro rfl; rcases h2 with h2 | h2 <;> revert h2 <;> decide
    · rintro rfl; rcases h2 with h2 | h2 <;> revert h2 <;> decide
  · rw [e]; exact ⟨34, _, rfl, rfl, by decide, by decide⟩
  · rw [e]; exact ⟨91, _, rfl, rfl, by decide, by decide⟩
  · rw [e]; exact ⟨123, _, rfl, rfl, by decide, by decide⟩
theorem keysB_names {ks : List ByteArray} (h : keysB ks = true) : ∀ k ∈ ks, nameB k = true := fun k hk => by
  obtain ⟨i, hi, rfl⟩ := List.getElem_of_mem hk
  have := keysB_at h hi
  rw [keyB_eq hi, Bool.and_eq_true] at this
  exact this.1
def KeysOf (ob : Bool) (ks : List ByteArray) (l : Ous) : Prop := ob = true → ks.length = l.len ∧ ∀ k ∈ ks, nameB k = true
def InjS (l : Ous) : Prop := ∀ (l' : Ous) (d d' : Nat) (ob : Bool) (ks ks' : List ByteArray) (r r' : List UInt8), okO d l = true → okO d' l' = true → KeysOf ob ks l → KeysOf ob ks' l' → Sp r → Sp r' →
  rP ob ks l ++ r = rP ob ks' l' ++ r' → l = l' ∧ (ob = true → ks = ks') ∧ r = r'
/-- An item's first byte ends no list. -/
theorem item_first {d : Nat} {h : Oh} {sub rest : Ous} (hok : okO d (.cons h sub rest) = true) (ob : Bool) (ks : List ByteArray) (r : List UInt8) : ∃ c W, (rP ob ks (.cons h sub rest)).drop 1 ++ r = c :: W ∧ c ≠ 93 ∧ c ≠ 125 := by
  rw [okO_cons, Bool.and_eq_true] at hok
  simp only [oneO, Bool.and_eq_true] at hok
  cases ob
  · obtain ⟨c, W, e, _, h1, h2⟩ := val_first hok.1.1.2 (rP (h.k == 4) h.keys sub)
    refine ⟨c, W ++ (rP false ks.tail rest ++ r), ?_, h1, h2⟩
    show (kP false _ ++ (vP h _ ++ rP false ks.tail rest)) ++ r = _
    rw [e]; simp [kP]
  · refine ⟨34, nl (ks.headD ⟨#[]⟩) ++ [34, 58] ++ (vP h (rP (h.k == 4) h.keys sub) ++ rP true ks.tail rest) ++ r, ?_, by decide, by decide⟩
    show (kP true _ ++ (vP h _ ++ rP true ks.tail rest)) ++ r = _
    simp [kP]
/-- Groups: their items' texts, cut at the end. -/
theorem group_inj {sub sub' : Ous} (ih : InjS sub) {d d' : Nat} (hok : okO d sub = true) (hok' : okO d' sub' = true) {ob : Bool} {ks ks' : List ByteArray} (hk : KeysOf ob ks sub) (hk' : KeysOf ob ks' sub') {r r' : List UInt8} (hr : Sp r) (hr' : Sp r')
    (e : (rP ob ks sub).drop 1 ++ r = (rP ob ks' sub').drop 1 ++ r') : sub = sub' ∧ (ob = true → ks = ks') ∧ r = r' := by
  have nokey : ∀ {ks : List ByteArray}, KeysOf ob ks .nil → ob = true → ks = [] := fun h e => List.eq_nil_of_length_eq_zero (h e).1
  cases sub with
  | nil =>
    cases sub' with
    | nil => exact ⟨rfl, fun e2 => by rw [nokey hk e2, nokey hk' e2], e⟩
    | cons h' s' t' =>
      obtain ⟨c, W, e2, h1, h2⟩ := item_first hok' ob ks' r'
      obtain ⟨c', W', rfl, h3⟩ := hr
      rw [e2] at e
      have : c' = c := by
        have := congrArg List.head? e; simpa [rP] using this
      subst this
      rcases h3 with h3 | h3
      · exact absurd h3 h1
      · exact absurd h3 h2
  | cons h s t =>
    cases sub' with
    | nil =>
      obtain ⟨c, W, e2, h1, h2⟩ := item_first hok ob ks r
      obtain ⟨c', W', rfl, h3⟩ := hr'
      rw [e2] at e
      have : c = c' := by
        have := congrArg List.head? e; simpa [rP] using this
      subst this
      rcases h3 with h3 | h3
      · exact absurd h3 h1
      · exact absurd h3 h2
    | cons h' s' t' =>
      refine ih _ d d' ob ks ks' r r' hok hok' hk hk' hr hr' ?_
      show 44 :: ((rP ob ks (.cons h s t)).drop 1 ++ r) = 44 :: ((rP ob ks' (.cons h' s' t')).drop 1 ++ r')
      rw [e]
theorem val_inj {h h' : Oh} {sub sub' : Ous} (ih : InjS sub) {d d' : Nat} (hh : headB h sub = true) (hh' : headB h' sub' = true) (hok : okO d sub = true) (hok' : okO d' sub' = true) {R R' : List UInt8} (hR : Ed R) (hR' : Ed R') (e : oP h sub ++ R = oP h' sub' ++ R') : h = h' ∧ sub = sub' ∧ R = R' := by
  have hkk : h.k = h'.k := by
    obtain ⟨c, W, e1, h1, _⟩ := val_first hh (rP (h.k == 4) h.keys sub)
    obtain ⟨c', W', e1', h1', _⟩ := val_first hh' (rP (h'.k == 4) h'.keys sub')
    unfold oP at e
    rw [e1, e1'] at e
    have : c = c' := by have := congrArg List.head? e; simpa using this
    rw [← h1, ← h1', this]
  rcases head_kinds hh with ⟨g, s0⟩ | ⟨g, s0⟩ | ⟨g, gn, s0⟩ | g | ⟨g, gl, gk⟩ <;> rcases head_kinds hh' with ⟨g', s0'⟩ | ⟨g', s0'⟩ | ⟨g', gn', s0'⟩ | g' | ⟨g', gl', gk'⟩
  all_goals (first | (exfalso; have a := congrArg Oh.k g; have b := congrArg Oh.k g'; simp only at a b; omega) | skip)
  · rw [g, g'] at e ⊢
    refine ⟨rfl, by rw [s0, s0'], ?_⟩
    have : [110, 117, 108, 108] ++ R = [110, 117, 108, 108] ++ R' := e
    simpa using this
  · rw [g, g'] at e
    have e2 : Lib.itoa h.n ++ R = Lib.itoa h'.n ++ R' := e
    obtain ⟨q1, q2⟩ := span_inj (itoa_nm _) (itoa_nm _) hR.stops hR'.stops e2
    exact ⟨by rw [g, g', itoa_inj q1], by rw [s0, s0'], q2⟩
  · rw [g, g'] at e
    have e2 : 34 :: (nl h.t ++ [34]) ++ R = 34 :: (nl h'.t ++ [34]) ++ R' := e
    simp only [List.cons_append, List.append_assoc, List.cons.injEq, true_and, List.nil_append] at e2
    obtain ⟨q1, q2⟩ := name_inj gn gn' (stops_cons (by decide)) (stops_cons (by decide)) e2
    exact ⟨by rw [g, g', q1], by rw [s0, s0'], by simpa using q2⟩
  · have e1 : oP h sub = 91 :: ((rP false [] sub).drop 1 ++ [93]) := by rw [g]; rfl
    have e1' : oP h' sub' = 91 :: ((rP false [] sub').drop 1 ++ [93]) := by rw [g']; rfl
    rw [e1, e1'] at e
    simp only [List.cons_append, List.append_assoc, List.cons.injEq, true_and, List.nil_append] at e
    obtain ⟨q1, _, q2⟩ := group_inj ih hok hok' (fun e => by cases e) (fun e => by cases e) ⟨93, R, rfl, .inl rfl⟩ ⟨93, R', rfl, .inl rfl⟩ e
    exact ⟨by rw [g, g'], q1, by simpa using q2⟩
  · have e1 : oP h sub = 123 :: ((rP true h.keys sub).drop 1 ++ [125]) := by rw [g]; rfl
    have e1' : oP h' sub' = 123 :: ((rP true h'.keys sub').drop 1 ++ [125]) := by rw [g']; rfl
    rw [e1, e1'] at e
    simp only [List.cons_append, List.append_assoc, List.cons.injEq, true_and, List.nil_append] at e
    obtain ⟨q1, q3, q2⟩ := group_inj ih hok hok' (fun _ => ⟨gl, keysB_names gk⟩) (fun _ => ⟨gl', keysB_names gk'⟩) ⟨125, R, rfl, .inr rfl⟩ ⟨125, R', rfl, .inr rfl⟩ e
    exact ⟨by rw [g, g', q3 rfl], q1, by simpa using q2⟩
theorem list_inj : ∀ l : Ous, InjS l
  | .nil => by
    intro l' d d' ob ks ks' r r' hok hok' hk hk' hr hr' e
    cases l' with
    | nil => exact ⟨rfl, fun e2 => by rw [List.eq_nil_of_length_eq_zero (hk e2).1, List.eq_nil_of_length_eq_zero (hk' e2).1], e⟩
    | cons h s t =>
      exfalso
      obtain ⟨c, W, rfl, h1⟩ := hr
      have : c = 44 := by have := congrArg List.head? e; simpa [rP] using this
      subst this
      rcases h1 with h1 | h1 <;> revert h1 <;> decide
  | .cons h sub rest => by
    intro l' d d' ob ks ks' r r' hok hok' hk hk' hr hr' e
    cases l' with
    | nil =>
      exfalso
      obtain ⟨c, W, rfl, h1⟩ := hr'
      have : c = 44 := by have := congrArg List.head? e; simpa [rP, eq_comm] using this
      subst this
      rcases h1 with h1 | h1 <;> revert h1 <;> decide
    | cons h' sub' rest' =>
      have i1 := list_inj sub
      have i2 := list_inj rest
      rw [okO_cons, Bool.and_eq_true] at hok hok'
      simp only [oneO, Bool.and_eq_true] at hok hok'
      have e2 : kP ob (ks.headD ⟨#[]⟩) ++ (oP h sub ++ (rP ob ks.tail rest ++ r)) = kP ob (ks'.headD ⟨#[]⟩) ++ (oP h' sub' ++ (rP ob ks'.tail rest' ++ r')) := by
        have : 44 :: (kP ob (ks.headD ⟨#[]⟩) ++ (oP h sub ++ rP ob ks.tail rest)) ++ r = 44 :: (kP ob (ks'.headD ⟨#[]⟩) ++ (oP h' sub' ++ rP ob ks'.tail rest')) ++ r' := e
        simpa using this
      have key : (ob = true → ks.headD ⟨#[]⟩ = ks'.headD ⟨#[]⟩) ∧ oP h sub ++ (rP ob ks.tail rest ++ r) = oP h' sub' ++ (rP ob ks'.tail rest' ++ r') := by
        cases ob
        · exact ⟨fun e => (by cases e), e2⟩
        · obtain ⟨hl, hn⟩ := hk rfl
          obtain ⟨hl', hn'⟩ := hk' rfl
          cases ks with
          | nil => simp [Ous.len] at hl
          | cons k ks =>
            cases ks' with
            | nil => simp [Ous.len] at hl'
            | cons k' ks' =>
              have e3 : 34 :: (nl k ++ [34, 58]) ++ (oP h sub ++ (rP true ks rest ++ r)) = 34 :: (nl k' ++ [34, 58]) ++ (oP h' sub' ++ (rP true ks' rest' ++ r')) := e2
              simp only [List.cons_append, List.append_assoc, List.cons.injEq, true_and, List.nil_append] at e3
              obtain ⟨q1, q2⟩ := name_inj (hn k (by simp)) (hn' k' (by simp)) (stops_cons (by decide)) (stops_cons (by decide)) e3
              exact ⟨fun _ => q1, by simpa using q2⟩
      obtain ⟨q1, q2, q3⟩ := val_inj i1 hok.1.1.2 hok'.1.1.2 hok.1.2 hok'.1.2 (hr.ed _ _ _) (hr'.ed _ _ _) key.2
      have tl : ∀ {ks : List ByteArray} {h : Oh} {s t : Ous}, KeysOf ob ks (.cons h s t) → KeysOf ob ks.tail t := fun hk e => by
        obtain ⟨h1, h2⟩ := hk e
        refine ⟨by simp [Ous.len] at h1; simp [h1], fun k hk => h2 k (List.mem_of_mem_tail hk)⟩
      obtain ⟨p1, p2, p3⟩ := i2 rest' d d' ob ks.tail ks'.tail r r' hok.2 hok'.2 (tl hk) (tl hk') hr hr' q3
      refine ⟨by rw [q1, q2, p1], fun eo => ?_, p3⟩
      have h1 := key.1 eo
      have h2 := p2 eo
      obtain ⟨hl, _⟩ := hk eo
      obtain ⟨hl', _⟩ := hk' eo
      cases ks with
      | nil => simp [Ous.len] at hl
      | cons k ks =>
        cases ks' with
        | nil => simp [Ous.len] at hl'
        | cons k' ks' =>
          simp only [List.headD_cons, List.tail_cons] at h1 h2
          rw [h1, h2]
/-- Right values of one text are one. -/
theorem out_inj {d d' : Nat} {h h' : Oh} {sub sub' : Ous} (ho : outB d h sub = true) (ho' : outB d' h' sub' = true) (e : outT h sub = outT h' sub') : h = h' ∧ sub = sub' := by
  obtain ⟨_, h1, h2, _⟩ := outB_all ho
  obtain ⟨_, h1', h2', _⟩ := outB_all ho'
  have e2 : oP h sub ++ [] = oP h' sub' ++ [] := by rw [← outT_nl, ← outT_nl, e]
  obtain ⟨q1, q2, _⟩ := val_inj (list_inj sub) h1 h1' h2 h2' (.inl rfl) (.inl rfl) e2
  exact ⟨q1, q2⟩
end Go.Proofs.YtoaeggfnlenjkaaGreatDoor.G
namespace Go.Proofs.YtoaeggfnlenjkaaGreatDoor
open Go.ChangeShapes Go.WideShapes Go.ChangeAt Go.RowKit
set_option linter.unusedVariables false

def punctB (l : List UInt8) : Bool := l == [123] || l == [125] || l == [40] || l == [41] || l == [91] || l == [93] || l == [58] || l == [33] || l == [64] || l == [46, 46, 46]

set_option maxHeartbeats 1000000 in
theorem impl_punct (s : ByteArray) (w : World) : Calls Tryz.prog 158 #[.string s] w fun e w' => e = .returned (.bool (punctB s.toList)) ∧ w' = w := by
  go_enter Tryz.func158, Tryz.ntmps158
  go_wp2
  all_goals (go_ret; exact ⟨ret_bool (by simp_all [punctB]), rfl⟩)

def tokB (a b : Int) (s : ByteArray) : Bool :=
  if a = 1 ∨ a = 3 then (b == 0) && nameB s
  else if a = 2 then intB b && s.toList.isEmpty
  else if a = 4 then (b == 0) && punctB s.toList
  else false

def szT (n k : Int) : Int := if n - k < 0 then -1 else n - k
set_option maxHeartbeats 1000000 in
theorem impl_tokOK (a b : Int) (s : ByteArray) (w : World) (hs : s.size ≤ maxLen) :
    Calls Tryz.prog 137 #[.agg #[.int .i64 a, .int .i64 b, .string s]] w fun e w' => e = .returned (.bool (tokB a b s)) ∧ Below w.heap.size w w' := by
  have k0 : (s.toList == []) = s.toList.isEmpty := by cases s.toList <;> rfl
  by_cases hn : a = 1 ∨ a = 3
  · have H : Hid (tokB a b s = ((b == 0) && nameB s)) := by unfold Hid tokB; rw [if_pos hn]
    cases hb : (b == 0)
    · have H2 : Hid (false = tokB a b s) := by rw [Hid, H.out, hb]; rfl
      rcases hn with rfl | rfl
      all_goals
        go_enter Tryz.func137, Tryz.ntmps137
        go_wp2_with (go_at_call 113; refine (impl_nameOK _ _ hs).mono ?_; rintro e w1 ⟨rfl, hb1⟩)
        go_ret
        exact ⟨ret_bool H2.out, (Below.refl _ _).alloc (Nat.le_refl _) _⟩
    · have H2 : Hid (nameB s = tokB a b s) := by rw [Hid, H.out, hb]; rfl
      rcases hn with rfl | rfl
      all_goals
        go_enter Tryz.func137, Tryz.ntmps137
        go_wp2_with (go_at_call 113; refine (impl_nameOK _ _ hs).mono ?_; rintro e w1 ⟨rfl, hb1⟩)
        go_ret
        exact ⟨ret_bool H2.out, (((Below.refl _ _).alloc (Nat.le_refl _) _).trans (hb1.mono (by simp)))⟩
  have g1 : (a == 1) = false := by rw [beq_eq_false_iff_ne]; omega
  have g3 : (a == 3) = false := by rw [beq_eq_false_iff_ne]; omega
  by_cases h2 : a = 2
  · have H : Hid (tokB a b s = (intB b && s.toList.isEmpty)) := by unfold Hid tokB; rw [if_neg hn, if_pos h2]
    subst h2
    clear hn g1 g3
    cases hb : s.toList.isEmpty
    · have hz : ¬ s.toList = [] := by intro h; rw [h] at hb; cases hb
      have H2 : Hid (false = tokB 2 b s) := by rw [Hid, H.out, hb]; simp
      go_enter Tryz.func137, Tryz.ntmps137
      go_wp2_with (go_at_call 120; refine (impl_isInt _ _).mono ?_; rintro e w1 ⟨rfl, rfl⟩)
      go_ret
      exact ⟨ret_bool H2.out, (Below.refl _ _).alloc (Nat.le_refl _) _⟩
    · have hz : s.toList = [] := by cases h : s.toList with | nil => rfl | cons a l => rw [h] at hb; cases hb
      have H2 : Hid (intB b = tokB 2 b s) := by rw [Hid, H.out, hb]; simp
      go_enter Tryz.func137, Tryz.ntmps137
      go_wp2_with (go_at_call 120; refine (impl_isInt _ _).mono ?_; rintro e w1 ⟨rfl, rfl⟩)
      go_ret
      exact ⟨ret_bool H2.out, (Below.refl _ _).alloc (Nat.le_refl _) _⟩
  have g2 : (a == 2) = false := by rw [beq_eq_false_iff_ne]; omega
  by_cases h4 : a = 4
  · have H : Hid (tokB a b s = ((b == 0) && punctB s.toList)) := by unfold Hid tokB; rw [if_neg hn, if_neg h2, if_pos h4]
    subst h4
    clear hn g1 g3 g2 h2
    cases hb : (b == 0)
    · have H2 : Hid (false = tokB 4 b s) := by rw [Hid, H.out, hb]; rfl
      go_enter Tryz.func137, Tryz.ntmps137
      go_wp2_with (go_at_call 158; refine (impl_punct _ _).mono ?_; rintro e w1 ⟨rfl, rfl⟩)
      go_ret
      exact ⟨ret_bool H2.out, (Below.refl _ _).alloc (Nat.le_refl _) _⟩
    · have H2 : Hid (punctB s.toList = tokB 4 b s) := by rw [Hid, H.out, hb]; rfl
      go_enter Tryz.func137, Tryz.ntmps137
      go_wp2_with (go_at_call 158; refine (impl_punct _ _).mono ?_; rintro e w1 ⟨rfl, rfl⟩)
      go_ret
      exact ⟨ret_bool H2.out, (Below.refl _ _).alloc (Nat.le_refl _) _⟩
  have g4 : (a == 4) = false := by rw [beq_eq_false_iff_ne]; omega
  have H2 : Hid (false = tokB a b s) := by unfold Hid tokB; rw [if_neg hn, if_neg h2, if_neg h4]
  clear hn h2 h4
  go_enter Tryz.func137, Tryz.ntmps137
  go_wp2_with fail
  go_ret
  exact ⟨ret_bool H2.out, (Below.refl _ _).alloc (Nat.le_refl _) _⟩
end Go.Proofs.YtoaeggfnlenjkaaGreatDoor
namespace Go.Proofs.YtoaeggfnlenjkaaGreatDoor
set_option linter.unusedVariables false

structure Tk where
  k : Int
  n : Int
  t : ByteArray

def blB (c : Int) : Bool := decide (c = 32) || decide (c = 9) || decide (c = 10) || decide (c = 13) || decide (c = 44)

/-- Where blanks and remarks end. -/
def pbF (s : ByteArray) : Nat → Nat → Bool → Nat
  | 0, _, _ => s.size
  | f + 1, i, true => pbF s f (i + 1) (decide (bt s i ≠ 10))
  | f + 1, i, false => if bt s i = 35 then pbF s f (i + 1) true else if blB (bt s i) = true then pbF s f (i + 1) false else i
def pb (s : ByteArray) (i : Nat) (r : Bool) : Nat := pbF s (s.size - i) i r
theorem pb_end {s : ByteArray} {i : Nat} (h : ¬ i < s.size) (r : Bool) : pb s i r = s.size := by
  unfold pb; rw [show s.size - i = 0 by omega]; rfl
theorem pb_succ {s : ByteArray} {i : Nat} (h : i < s.size) : ∃ f, s.size - i = f + 1 ∧ s.size - (i + 1) = f := ⟨s.size - i - 1, by omega, by omega⟩
theorem pb_rem {s : ByteArray} {i : Nat} (h : i < s.size) : pb s i true = pb s (i + 1) (decide (bt s i ≠ 10)) := by
  obtain ⟨f, h1, h2⟩ := pb_succ h
  unfold pb; rw [h1, h2]; rfl
theorem pb_hash {s : ByteArray} {i : Nat} (h : i < s.size) (hc : bt s i = 35) : pb s i false = pb s (i + 1) true := by
  obtain ⟨f, h1, h2⟩ := pb_succ h
  unfold pb; rw [h1, h2, pbF, if_pos hc]
theorem pb_blank {s : ByteArray} {i : Nat} (h : i < s.size) (hc : bt s i ≠ 35) (hb : blB (bt s i) = true) : pb s i false = pb s (i + 1) false := by
  obtain ⟨f, h1, h2⟩ := pb_succ h
  unfold pb; rw [h1, h2, pbF, if_neg hc, if_pos hb]
theorem pb_tok {s : ByteArray} {i : Nat} (h : i < s.size) (hc : bt s i ≠ 35) (hb : blB (bt s i) = false) : pb s i false = i := by
  obtain ⟨f, h1, h2⟩ := pb_succ h
  unfold pb; rw [h1, pbF, if_neg hc, if_neg (by rw [hb]; decide)]
theorem pbF_bounds (s : ByteArray) : ∀ f i r, i + f = s.size → i ≤ pbF s f i r ∧ pbF s f i r ≤ s.size
  | 0, i, r, h => by unfold pbF; omega
  | f + 1, i, true, h => by
    have := pbF_bounds s f (i + 1) (decide (bt s i ≠ 10)) (by omega)
    unfold pbF; omega
  | f + 1, i, false, h => by
    unfold pbF
    split
    · have := pbF_bounds s f (i + 1) true (by omega); omega
    · split
      · have := pbF_bounds s f (i + 1) false (by omega); omega
      · omega
theorem pb_bounds {s : ByteArray} {i : Nat} (h : i ≤ s.size) (r : Bool) : i ≤ pb s i r ∧ pb s i r ≤ s.size := pbF_bounds s _ i r (by omega)

/-- Where letters and digits end. -/
def wdB (c : Int) : Bool := letB c || digB c
def weF (s : ByteArray) : Nat → Nat → Nat
  | 0, i => i
  | f + 1, i => if wdB (bt s i) = true then weF s f (i + 1) else i
def we (s : ByteArray) (i : Nat) : Nat := weF s (s.size - i) i
theorem we_end {s : ByteArray} {i : Nat} (h : ¬ i < s.size) : we s i = i := by
  unfold we; rw [show s.size - i = 0 by omega]; rfl
theorem we_step {s : ByteArray} {i : Nat} (h : i < s.size) (hc : wdB (bt s i) = true) : we s i = we s (i + 1) := by
  obtain ⟨f, h1, h2⟩ := pb_succ h
  unfold we; rw [h1, h2, weF, if_pos hc]
theorem we_stop {s : ByteArray} {i : Nat} (h : i < s.size) (hc : wdB (bt s i) = false) : we s i = i := by
  obtain ⟨f, h1, h2⟩ := pb_succ h
  unfold we; rw [h1, weF, if_neg (by rw [hc]; decide)]
theorem weF_bounds (s : ByteArray) : ∀ f i, i + f = s.size → i ≤ weF s f i ∧ weF s f i ≤ s.size
  | 0, i, h => by unfold weF; omega
  | f + 1, i, h => by
    unfold weF
    split
    · have := weF_bounds s f (i + 1) (by omega); omega
    · omega
theorem we_bounds {s : ByteArray} {i : Nat} (h : i ≤ s.size) : i ≤ we s i ∧ we s i ≤ s.size := weF_bounds s _ i (by omega)

/-- The number that a text tells, by its very digits, of 32 bits. -/
def numT (l : List UInt8) : Option Int := match Lib.atoiAll l with
  | .ok n => if Lib.itoa n = l ∧ intB n = true then some n else none
  | _ => none
theorem numT_some {l : List UInt8} {n : Int} (h : numT l = some n) : Lib.itoa n = l ∧ intB n = true := by
  unfold numT at h
  split at h
  · split at h
    · simp only [Option.some.injEq] at h; subst h; assumption
    · cases h
  · cases h

theorem dig_val (d : Nat) (h : d < 10) : Lib.digitVal (UInt8.ofNat (48 + d)) = some d := by
  have e : (UInt8.ofNat (48 + d)).toNat = 48 + d := by simp; omega
  unfold Lib.digitVal
  rw [e]
  simp
  omega
theorem decFrom_append (a b : List UInt8) : ∀ acc, Lib.decFrom acc (a ++ b) = (Lib.decFrom acc a).bind fun m => Lib.decFrom m b := by
  induction a with
  | nil => intro acc; rfl
  | cons x r ih =>
    intro acc
    simp only [List.cons_append, Lib.decFrom]
    cases Lib.digitVal x with
    | none => rfl
    | some d => exact ih _
theorem dec_one (acc d : Nat) (h : d < 10) : Lib.decFrom acc [UInt8.ofNat (48 + d)] = some (acc * 10 + d) := by
  simp only [Lib.decFrom, dig_val d h]
theorem decFrom_digits (u : Nat) : Lib.decFrom 0 (Lib.decDigits u) = some u := by
  induction u using Nat.strongRecOn with
  | _ u ih =>
    rw [Lib.decDigits.eq_def]
    split
    · rename_i h
      rw [dec_one 0 u h]; simp
    · rename_i h
      rw [decFrom_append, ih (u / 10) (by omega), Option.bind_some, dec_one _ _ (Nat.mod_lt _ (by decide))]
      simp only [Option.some.injEq]; omega
theorem digits_ne (u : Nat) : Lib.decDigits u ≠ [] := by
  intro h
  have := Lib.decDigits_length u
  have h2 := Lib.nDigits_pos u
  rw [h] at this
  simp at this
  omega
theorem digits_dig (u : Nat) : ∀ c ∈ Lib.decDigits u, 48 ≤ c.toNat ∧ c.toNat ≤ 57 := by
  induction u using Nat.strongRecOn with
  | _ u ih =>
    rw [Lib.decDigits.eq_def]
    split
    · rename_i h
      intro c hc
      simp only [List.mem_singleton] at hc
      subst hc
      simp; omega
    · rename_i h
      intro c hc
      rcases List.mem_append.1 hc with hc | hc
      · exact ih (u / 10) (by omega) c hc
      · simp only [List.mem_singleton] at hc
        subst hc
        simp; omega
/-- A number of 31 bits has at most 10 digits. -/
theorem digits_len10 (u : Nat) (h : u ≤ 2147483648) : (Lib.decDigits u).length ≤ 10 := by
  rw [Lib.decDigits_length]
  have h1 : u / 10 / 10 / 10 / 10 / 10 / 10 / 10 / 10 / 10 < 10 := by omega
  have step : ∀ (k v : Nat), Lib.nDigits (v / 10) ≤ k → Lib.nDigits v ≤ k + 1 := by
    intro k v hv
    by_cases hb : v < 10
    · rw [Lib.nDigits_small hb]; omega
    · rw [Lib.nDigits_big hb]; omega
  exact step 9 _ (step 8 _ (step 7 _ (step 6 _ (step 5 _ (step 4 _ (step 3 _ (step 2 _ (step 1 _ (by rw [Lib.nDigits_small h1]; omega)))))))))
/-- The first digit is no nought, but of nought itself. -/
theorem digits_head (u : Nat) : ∀ r, Lib.decDigits u = 48 :: r → u = 0 := by
  induction u using Nat.strongRecOn with
  | _ u ih =>
    intro r hr
    rw [Lib.decDigits.eq_def] at hr
    split at hr
    · rename_i h
      simp only [List.cons.injEq] at hr
      have := congrArg UInt8.toNat hr.1
      simp at this
      omega
    · rename_i h
      cases hd : Lib.decDigits (u / 10) with
      | nil => exact absurd hd (digits_ne _)
      | cons c q =>
        rw [hd] at hr
        simp only [List.cons_append, List.cons.injEq] at hr
        have := ih (u / 10) (by omega) q (by rw [hd, hr.1])
        omega

/-- The specification's number of a text. -/
def numN (neg : Bool) (l : List UInt8) : Option Int :=
  if l = [] ∨ 18 < l.length ∨ (l.head? = some 48 ∧ (1 < l.length ∨ neg = true)) then none else (Lib.decFrom 0 l).map fun (m : Nat) => if neg then -(m : Int) else (m : Int)
def numF : List UInt8 → Option Int
  | [] => none
  | c :: r => if c = 45 then numN true r else numN false (c :: r)

theorem numN_digits (neg : Bool) (u : Nat) (h : u ≤ 2147483648) (h0 : neg = true → u ≠ 0) : numN neg (Lib.decDigits u) = some (if neg then -(u : Int) else (u : Int)) := by
  have hl := digits_len10 u h
  unfold numN
  rw [if_neg, decFrom_digits]
  · rfl
  rintro (h1 | h1 | ⟨h1, h2⟩)
  · exact digits_ne u h1
  · omega
  · cases hd : Lib.decDigits u with
    | nil => exact digits_ne u hd
    | cons c r =>
      rw [hd] at h1
      simp only [List.head?_cons, Option.some.injEq] at h1
      subst h1
      have hu := digits_head u r hd
      subst hu
      rcases h2 with h2 | h2
      · rw [Lib.decDigits_one (by decide)] at h2
        simp at h2
      · exact h0 h2 rfl
theorem itoa_numF (n : Int) (h : intB n = true) : numF (Lib.itoa n) = some n := by
  simp only [intB, decide_eq_true_eq] at h
  unfold Lib.itoa
  split
  · rename_i hn
    rw [numF, if_pos rfl, numN_digits true n.natAbs (by omega) (fun _ => by omega)]
    simp only [if_true, Option.some.injEq]; omega
  · rename_i hn
    cases hd : Lib.decDigits n.toNat with
    | nil => exact absurd hd (digits_ne _)
    | cons c r =>
      have hc := digits_dig n.toNat c (by rw [hd]; exact List.mem_cons_self)
      have hc2 : ¬ c = 45 := by intro hh; subst hh; simp at hc
      rw [numF, if_neg hc2, ← hd, numN_digits false n.toNat (by omega) (fun h => by cases h)]
      simp only [Bool.false_eq_true, if_false, Option.some.injEq]; omega
theorem itoa_atoi (n : Int) (h : intB n = true) : Lib.atoiAll (Lib.itoa n) = .ok n := by
  simp only [intB, decide_eq_true_eq] at h
  have key : ∀ u : Nat, Lib.decNat (Lib.decDigits u) = some u := by
    intro u
    unfold Lib.decNat
    rw [if_neg, decFrom_digits]
    intro he
    exact digits_ne u (by simpa using he)
  unfold Lib.itoa
  split
  · rename_i hn
    have hl := digits_len10 n.natAbs (by omega)
    rw [Lib.atoiAll_short _ (by simp; omega)]
    simp only [Lib.atoi, beq_self_eq_true, if_true, key, Option.map_some, Lib.NumEnd.ofOption]
    congr 1; omega
  · rename_i hn
    have hl := digits_len10 n.toNat (by omega)
    rw [Lib.atoiAll_short _ (by omega)]
    cases hd : Lib.decDigits n.toNat with
    | nil => exact absurd hd (digits_ne _)
    | cons c r =>
      have hc := digits_dig n.toNat c (by rw [hd]; exact List.mem_cons_self)
      have hc2 : (c == 45) = false := by rw [beq_eq_false_iff_ne]; intro hh; subst hh; simp at hc
      have hc3 : (c == 43) = false := by rw [beq_eq_false_iff_ne]; intro hh; subst hh; simp at hc
      simp only [Lib.atoi, hc2, hc3, Bool.false_eq_true, if_false]
      rw [← hd, key]
      simp only [Option.map_some, Lib.NumEnd.ofOption]
      congr 1; omega
theorem numT_itoa (n : Int) (h : intB n = true) : numT (Lib.itoa n) = some n := by
  unfold numT; rw [itoa_atoi n h]; simp [h]
/-- The two agree. -/
theorem numT_iff (l : List UInt8) (n : Int) : numT l = some n ↔ numF l = some n ∧ Lib.itoa n = l ∧ intB n = true := by
  constructor
  · intro h
    obtain ⟨h1, h2⟩ := numT_some h
    exact ⟨by rw [← h1]; exact itoa_numF n h2, h1, h2⟩
  · rintro ⟨_, h1, h2⟩
    rw [← h1]; exact numT_itoa n h2

/-- The token at a place, and where it ends. -/
def tokAt (s : ByteArray) (p : Nat) : Option (Tk × Nat) :=
  if bt s p = 36 then (if nameB (s.extract (p + 1) (we s (p + 1))) = true then some (⟨3, 0, s.extract (p + 1) (we s (p + 1))⟩, we s (p + 1)) else none)
  else if letB (bt s p) = true then (if nameB (s.extract p (we s p)) = true then some (⟨1, 0, s.extract p (we s p)⟩, we s p) else none)
  else if bt s p = 45 ∨ digB (bt s p) = true then ((numT (s.extract p (we s (p + 1))).toList).map fun n => (⟨2, n, ⟨#[]⟩⟩, we s (p + 1)))
  else if bt s p = 46 then (if p + 3 ≤ s.size ∧ (s.extract p (p + 3)).toList = [46, 46, 46] then some (⟨4, 0, ⟨#[46, 46, 46]⟩⟩, p + 3) else none)
  else (if punctB (s.extract p (p + 1)).toList = true then some (⟨4, 0, s.extract p (p + 1)⟩, p + 1) else none)
theorem we_letter {s : ByteArray} {p : Nat} (h : p < s.size) (hl : letB (bt s p) = true) : we s p = we s (p + 1) := we_step h (by unfold wdB; rw [hl]; rfl)
theorem tokAt_bounds {s : ByteArray} {p : Nat} {t : Tk} {e : Nat} (h : p < s.size) (ht : tokAt s p = some (t, e)) : p < e ∧ e ≤ s.size := by
  have hw := we_bounds (s := s) (i := p + 1) (by omega)
  unfold tokAt at ht
  split at ht
  · split at ht
    · simp only [Option.some.injEq, Prod.mk.injEq] at ht; omega
    · cases ht
  · split at ht
    · rename_i hl
      split at ht
      · have := we_letter h hl
        simp only [Option.some.injEq, Prod.mk.injEq] at ht; omega
      · cases ht
    · split at ht
      · obtain ⟨n, _, hn⟩ := Option.map_eq_some_iff.1 ht
        simp only [Prod.mk.injEq] at hn; omega
      · split at ht
        · split at ht
          · rename_i hh
            simp only [Option.some.injEq, Prod.mk.injEq] at ht; omega
          · cases ht
        · split at ht
          · simp only [Option.some.injEq, Prod.mk.injEq] at ht; omega
          · cases ht

/-- What is left of a text, read behind some tokens: all tokens and 0, or none and the code. -/
def lexF (s : ByteArray) : Nat → Nat → List Tk → List Tk × Int
  | 0, _, acc => (acc, 0)
  | f + 1, i, acc =>
    if pb s i false < s.size then (match tokAt s (pb s i false) with
      | none => ([], 3)
      | some (t, e) => if acc.length = 4000 then ([], 6) else lexF s f e (acc ++ [t]))
    else (acc, 0)
def lexR (s : ByteArray) (i : Nat) (acc : List Tk) : List Tk × Int := lexF s (s.size + 1 - i) i acc
theorem lexF_fuel (s : ByteArray) : ∀ f g i acc, i ≤ s.size → s.size < i + f → s.size < i + g → lexF s f i acc = lexF s g i acc
  | 0, _, i, acc, h, h1, _ => by omega
  | _ + 1, 0, i, acc, h, _, h1 => by omega
  | f + 1, g + 1, i, acc, h, h1, h2 => by
    have hb := pb_bounds h false
    unfold lexF
    split
    · rename_i hlt
      cases ht : tokAt s (pb s i false) with
      | none => rfl
      | some x =>
        obtain ⟨t, e⟩ := x
        have he := tokAt_bounds hlt ht
        simp only
        split
        · rfl
        · exact lexF_fuel s f g e _ (by omega) (by omega) (by omega)
    · rfl
theorem lexR_eq {s : ByteArray} {i : Nat} (h : i ≤ s.size) (acc : List Tk) : lexR s i acc =
    if pb s i false < s.size then (match tokAt s (pb s i false) with
      | none => ([], 3)
      | some (t, e) => if acc.length = 4000 then ([], 6) else lexR s e (acc ++ [t]))
    else (acc, 0) := by
  obtain ⟨f, hf⟩ : ∃ f, s.size + 1 - i = f + 1 := ⟨s.size - i, by omega⟩
  have hb := pb_bounds h false
  rw [lexR, hf, lexF]
  split
  · rename_i hlt
    cases ht : tokAt s (pb s i false) with
    | none => rfl
    | some x =>
      obtain ⟨t, e⟩ := x
      have he := tokAt_bounds hlt ht
      simp only
      split
      · rfl
      · exact lexF_fuel s _ _ e _ (by omega) (by omega) (by omega)
  · rfl
theorem lexR_skip {s : ByteArray} {i j : Nat} (hi : i ≤ s.size) (hj : j ≤ s.size) (h : pb s i false = pb s j false) (acc : List Tk) : lexR s i acc = lexR s j acc := by
  rw [lexR_eq hi, lexR_eq hj, h]
theorem lexR_none {s : ByteArray} {k : Nat} (hk : k ≤ s.size) (acc : List Tk) (hp : pb s k false < s.size) (ht : tokAt s (pb s k false) = none) : lexR s k acc = ([], 3) := by
  rw [lexR_eq hk, if_pos hp, ht]
theorem lexR_many {s : ByteArray} {k : Nat} (hk : k ≤ s.size) (acc : List Tk) (hp : pb s k false < s.size) {t : Tk} {e : Nat} (ht : tokAt s (pb s k false) = some (t, e)) (h4 : acc.length = 4000) : lexR s k acc = ([], 6) := by
  rw [lexR_eq hk, if_pos hp, ht]
  simp only
  rw [if_pos h4]
theorem lexR_some {s : ByteArray} {k : Nat} (hk : k ≤ s.size) (acc : List Tk) (hp : pb s k false < s.size) {t : Tk} {e : Nat} (ht : tokAt s (pb s k false) = some (t, e)) (h4 : ¬ acc.length = 4000) : lexR s k acc = lexR s e (acc ++ [t]) := by
  rw [lexR_eq hk, if_pos hp, ht]
  simp only
  rw [if_neg h4]
theorem lexR_done {s : ByteArray} {k : Nat} (hk : k ≤ s.size) (acc : List Tk) (hp : ¬ pb s k false < s.size) : lexR s k acc = (acc, 0) := by
  rw [lexR_eq hk, if_neg hp]
def lexB (s : ByteArray) : List Tk × Int := if 65536 < s.size then ([], 2) else lexR s 0 []
end Go.Proofs.YtoaeggfnlenjkaaGreatDoor
