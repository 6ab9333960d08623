/- No two right answers' values have one text. -/
import Derived.Test.YtlliimlhdpbgdaaGreatDoorOuText
import Derived.Lib.ItoaNum
namespace Go.Proofs.YtlliimlhdpbgdaaGreatDoor.G
open Go.ChangeShapes Go.WideShapes Go.ChangeAt Go.RowKit
set_option linter.unusedVariables false

def nl (s : ByteArray) : List UInt8 := s.data.toList
theorem nl_inj {a b : ByteArray} (h : nl a = nl b) : a = b := by
  apply ByteArray.ext; exact Array.toList_inj.1 h
def wd (c : UInt8) : Bool := letB c.toNat || digB c.toNat
def Stops (p : UInt8 → Bool) (r : List UInt8) : Prop := ∀ c t, r = c :: t → p c = false
theorem span_inj {p : UInt8 → Bool} : ∀ {a b r r' : List UInt8}, (∀ c ∈ a, p c = true) → (∀ c ∈ b, p c = true) → Stops p r → Stops p r' → a ++ r = b ++ r' → a = b ∧ r = r'
  | [], [], _, _, _, _, _, _, h => ⟨rfl, h⟩
  | [], c :: b, r, _, _, hb, hr, _, h => by
    have := hr c _ h; rw [hb c List.mem_cons_self] at this; cases this
  | c :: a, [], _, r', ha, _, _, hr', h => by
    have := hr' c _ h.symm; rw [ha c List.mem_cons_self] at this; cases this
  | c :: a, d :: b, r, r', ha, hb, hr, hr', h => by
    simp only [List.cons_append, List.cons.injEq] at h
    obtain ⟨rfl, h⟩ := h
    obtain ⟨rfl, h2⟩ := span_inj (fun x hx => ha x (List.mem_cons_of_mem _ hx)) (fun x hx => hb x (List.mem_cons_of_mem _ hx)) hr hr' h
    exact ⟨rfl, h2⟩
theorem stops_cons {p : UInt8 → Bool} {c : UInt8} {t : List UInt8} (h : p c = false) : Stops p (c :: t) := fun d u e => by
  simp only [List.cons.injEq] at e; rw [← e.1]; exact h

theorem tail_wd (s : ByteArray) : ∀ (f k i : Nat), tailB s f k = true → k ≤ i → i < k + f → (letB (bt s i) || digB (bt s i)) = true
  | 0, k, i, _, _, _ => by omega
  | f + 1, k, i, h, h1, h2 => by
    rw [tailB, Bool.and_eq_true] at h
    by_cases e : i = k
    · subst e; exact h.1
    · exact tail_wd s f (k + 1) i h.2 (by omega) (by omega)
theorem name_open {t : ByteArray} (h : nameB t = true) : ∃ c W, nl t = c :: W ∧ letB c.toNat = true ∧ ∀ x ∈ nl t, wd x = true := by
  simp only [nameB, Bool.and_eq_true, decide_eq_true_eq] at h
  obtain ⟨⟨⟨h1, _⟩, h3⟩, h4⟩ := h
  have hs : t.size = (nl t).length := by rw [nl, Array.length_toList]; rfl
  have hb : ∀ i (hi : i < (nl t).length), bt t i = (((nl t)[i]).toNat : Int) := by
    intro i hi
    rw [bt_lt (by omega)]
    rfl
  cases hl : nl t with
  | nil => rw [hl, List.length_nil] at hs; omega
  | cons c W =>
    have h0 := hb 0 (by rw [hl]; simp)
    simp only [hl, List.getElem_cons_zero] at h0
    rw [h0] at h3
    refine ⟨c, W, rfl, h3, fun x hx => ?_⟩
    rw [← hl] at hx
    obtain ⟨i, hi, rfl⟩ := List.getElem_of_mem hx
    unfold wd
    rw [← hb i hi]
    by_cases e : i = 0
    · subst e; rw [h0, h3]; rfl
    · exact tail_wd t _ 1 i h4 (by omega) (by omega)
theorem name_inj {s s' : ByteArray} {r r' : List UInt8} (h : nameB s = true) (h' : nameB s' = true) (hr : Stops wd r) (hr' : Stops wd r') (e : nl s ++ r = nl s' ++ r') : s = s' ∧ r = r' := by
  obtain ⟨_, _, _, _, h1⟩ := name_open h
  obtain ⟨_, _, _, _, h2⟩ := name_open h'
  obtain ⟨h3, h4⟩ := span_inj h1 h2 hr hr' e
  exact ⟨nl_inj h3, h4⟩
def numOf (l : List UInt8) : Nat := l.foldl (fun a c => 10 * a + (c.toNat - 48)) 0
theorem numOf_digits (u : Nat) : numOf (Lib.decDigits u) = u := by
  induction u using Nat.strongRecOn with
  | _ u ih =>
    rw [Lib.decDigits]
    split
    · rename_i h
      have : (UInt8.ofNat (48 + u)).toNat = 48 + u := by simp [UInt8.toNat_ofNat']; omega
      simp [numOf]; omega
    · rename_i h
      have e := ih (u / 10) (by omega)
      have : (UInt8.ofNat (48 + u % 10)).toNat = 48 + u % 10 := by simp [UInt8.toNat_ofNat']; omega
      unfold numOf at e ⊢
      rw [List.foldl_append, e]
      simp only [List.foldl_cons, List.foldl_nil, this]
      omega
theorem digits_all (u : Nat) : ∀ x ∈ Lib.decDigits u, 48 ≤ x.toNat ∧ x.toNat ≤ 57 := by
  induction u using Nat.strongRecOn with
  | _ u ih =>
    intro x hx
    rw [Lib.decDigits] at hx
    split at hx
    · rename_i h
      have : (UInt8.ofNat (48 + u)).toNat = 48 + u := by simp [UInt8.toNat_ofNat']; omega
      simp only [List.mem_singleton] at hx
      subst hx; omega
    · rename_i h
      have : (UInt8.ofNat (48 + u % 10)).toNat = 48 + u % 10 := by simp [UInt8.toNat_ofNat']; omega
      rcases List.mem_append.1 hx with hx | hx
      · exact ih (u / 10) (by omega) x hx
      · simp only [List.mem_singleton] at hx
        subst hx; omega
theorem digits_ne (u : Nat) : Lib.decDigits u ≠ [] := by
  rw [Lib.decDigits]; split <;> simp
theorem itoa_head (n : Int) : ∃ c W, Lib.itoa n = c :: W ∧ (c = 45 ∨ (48 ≤ c.toNat ∧ c.toNat ≤ 57)) ∧ ∀ x ∈ Lib.itoa n, x = 45 ∨ (48 ≤ x.toNat ∧ x.toNat ≤ 57) := by
  unfold Lib.itoa
  split
  · refine ⟨45, _, rfl, .inl rfl, fun x hx => ?_⟩
    rcases List.mem_cons.1 hx with rfl | hx
    · exact .inl rfl
    · exact .inr (digits_all _ x hx)
  · cases he : Lib.decDigits n.toNat with
    | nil => exact absurd he (digits_ne _)
    | cons c W =>
      exact ⟨c, W, rfl, .inr (digits_all n.toNat c (by rw [he]; exact List.mem_cons_self)), fun x hx => .inr (digits_all n.toNat x (by rw [he]; exact hx))⟩
theorem itoa_inj {n m : Int} (h : Lib.itoa n = Lib.itoa m) : n = m := by
  unfold Lib.itoa at h
  split at h <;> split at h
  · simp only [List.cons.injEq, true_and] at h
    have := congrArg numOf h
    rw [numOf_digits, numOf_digits] at this; omega
  · exfalso
    have := digits_all m.toNat 45 (by rw [← h]; exact List.mem_cons_self)
    revert this; decide
  · exfalso
    have := digits_all n.toNat 45 (by rw [h]; exact List.mem_cons_self)
    revert this; decide
  · have := congrArg numOf h
    rw [numOf_digits, numOf_digits] at this; omega

def nm (c : UInt8) : Bool := c == 45 || digB c.toNat
/-- A value's text, its items' texts told; each item with a comma ahead. -/
def vP (h : Oh) (b : List UInt8) : List UInt8 :=
  if h.k = 0 then [110, 117, 108, 108]
  else if h.k = 1 then Lib.itoa h.n
  else if h.k = 2 then 34 :: (nl h.t ++ [34])
  else (if h.k = 4 then 123 else 91) :: (b.drop 1 ++ [if h.k = 4 then 125 else 93])
def kP (ob : Bool) (k : ByteArray) : List UInt8 := if ob = true then 34 :: (nl k ++ [34, 58]) else []
def rP : Bool → List ByteArray → Ous → List UInt8
  | _, _, .nil => []
  | ob, ks, .cons h sub rest => 44 :: (kP ob (ks.headD ⟨#[]⟩) ++ (vP h (rP (h.k == 4) h.keys sub) ++ rP ob ks.tail rest))
def oP (h : Oh) (sub : Ous) : List UInt8 := vP h (rP (h.k == 4) h.keys sub)
theorem nl_app (a b : ByteArray) : nl (a ++ b) = nl a ++ nl b := by simp [nl]
def cW (ss : List ByteArray) : List UInt8 := ss.flatMap fun s => 44 :: nl s
theorem cW_drop {ss : List ByteArray} {s : ByteArray} (h : ss ≠ []) : (cW (ss ++ [s])).drop 1 = (cW ss).drop 1 ++ 44 :: nl s := by
  cases ss with
  | nil => exact absurd rfl h
  | cons x ss => simp [cW]
theorem cjTo_nl {ss : List ByteArray} : ∀ k, k ≤ ss.length → nl (cjTo ss k) = (cW (ss.take k)).drop 1
  | 0, _ => rfl
  | k + 1, hk => by
    have ih := cjTo_nl (ss := ss) k (by omega)
    have hg : ss.getD k ⟨#[]⟩ = ss[k] := by rw [List.getD_eq_getElem?_getD, List.getElem?_eq_getElem (by omega)]; rfl
    rw [cjTo, hg, List.take_succ_eq_append_getElem (by omega)]
    split
    · rename_i h0
      have hne : ss.take k ≠ [] := by
        intro e
        have h2 : (ss.take k).length = 0 := by rw [e]; rfl
        rw [List.length_take] at h2; omega
      rw [cW_drop hne, nl_app, nl_app, ih]
      show _ ++ [44] ++ _ = _
      simp
    · rename_i h0
      have : k = 0 := by omega
      subst this
      rw [nl_app, ih]
      simp [cW]
theorem cj_nl (ss : List ByteArray) : nl (cj ss) = (cW ss).drop 1 := by
  have := cjTo_nl (ss := ss) ss.length (Nat.le_refl _)
  rw [List.take_length] at this; exact this
theorem valT_nl (h : Oh) (ws : List ByteArray) : nl (valT h ws) = vP h (cW ws) := by
  unfold valT vP
  split
  · rfl
  split
  · show (Lib.itoa h.n).toArray.toList = _; simp
  split
  · rw [nl_app, nl_app]; show [34] ++ nl h.t ++ [34] = _; simp
  · rw [nl_app, nl_app, cj_nl]
    unfold endsA endsB
    split
    · show [123] ++ _ ++ [125] = _; simp
    · show [91] ++ _ ++ [93] = _; simp
theorem keyed_nl (ob : Bool) (k s : ByteArray) : nl (keyed ob k s) = kP ob k ++ nl s := by
  unfold keyed kP
  split
  · rw [nl_app, nl_app, nl_app]; show [34] ++ nl k ++ [34, 58] ++ nl s = _; simp
  · rfl
theorem words_nl : ∀ (l : Ous) (ob : Bool) (ks : List ByteArray), cW (wordsO ob ks l) = rP ob ks l
  | .nil, ob, ks => rfl
  | .cons h sub rest, ob, ks => by
    have i1 := words_nl sub (h.k == 4) h.keys
    have i2 := words_nl rest ob ks.tail
    rw [wordsO, rP, ← i2]
    show 44 :: nl _ ++ cW _ = _
    rw [keyed_nl, valT_nl, i1]
    simp
theorem outT_nl (h : Oh) (sub : Ous) : nl (outT h sub) = oP h sub := by
  unfold outT oP
  rw [valT_nl, words_nl]
/-- What may follow a value. -/
def Ed (r : List UInt8) : Prop := r = [] ∨ ∃ c t, r = c :: t ∧ (c = 44 ∨ c = 93 ∨ c = 125)
def Sp (r : List UInt8) : Prop := ∃ c t, r = c :: t ∧ (c = 93 ∨ c = 125)
theorem Ed.stops {r : List UInt8} (h : Ed r) : Stops nm r := by
  rcases h with rfl | ⟨c, t, rfl, h⟩
  · intro c t e; cases e
  · refine stops_cons ?_
    rcases h with rfl | rfl | rfl <;> decide
theorem Sp.ed {r : List UInt8} (h : Sp r) (ob : Bool) (ks : List ByteArray) (l : Ous) : Ed (rP ob ks l ++ r) := by
  cases l with
  | nil => obtain ⟨c, t, rfl, h⟩ := h; exact .inr ⟨c, t, rfl, by rcases h with h | h <;> simp [h]⟩
  | cons h sub rest => exact .inr ⟨44, _, rfl, .inl rfl⟩
theorem itoa_nm (n : Int) : ∀ x ∈ Lib.itoa n, nm x = true := by
  obtain ⟨_, _, _, _, h⟩ := itoa_head n
  intro x hx
  unfold nm digB
  rcases h x hx with rfl | h
  · rfl
  · rw [Bool.or_eq_true]; right; rw [decide_eq_true_eq]; omega
theorem noT_eq {h : Oh} (hn : noT h = true) : h.t = ⟨#[]⟩ := by
  unfold noT at hn
  rw [ByteArray.toList_eq] at hn
  exact nl_inj (by simpa [nl] using hn)
/-- A right head, by its kind. -/
theorem head_kinds {h : Oh} {sub : Ous} (hh : headB h sub = true) :
    (h = ⟨0, 0, ⟨#[]⟩, []⟩ ∧ sub = .nil) ∨ (h = ⟨1, h.n, ⟨#[]⟩, []⟩ ∧ sub = .nil) ∨ (h = ⟨2, 0, h.t, []⟩ ∧ nameB h.t = true ∧ sub = .nil) ∨ h = ⟨3, 0, ⟨#[]⟩, []⟩ ∨ (h = ⟨4, 0, ⟨#[]⟩, h.keys⟩ ∧ h.keys.length = sub.len ∧ keysB h.keys = true) := by
  unfold headB at hh
  obtain ⟨k, n, t, ks⟩ := h
  simp only at hh
  by_cases k0 : k = 0
  · subst k0
    simp only [if_pos, Bool.and_eq_true] at hh
    have hs := plain_nil hh.1.1
    have ht := noT_eq hh.2
    have hp := hh.1.1
    simp only [plainB, Bool.and_eq_true, decide_eq_true_eq] at hp
    have hk : ks = [] := List.eq_nil_of_length_eq_zero hp.1
    have hn : n = 0 := by simpa using hh.1.2
    exact .inl ⟨by rw [hk, hn]; simp only at ht; rw [ht], hs⟩
  rw [if_neg k0] at hh
  by_cases k1 : k = 1
  · subst k1
    simp only [if_pos, Bool.and_eq_true] at hh
    have hs := plain_nil hh.1.1
    have ht := noT_eq hh.2
    have hp := hh.1.1
    simp only [plainB, Bool.and_eq_true, decide_eq_true_eq] at hp
    have hk : ks = [] := List.eq_nil_of_length_eq_zero hp.1
    exact .inr (.inl ⟨by rw [hk]; simp only at ht; rw [ht], hs⟩)
  rw [if_neg k1] at hh
  by_cases k2 : k = 2
  · subst k2
    simp only [if_pos, Bool.and_eq_true] at hh
    have hs := plain_nil hh.1.1
    have hp := hh.1.1
    simp only [plainB, Bool.and_eq_true, decide_eq_true_eq] at hp
    have hk : ks = [] := List.eq_nil_of_length_eq_zero hp.1
    have hn : n = 0 := by simpa using hh.1.2
    exact .inr (.inr (.inl ⟨by rw [hk, hn], hh.2, hs⟩))
  rw [if_neg k2] at hh
  by_cases k3 : k = 3
  · subst k3
    simp only [if_pos, Bool.and_eq_true, decide_eq_true_eq] at hh
    have ht := noT_eq hh.1.2
    have hk : ks = [] := List.eq_nil_of_length_eq_zero hh.2
    have hn : n = 0 := by simpa using hh.1.1
    exact .inr (.inr (.inr (.inl (by rw [hk, hn]; simp only at ht; rw [ht]))))
  rw [if_neg k3] at hh
  by_cases k4 : k = 4
  · subst k4
    simp only [if_pos, Bool.and_eq_true, decide_eq_true_eq] at hh
    have ht := noT_eq hh.1.1.2
    have hn : n = 0 := by simpa using hh.1.1.1
    exact .inr (.inr (.inr (.inr ⟨by rw [hn]; simp only at ht; rw [ht], hh.1.2, hh.2⟩)))
  rw [if_neg k4] at hh; cases hh
/-- A text's first byte tells its kind. -/
def tagO (c : UInt8) : Int := if c = 110 then 0 else if c = 34 then 2 else if c = 91 then 3 else if c = 123 then 4 else 1
theorem val_first {h : Oh} {sub : Ous} (hh : headB h sub = true) (b : List UInt8) : ∃ c W, vP h b = c :: W ∧ tagO c = h.k ∧ c ≠ 93 ∧ c ≠ 125 := by
  rcases head_kinds hh with ⟨e, _⟩ | ⟨e, _⟩ | ⟨e, _, _⟩ | e | ⟨e, _, _⟩
  · rw [e]; exact ⟨110, _, rfl, rfl, by decide, by decide⟩
  · obtain ⟨c, W, h1, h2, _⟩ := itoa_head h.n
    rw [e]
    refine ⟨c, W, by rw [← h1]; rfl, ?_, ?_, ?_⟩
    · unfold tagO
      rcases h2 with rfl | h2
      · rfl
      · have hne : ∀ d : UInt8, ¬ (48 ≤ d.toNat ∧ d.toNat ≤ 57) → c ≠ d := fun d hd e => hd (e ▸ h2)
        rw [if_neg (hne 110 (by decide)), if_neg (hne 34 (by decide)), if_neg (hne 91 (by decide)), if_neg (hne 123 (by decide))]
    · rintro rfl; rcases h2 with h2 | h2 <;> revert h2 <;> decide
    · rintro rfl; rcases h2 with h2 | h2 <;> revert h2 <;> decide
  · rw [e]; exact ⟨34, _, rfl, rfl, by decide, by decide⟩
  · rw [e]; exact ⟨91, _, rfl, rfl, by decide, by decide⟩
  · rw [e]; exact ⟨123, _, rfl, rfl, by decide, by decide⟩
theorem keysB_names {ks : List ByteArray} (h : keysB ks = true) : ∀ k ∈ ks, nameB k = true := fun k hk => by
  obtain ⟨i, hi, rfl⟩ := List.getElem_of_mem hk
  have := keysB_at h hi
  rw [keyB_eq hi, Bool.and_eq_true] at this
  exact this.1
def KeysOf (ob : Bool) (ks : List ByteArray) (l : Ous) : Prop := ob = true → ks.length = l.len ∧ ∀ k ∈ ks, nameB k = true
def InjS (l : Ous) : Prop := ∀ (l' : Ous) (d d' : Nat) (ob : Bool) (ks ks' : List ByteArray) (r r' : List UInt8), okO d l = true → okO d' l' = true → KeysOf ob ks l → KeysOf ob ks' l' → Sp r → Sp r' →
  rP ob ks l ++ r = rP ob ks' l' ++ r' → l = l' ∧ (ob = true → ks = ks') ∧ r = r'
/-- An item's first byte ends no list. -/
theorem item_first {d : Nat} {h : Oh} {sub rest : Ous} (hok : okO d (.cons h sub rest) = true) (ob : Bool) (ks : List ByteArray) (r : List UInt8) : ∃ c W, (rP ob ks (.cons h sub rest)).drop 1 ++ r = c :: W ∧ c ≠ 93 ∧ c ≠ 125 := by
  rw [okO_cons, Bool.and_eq_true] at hok
  simp only [oneO, Bool.and_eq_true] at hok
  cases ob
  · obtain ⟨c, W, e, _, h1, h2⟩ := val_first hok.1.1.2 (rP (h.k == 4) h.keys sub)
    refine ⟨c, W ++ (rP false ks.tail rest ++ r), ?_, h1, h2⟩
    show (kP false _ ++ (vP h _ ++ rP false ks.tail rest)) ++ r = _
    rw [e]; simp [kP]
  · refine ⟨34, nl (ks.headD ⟨#[]⟩) ++ [34, 58] ++ (vP h (rP (h.k == 4) h.keys sub) ++ rP true ks.tail rest) ++ r, ?_, by decide, by decide⟩
    show (kP true _ ++ (vP h _ ++ rP true ks.tail rest)) ++ r = _
    simp [kP]
/-- Groups: their items' texts, cut at the end. -/
theorem group_inj {sub sub' : Ous} (ih : InjS sub) {d d' : Nat} (hok : okO d sub = true) (hok' : okO d' sub' = true) {ob : Bool} {ks ks' : List ByteArray} (hk : KeysOf ob ks sub) (hk' : KeysOf ob ks' sub') {r r' : List UInt8} (hr : Sp r) (hr' : Sp r')
    (e : (rP ob ks sub).drop 1 ++ r = (rP ob ks' sub').drop 1 ++ r') : sub = sub' ∧ (ob = true → ks = ks') ∧ r = r' := by
  have nokey : ∀ {ks : List ByteArray}, KeysOf ob ks .nil → ob = true → ks = [] := fun h e => List.eq_nil_of_length_eq_zero (h e).1
  cases sub with
  | nil =>
    cases sub' with
    | nil => exact ⟨rfl, fun e2 => by rw [nokey hk e2, nokey hk' e2], e⟩
    | cons h' s' t' =>
      obtain ⟨c, W, e2, h1, h2⟩ := item_first hok' ob ks' r'
      obtain ⟨c', W', rfl, h3⟩ := hr
      rw [e2] at e
      have : c' = c := by
        have := congrArg List.head? e; simpa [rP] using this
      subst this
      rcases h3 with h3 | h3
      · exact absurd h3 h1
      · exact absurd h3 h2
  | cons h s t =>
    cases sub' with
    | nil =>
      obtain ⟨c, W, e2, h1, h2⟩ := item_first hok ob ks r
      obtain ⟨c', W', rfl, h3⟩ := hr'
      rw [e2] at e
      have : c = c' := by
        have := congrArg List.head? e; simpa [rP] using this
      subst this
      rcases h3 with h3 | h3
      · exact absurd h3 h1
      · exact absurd h3 h2
    | cons h' s' t' =>
      refine ih _ d d' ob ks ks' r r' hok hok' hk hk' hr hr' ?_
      show 44 :: ((rP ob ks (.cons h s t)).drop 1 ++ r) = 44 :: ((rP ob ks' (.cons h' s' t')).drop 1 ++ r')
      rw [e]
theorem val_inj {h h' : Oh} {sub sub' : Ous} (ih : InjS sub) {d d' : Nat} (hh : headB h sub = true) (hh' : headB h' sub' = true) (hok : okO d sub = true) (hok' : okO d' sub' = true) {R R' : List UInt8} (hR : Ed R) (hR' : Ed R') (e : oP h sub ++ R = oP h' sub' ++ R') : h = h' ∧ sub = sub' ∧ R = R' := by
  have hkk : h.k = h'.k := by
    obtain ⟨c, W, e1, h1, _⟩ := val_first hh (rP (h.k == 4) h.keys sub)
    obtain ⟨c', W', e1', h1', _⟩ := val_first hh' (rP (h'.k == 4) h'.keys sub')
    unfold oP at e
    rw [e1, e1'] at e
    have : c = c' := by have := congrArg List.head? e; simpa using this
    rw [← h1, ← h1', this]
  rcases head_kinds hh with ⟨g, s0⟩ | ⟨g, s0⟩ | ⟨g, gn, s0⟩ | g | ⟨g, gl, gk⟩ <;> rcases head_kinds hh' with ⟨g', s0'⟩ | ⟨g', s0'⟩ | ⟨g', gn', s0'⟩ | g' | ⟨g', gl', gk'⟩
  all_goals (first | (exfalso; have a := congrArg Oh.k g; have b := congrArg Oh.k g'; simp only at a b; omega) | skip)
  · rw [g, g'] at e ⊢
    refine ⟨rfl, by rw [s0, s0'], ?_⟩
    have : [110, 117, 108, 108] ++ R = [110, 117, 108, 108] ++ R' := e
    simpa using this
  · rw [g, g'] at e
    have e2 : Lib.itoa h.n ++ R = Lib.itoa h'.n ++ R' := e
    obtain ⟨q1, q2⟩ := span_inj (itoa_nm _) (itoa_nm _) hR.stops hR'.stops e2
    exact ⟨by rw [g, g', itoa_inj q1], by rw [s0, s0'], q2⟩
  · rw [g, g'] at e
    have e2 : 34 :: (nl h.t ++ [34]) ++ R = 34 :: (nl h'.t ++ [34]) ++ R' := e
    simp only [List.cons_append, List.append_assoc, List.cons.injEq, true_and, List.nil_append] at e2
    obtain ⟨q1, q2⟩ := name_inj gn gn' (stops_cons (by decide)) (stops_cons (by decide)) e2
    exact ⟨by rw [g, g', q1], by rw [s0, s0'], by simpa using q2⟩
  · have e1 : oP h sub = 91 :: ((rP false [] sub).drop 1 ++ [93]) := by rw [g]; rfl
    have e1' : oP h' sub' = 91 :: ((rP false [] sub').drop 1 ++ [93]) := by rw [g']; rfl
    rw [e1, e1'] at e
    simp only [List.cons_append, List.append_assoc, List.cons.injEq, true_and, List.nil_append] at e
    obtain ⟨q1, _, q2⟩ := group_inj ih hok hok' (fun e => by cases e) (fun e => by cases e) ⟨93, R, rfl, .inl rfl⟩ ⟨93, R', rfl, .inl rfl⟩ e
    exact ⟨by rw [g, g'], q1, by simpa using q2⟩
  · have e1 : oP h sub = 123 :: ((rP true h.keys sub).drop 1 ++ [125]) := by rw [g]; rfl
    have e1' : oP h' sub' = 123 :: ((rP true h'.keys sub').drop 1 ++ [125]) := by rw [g']; rfl
    rw [e1, e1'] at e
    simp only [List.cons_append, List.append_assoc, List.cons.injEq, true_and, List.nil_append] at e
    obtain ⟨q1, q3, q2⟩ := group_inj ih hok hok' (fun _ => ⟨gl, keysB_names gk⟩) (fun _ => ⟨gl', keysB_names gk'⟩) ⟨125, R, rfl, .inr rfl⟩ ⟨125, R', rfl, .inr rfl⟩ e
    exact ⟨by rw [g, g', q3 rfl], q1, by simpa using q2⟩
theorem list_inj : ∀ l : Ous, InjS l
  | .nil => by
    intro l' d d' ob ks ks' r r' hok hok' hk hk' hr hr' e
    cases l' with
    | nil => exact ⟨rfl, fun e2 => by rw [List.eq_nil_of_length_eq_zero (hk e2).1, List.eq_nil_of_length_eq_zero (hk' e2).1], e⟩
    | cons h s t =>
      exfalso
      obtain ⟨c, W, rfl, h1⟩ := hr
      have : c = 44 := by have := congrArg List.head? e; simpa [rP] using this
      subst this
      rcases h1 with h1 | h1 <;> revert h1 <;> decide
  | .cons h sub rest => by
    intro l' d d' ob ks ks' r r' hok hok' hk hk' hr hr' e
    cases l' with
    | nil =>
      exfalso
      obtain ⟨c, W, rfl, h1⟩ := hr'
      have : c = 44 := by have := congrArg List.head? e; simpa [rP, eq_comm] using this
      subst this
      rcases h1 with h1 | h1 <;> revert h1 <;> decide
    | cons h' sub' rest' =>
      have i1 := list_inj sub
      have i2 := list_inj rest
      rw [okO_cons, Bool.and_eq_true] at hok hok'
      simp only [oneO, Bool.and_eq_true] at hok hok'
      have e2 : kP ob (ks.headD ⟨#[]⟩) ++ (oP h sub ++ (rP ob ks.tail rest ++ r)) = kP ob (ks'.headD ⟨#[]⟩) ++ (oP h' sub' ++ (rP ob ks'.tail rest' ++ r')) := by
        have : 44 :: (kP ob (ks.headD ⟨#[]⟩) ++ (oP h sub ++ rP ob ks.tail rest)) ++ r = 44 :: (kP ob (ks'.headD ⟨#[]⟩) ++ (oP h' sub' ++ rP ob ks'.tail rest')) ++ r' := e
        simpa using this
      have key : (ob = true → ks.headD ⟨#[]⟩ = ks'.headD ⟨#[]⟩) ∧ oP h sub ++ (rP ob ks.tail rest ++ r) = oP h' sub' ++ (rP ob ks'.tail rest' ++ r') := by
        cases ob
        · exact ⟨fun e => (by cases e), e2⟩
        · obtain ⟨hl, hn⟩ := hk rfl
          obtain ⟨hl', hn'⟩ := hk' rfl
          cases ks with
          | nil => simp [Ous.len] at hl
          | cons k ks =>
            cases ks' with
            | nil => simp [Ous.len] at hl'
            | cons k' ks' =>
              have e3 : 34 :: (nl k ++ [34, 58]) ++ (oP h sub ++ (rP true ks rest ++ r)) = 34 :: (nl k' ++ [34, 58]) ++ (oP h' sub' ++ (rP true ks' rest' ++ r')) := e2
              simp only [List.cons_append, List.append_assoc, List.cons.injEq, true_and, List.nil_append] at e3
              obtain ⟨q1, q2⟩ := name_inj (hn k (by simp)) (hn' k' (by simp)) (stops_cons (by decide)) (stops_cons (by decide)) e3
              exact ⟨fun _ => q1, by simpa using q2⟩
      obtain ⟨q1, q2, q3⟩ := val_inj i1 hok.1.1.2 hok'.1.1.2 hok.1.2 hok'.1.2 (hr.ed _ _ _) (hr'.ed _ _ _) key.2
      have tl : ∀ {ks : List ByteArray} {h : Oh} {s t : Ous}, KeysOf ob ks (.cons h s t) → KeysOf ob ks.tail t := fun hk e => by
        obtain ⟨h1, h2⟩ := hk e
        refine ⟨by simp [Ous.len] at h1; simp [h1], fun k hk => h2 k (List.mem_of_mem_tail hk)⟩
      obtain ⟨p1, p2, p3⟩ := i2 rest' d d' ob ks.tail ks'.tail r r' hok.2 hok'.2 (tl hk) (tl hk') hr hr' q3
      refine ⟨by rw [q1, q2, p1], fun eo => ?_, p3⟩
      have h1 := key.1 eo
      have h2 := p2 eo
      obtain ⟨hl, _⟩ := hk eo
      obtain ⟨hl', _⟩ := hk' eo
      cases ks with
      | nil => simp [Ous.len] at hl
      | cons k ks =>
        cases ks' with
        | nil => simp [Ous.len] at hl'
        | cons k' ks' =>
          simp only [List.headD_cons, List.tail_cons] at h1 h2
          rw [h1, h2]
/-- Right values of one text are one. -/
theorem out_inj {d d' : Nat} {h h' : Oh} {sub sub' : Ous} (ho : outB d h sub = true) (ho' : outB d' h' sub' = true) (e : outT h sub = outT h' sub') : h = h' ∧ sub = sub' := by
  obtain ⟨_, h1, h2, _⟩ := outB_all ho
  obtain ⟨_, h1', h2', _⟩ := outB_all ho'
  have e2 : oP h sub ++ [] = oP h' sub' ++ [] := by rw [← outT_nl, ← outT_nl, e]
  obtain ⟨q1, q2, _⟩ := val_inj (list_inj sub) h1 h1' h2 h2' (.inl rfl) (.inl rfl) e2
  exact ⟨q1, q2⟩
end Go.Proofs.YtlliimlhdpbgdaaGreatDoor.G
