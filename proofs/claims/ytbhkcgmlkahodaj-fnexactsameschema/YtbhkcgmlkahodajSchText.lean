/- The text of a schema, as words with a blank ahead of each; right schemas of one text are one. -/
import Derived.Test.YtbhkcgmlkahodajSchSame
namespace Go.Proofs.Ytbhkcgmlkahodaj.G
open Go.ChangeShapes Go.WideShapes Go.ChangeAt Go.RowKit
set_option linter.unusedVariables false

def nl (s : ByteArray) : List UInt8 := s.data.toList
theorem nl_inj {a b : ByteArray} (h : nl a = nl b) : a = b := bytes_inj h
def wd (c : UInt8) : Bool := letB c.toNat || digB c.toNat
theorem tail_wd (s : ByteArray) : ∀ (f k i : Nat), tailB s f k = true → k ≤ i → i < k + f → (letB (bt s i) || digB (bt s i)) = true
  | 0, k, i, _, _, _ => by omega
  | f + 1, k, i, h, h1, h2 => by
    rw [tailB, Bool.and_eq_true] at h
    by_cases e : i = k
    · subst e; exact h.1
    · exact tail_wd s f (k + 1) i h.2 (by omega) (by omega)
theorem name_open {t : ByteArray} (h : nameB t = true) : ∃ c W, nl t = c :: W ∧ letB c.toNat = true ∧ ∀ x ∈ nl t, wd x = true := by
  simp only [nameB, Bool.and_eq_true, decide_eq_true_eq] at h
  obtain ⟨⟨⟨h1, _⟩, h3⟩, h4⟩ := h
  have hs : t.size = (nl t).length := by rw [nl, Array.length_toList]; rfl
  have hb : ∀ i (hi : i < (nl t).length), bt t i = (((nl t)[i]).toNat : Int) := by
    intro i hi
    rw [bt_lt (by omega)]
    rfl
  cases hl : nl t with
  | nil => rw [hl, List.length_nil] at hs; omega
  | cons c W =>
    have h0 := hb 0 (by rw [hl]; simp)
    simp only [hl, List.getElem_cons_zero] at h0
    rw [h0] at h3
    refine ⟨c, W, rfl, h3, fun x hx => ?_⟩
    rw [← hl] at hx
    obtain ⟨i, hi, rfl⟩ := List.getElem_of_mem hx
    unfold wd
    rw [← hb i hi]
    by_cases e : i = 0
    · subst e; rw [h0, h3]; rfl
    · exact tail_wd t _ 1 i h4 (by omega) (by omega)

def J : List (List UInt8) → List UInt8
  | [] => []
  | t :: r => 32 :: (t ++ J r)
theorem J_append (a b : List (List UInt8)) : J (a ++ b) = J a ++ J b := by
  induction a with
  | nil => rfl
  | cons t a ih => simp [J, ih]
theorem J_first (l : List (List UInt8)) : J l = [] ∨ ∃ t, J l = 32 :: t := by
  cases l with
  | nil => exact .inl rfl
  | cons t r => exact .inr ⟨_, rfl⟩
theorem cut_inj : ∀ {t u R S : List UInt8}, (∀ c ∈ t, c ≠ 32) → (∀ c ∈ u, c ≠ 32) → (R = [] ∨ ∃ x, R = 32 :: x) → (S = [] ∨ ∃ x, S = 32 :: x) → t ++ R = u ++ S → t = u ∧ R = S
  | [], [], R, S, _, _, _, _, e => ⟨rfl, by simpa using e⟩
  | [], c :: u, R, S, _, hu, hR, _, e => by
    exfalso
    rcases hR with rfl | ⟨x, rfl⟩
    · simp at e
    · simp only [List.nil_append, List.cons_append, List.cons.injEq] at e
      exact hu c (by simp) e.1.symm
  | c :: t, [], R, S, ht, _, _, hS, e => by
    exfalso
    rcases hS with rfl | ⟨x, rfl⟩
    · simp at e
    · simp only [List.nil_append, List.cons_append, List.cons.injEq] at e
      exact ht c (by simp) e.1
  | c :: t, d :: u, R, S, ht, hu, hR, hS, e => by
    simp only [List.cons_append, List.cons.injEq] at e
    obtain ⟨h1, h2⟩ := cut_inj (fun x hx => ht x (by simp [hx])) (fun x hx => hu x (by simp [hx])) hR hS e.2
    exact ⟨by rw [e.1, h1], h2⟩
theorem J_inj : ∀ {a b : List (List UInt8)}, (∀ t ∈ a, ∀ c ∈ t, c ≠ 32) → (∀ t ∈ b, ∀ c ∈ t, c ≠ 32) → J a = J b → a = b
  | [], [], _, _, _ => rfl
  | [], u :: b, _, _, e => by simp [J] at e
  | t :: a, [], _, _, e => by simp [J] at e
  | t :: a, u :: b, ha, hb, e => by
    simp only [J, List.cons.injEq, true_and] at e
    obtain ⟨h1, h2⟩ := cut_inj (ha t (by simp)) (hb u (by simp)) (J_first a) (J_first b) e
    rw [h1, J_inj (fun x hx => ha x (by simp [hx])) (fun x hx => hb x (by simp [hx])) h2]

def tkB (b : Bool) : List (List UInt8) := if b then [[33]] else []
def agT (x : Ag) : List (List UInt8) := nl x.nm :: [58] :: [73, 110, 116] :: tkB x.need
def agsT : List Ag → List (List UInt8)
  | [] => []
  | x :: l => agT x ++ agsT l
def fdA (l : List Ag) : List (List UInt8) := if l.isEmpty then [] else [40] :: (agsT l ++ [[41]])
def tyT (f : Fd) : List (List UInt8) := (if f.ls then [[91], nl f.ty, [93]] else [nl f.ty]) ++ tkB f.bg
def fdT (f : Fd) : List (List UInt8) := nl f.nm :: (fdA f.args ++ ([58] :: tyT f))
def fdsT : List Fd → List (List UInt8)
  | [] => []
  | x :: l => fdT x ++ fdsT l
def tdT (x : Td) : List (List UInt8) := [116, 121, 112, 101] :: nl x.nm :: [123] :: (fdsT x.fs ++ [[125]])
def tdsT : List Td → List (List UInt8)
  | [] => []
  | x :: l => tdT x ++ tdsT l

def GoodF (f : Fd) : Prop := nameB f.nm = true ∧ nameB f.ty = true ∧ ∀ a ∈ f.args, nameB a.nm = true
def GoodT (x : Td) : Prop := nameB x.nm = true ∧ ∀ f ∈ x.fs, GoodF f
/-- A word that opens with a sign. -/
def Mk (t : List UInt8) : Prop := ∃ c W, t = c :: W ∧ letB c.toNat = false
theorem name_mk {s : ByteArray} (h : nameB s = true) {t : List UInt8} (ht : Mk t) : nl s ≠ t := by
  obtain ⟨c, W, e, h1, _⟩ := name_open h
  obtain ⟨d, V, rfl, h2⟩ := ht
  rw [e]
  intro h3
  simp only [List.cons.injEq] at h3
  rw [h3.1, h2] at h1; cases h1
theorem mk_of (c : UInt8) (h : letB c.toNat = false) : Mk [c] := ⟨c, [], rfl, h⟩
theorem k33 : Mk [33] := mk_of _ (by decide)
theorem k40 : Mk [40] := mk_of _ (by decide)
theorem k41 : Mk [41] := mk_of _ (by decide)
theorem k58 : Mk [58] := mk_of _ (by decide)
theorem k91 : Mk [91] := mk_of _ (by decide)
theorem k125 : Mk [125] := mk_of _ (by decide)
theorem tkB_inj {b b' : Bool} {R R' : List (List UInt8)} (h : ∀ x, R ≠ [33] :: x) (h' : ∀ x, R' ≠ [33] :: x) (e : tkB b ++ R = tkB b' ++ R') : b = b' ∧ R = R' := by
  cases b <;> cases b' <;> simp only [tkB, Bool.false_eq_true, if_false, if_true, List.nil_append, List.cons_append, List.cons.injEq, true_and] at e
  · exact ⟨rfl, e⟩
  · exact absurd e (h _)
  · exact absurd e.symm (h' _)
  · exact ⟨rfl, e⟩
theorem agsT_first {l : List Ag} (hl : ∀ a ∈ l, nameB a.nm = true) (R : List (List UInt8)) : ∀ x, agsT l ++ [41] :: R ≠ [33] :: x := by
  intro x e
  cases l with
  | nil => simp [agsT] at e
  | cons y l =>
    simp only [agsT, agT, List.cons_append, List.cons.injEq] at e
    exact name_mk (hl y (by simp)) k33 e.1
theorem ags_inj : ∀ {l l' : List Ag} {R R' : List (List UInt8)}, (∀ a ∈ l, nameB a.nm = true) → (∀ a ∈ l', nameB a.nm = true) → agsT l ++ [41] :: R = agsT l' ++ [41] :: R' → l = l' ∧ R = R'
  | [], [], R, R', _, _, e => ⟨rfl, by simpa [agsT] using e⟩
  | [], y :: l', R, R', _, h', e => by
    simp only [agsT, agT, List.nil_append, List.cons_append, List.cons.injEq] at e
    exact absurd e.1.symm (name_mk (h' y (by simp)) k41)
  | x :: l, [], R, R', h, _, e => by
    simp only [agsT, agT, List.nil_append, List.cons_append, List.cons.injEq] at e
    exact absurd e.1 (name_mk (h x (by simp)) k41)
  | x :: l, y :: l', R, R', h, h', e => by
    simp only [agsT, agT, List.cons_append, List.append_assoc, List.cons.injEq, true_and] at e
    have hl : ∀ a ∈ l, nameB a.nm = true := fun a ha => h a (by simp [ha])
    have hl' : ∀ a ∈ l', nameB a.nm = true := fun a ha => h' a (by simp [ha])
    obtain ⟨h1, h2⟩ := tkB_inj (agsT_first hl R) (agsT_first hl' R') e.2
    obtain ⟨h3, h4⟩ := ags_inj hl hl' h2
    refine ⟨?_, h4⟩
    have h5 := nl_inj e.1
    cases x; cases y
    simp only at h5 h1
    rw [h5, h1, h3]
theorem fdA_inj {l l' : List Ag} {R R' : List (List UInt8)} (h : ∀ a ∈ l, nameB a.nm = true) (h' : ∀ a ∈ l', nameB a.nm = true) (e : fdA l ++ [58] :: R = fdA l' ++ [58] :: R') : l = l' ∧ R = R' := by
  cases l with
  | nil =>
    cases l' with
    | nil => exact ⟨rfl, by simpa [fdA] using e⟩
    | cons y l' => simp [fdA] at e
  | cons x l =>
    cases l' with
    | nil => simp [fdA] at e
    | cons y l' =>
      simp only [fdA, List.isEmpty_cons, Bool.false_eq_true, if_false, List.cons_append, List.append_assoc, List.cons.injEq, true_and, List.nil_append] at e
      obtain ⟨h1, h2⟩ := ags_inj h h' e
      simp only [List.cons.injEq, true_and] at h2
      exact ⟨h1, h2⟩
theorem tyT_inj {f g : Fd} {R R' : List (List UInt8)} (hf : nameB f.ty = true) (hg : nameB g.ty = true) (h : ∀ x, R ≠ [33] :: x) (h' : ∀ x, R' ≠ [33] :: x) (e : tyT f ++ R = tyT g ++ R') : f.ty = g.ty ∧ f.ls = g.ls ∧ f.bg = g.bg ∧ R = R' := by
  unfold tyT at e
  cases h1 : f.ls <;> cases h2 : g.ls <;> simp only [h1, h2, Bool.false_eq_true, if_false, if_true, List.cons_append, List.nil_append, List.cons.injEq, true_and] at e
  · obtain ⟨h3, h4⟩ := tkB_inj h h' e.2
    exact ⟨nl_inj e.1, rfl, h3, h4⟩
  · exact absurd e.1 (name_mk hf k91)
  · exact absurd e.1.symm (name_mk hg k91)
  · obtain ⟨h3, h4⟩ := tkB_inj h h' e.2
    exact ⟨nl_inj e.1, rfl, h3, h4⟩
theorem fdsT_first {l : List Fd} (hl : ∀ f ∈ l, GoodF f) (R : List (List UInt8)) : ∀ x, fdsT l ++ [125] :: R ≠ [33] :: x := by
  intro x e
  cases l with
  | nil => simp [fdsT] at e
  | cons y l =>
    simp only [fdsT, fdT, List.cons_append, List.cons.injEq] at e
    exact name_mk (hl y (by simp)).1 k33 e.1
theorem fds_inj : ∀ {l l' : List Fd} {R R' : List (List UInt8)}, (∀ f ∈ l, GoodF f) → (∀ f ∈ l', GoodF f) → fdsT l ++ [125] :: R = fdsT l' ++ [125] :: R' → l = l' ∧ R = R'
  | [], [], R, R', _, _, e => ⟨rfl, by simpa [fdsT] using e⟩
  | [], y :: l', R, R', _, h', e => by
    simp only [fdsT, fdT, List.nil_append, List.cons_append, List.cons.injEq] at e
    exact absurd e.1.symm (name_mk (h' y (by simp)).1 k125)
  | x :: l, [], R, R', h, _, e => by
    simp only [fdsT, fdT, List.nil_append, List.cons_append, List.cons.injEq] at e
    exact absurd e.1 (name_mk (h x (by simp)).1 k125)
  | x :: l, y :: l', R, R', h, h', e => by
    simp only [fdsT, fdT, List.cons_append, List.append_assoc, List.cons.injEq] at e
    have hl : ∀ f ∈ l, GoodF f := fun a ha => h a (by simp [ha])
    have hl' : ∀ f ∈ l', GoodF f := fun a ha => h' a (by simp [ha])
    have hx := h x (by simp)
    have hy := h' y (by simp)
    obtain ⟨h1, h2⟩ := fdA_inj hx.2.2 hy.2.2 e.2
    obtain ⟨h3, h4, h5, h6⟩ := tyT_inj hx.2.1 hy.2.1 (fdsT_first hl R) (fdsT_first hl' R') h2
    obtain ⟨h7, h8⟩ := fds_inj hl hl' h6
    exact ⟨by rw [Fd.eq (nl_inj e.1) h1 h3 h4 h5, h7], h8⟩
theorem tds_inj : ∀ {l l' : List Td}, (∀ x ∈ l, GoodT x) → (∀ x ∈ l', GoodT x) → tdsT l = tdsT l' → l = l'
  | [], [], _, _, _ => rfl
  | [], y :: l', _, _, e => by simp [tdsT, tdT] at e
  | x :: l, [], _, _, e => by simp [tdsT, tdT] at e
  | x :: l, y :: l', h, h', e => by
    simp only [tdsT, tdT, List.cons_append, List.append_assoc, List.cons.injEq, true_and, List.nil_append] at e
    have hx := h x (by simp)
    have hy := h' y (by simp)
    obtain ⟨h1, h2⟩ := fds_inj hx.2 hy.2 e.2
    rw [Td.eq (nl_inj e.1) h1, tds_inj (fun a ha => h a (by simp [ha])) (fun a ha => h' a (by simp [ha])) h2]

theorem name_free {s : ByteArray} (h : nameB s = true) : ∀ c ∈ nl s, c ≠ 32 := by
  obtain ⟨_, _, _, _, hw⟩ := name_open h
  intro c hc e
  have := hw c hc
  rw [e] at this
  revert this; decide
def Free (l : List (List UInt8)) : Prop := ∀ t ∈ l, ∀ c ∈ t, c ≠ 32
theorem Free.append {a b : List (List UInt8)} (h : Free a) (k : Free b) : Free (a ++ b) := fun t ht => by
  rcases List.mem_append.1 ht with ht | ht
  · exact h t ht
  · exact k t ht
theorem Free.cons {t : List UInt8} {b : List (List UInt8)} (h : ∀ c ∈ t, c ≠ 32) (k : Free b) : Free (t :: b) := fun u hu => by
  rcases List.mem_cons.1 hu with rfl | hu
  · exact h
  · exact k u hu
theorem Free.nil : Free [] := fun t ht => by simp at ht
theorem tkB_free (b : Bool) : Free (tkB b) := by cases b <;> (unfold tkB Free; simp)
theorem agsT_free : ∀ {l : List Ag}, (∀ a ∈ l, nameB a.nm = true) → Free (agsT l)
  | [], _ => Free.nil
  | x :: l, h => ((Free.cons (name_free (h x (by simp))) (Free.cons (by decide) (Free.cons (by decide) (tkB_free _))))).append (agsT_free (fun a ha => h a (by simp [ha])))
theorem fdT_free {f : Fd} (h : GoodF f) : Free (fdT f) := by
  unfold fdT
  refine Free.cons (name_free h.1) (Free.append ?_ (Free.cons (by decide) ?_))
  · unfold fdA; split
    · exact Free.nil
    · exact Free.cons (by decide) ((agsT_free h.2.2).append (Free.cons (by decide) Free.nil))
  · unfold tyT
    refine Free.append ?_ (tkB_free _)
    split
    · exact Free.cons (by decide) (Free.cons (name_free h.2.1) (Free.cons (by decide) Free.nil))
    · exact Free.cons (name_free h.2.1) Free.nil
theorem fdsT_free : ∀ {l : List Fd}, (∀ f ∈ l, GoodF f) → Free (fdsT l)
  | [], _ => Free.nil
  | x :: l, h => (fdT_free (h x (by simp))).append (fdsT_free (fun a ha => h a (by simp [ha])))
theorem tdsT_free : ∀ {l : List Td}, (∀ x ∈ l, GoodT x) → Free (tdsT l)
  | [], _ => Free.nil
  | x :: l, h => (Free.cons (by decide) (Free.cons (name_free (h x (by simp)).1) (Free.cons (by decide) ((fdsT_free (h x (by simp)).2).append (Free.cons (by decide) Free.nil))))).append (tdsT_free (fun a ha => h a (by simp [ha])))
theorem name_in {s : ByteArray} (h : isIn s = true) : nameB s = true := by
  have e : s = bIn := by
    unfold isIn at h
    rw [beq_iff_eq, ByteArray.toList_eq] at h
    exact bytes_inj h
  rw [e]; decide +kernel
theorem okN_mem {ns : List ByteArray} (h : OkN ns) {s : ByteArray} (hs : s ∈ ns) : nameB s = true := by
  obtain ⟨j, hj, rfl⟩ := List.getElem_of_mem hs
  exact (h j hj).1
theorem seen_name {ns : List ByteArray} (h : OkN ns) {s : ByteArray} (hs : seen ns s = true) : nameB s = true := by
  unfold seen at hs
  rw [List.any_eq_true] at hs
  obtain ⟨t, ht, e⟩ := hs
  rw [← str_eq e]
  exact okN_mem h ht
theorem SchOK.good {l : List Td} (h : SchOK l) : ∀ x ∈ l, GoodT x := by
  intro x hx
  obtain ⟨_, _, _, _, hn, ht⟩ := h
  refine ⟨okN_mem hn (List.mem_map_of_mem hx), fun f hf => ?_⟩
  obtain ⟨_, _, h3, _, h5⟩ := ht x hx
  obtain ⟨q1, _, q3⟩ := h5 f hf
  refine ⟨okN_mem h3 (List.mem_map_of_mem hf), ?_, fun a ha => okN_mem q3 (List.mem_map_of_mem ha)⟩
  rcases q1 with q1 | q1
  · exact name_in q1
  · exact seen_name hn q1
theorem sch_inj {l l' : List Td} (h : SchOK l) (h' : SchOK l') (e : J (tdsT l) = J (tdsT l')) : l = l' :=
  tds_inj h.good h'.good (J_inj (tdsT_free h.good) (tdsT_free h'.good) e)
end Go.Proofs.Ytbhkcgmlkahodaj.G
