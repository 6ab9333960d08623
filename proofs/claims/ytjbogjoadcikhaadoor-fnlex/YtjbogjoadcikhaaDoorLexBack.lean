/- Tokens are read back from their texts, whatever blanks, commas and remarks stand between: in plain terms. -/
import Derived.Test.YtjbogjoadcikhaaDoorLexMath
namespace Go.Proofs.YtjbogjoadcikhaaDoor
set_option linter.unusedVariables false

def S (L : List UInt8) : ByteArray := ⟨L.toArray⟩
theorem S_size (L : List UInt8) : (S L).size = L.length := by simp [S, ByteArray.size]
theorem S_of (t : ByteArray) : S t.data.toList = t := by simp [S]
theorem bt_S {A B : List UInt8} {c : UInt8} : bt (S (A ++ c :: B)) A.length = (c.toNat : Int) := by
  have h : A.length < (S (A ++ c :: B)).size := by rw [S_size]; simp
  rw [bt_lt h]
  have e : (S (A ++ c :: B))[A.length] = (A ++ c :: B)[A.length]'(by simp) := rfl
  rw [e]; simp
theorem ext_S (A W B : List UInt8) : (S (A ++ (W ++ B))).extract A.length (A.length + W.length) = S W := by
  apply ByteArray.ext
  simp [S, ByteArray.data_extract]

/-- What the reader passes over. -/
def Gap (g : List UInt8) : Prop := ∀ A B, pb (S (A ++ (g ++ B))) A.length false = pb (S (A ++ (g ++ B))) (A.length + g.length) false
def Rem (g : List UInt8) : Prop := ∀ A B, pb (S (A ++ (g ++ B))) A.length true = pb (S (A ++ (g ++ B))) (A.length + g.length) false
theorem lt_S (A B : List UInt8) (c : UInt8) : A.length < (S (A ++ c :: B)).size := by rw [S_size]; simp
theorem gap_nil : Gap [] := fun A B => rfl
theorem gap_blank {c : UInt8} {g : List UInt8} (hc : blB c.toNat = true) (h : Gap g) : Gap (c :: g) := by
  intro A B
  have h1 := h (A ++ [c]) B
  have hn : (c.toNat : Int) ≠ 35 := by intro e; rw [e] at hc; revert hc; decide
  simp only [List.append_assoc, List.cons_append, List.nil_append, List.length_append, List.length_cons, List.length_nil] at h1 ⊢
  rw [pb_blank (lt_S A (g ++ B) c) (by rw [bt_S]; exact hn) (by rw [bt_S]; exact hc), h1]
  congr 1; omega
theorem gap_hash {g : List UInt8} (h : Rem g) : Gap (35 :: g) := by
  intro A B
  have h1 := h (A ++ [35]) B
  simp only [List.append_assoc, List.cons_append, List.nil_append, List.length_append, List.length_cons, List.length_nil] at h1 ⊢
  rw [pb_hash (lt_S A (g ++ B) 35) (by rw [bt_S]; rfl), h1]
  congr 1; omega
theorem rem_more {c : UInt8} {g : List UInt8} (hc : (c.toNat : Int) ≠ 10) (h : Rem g) : Rem (c :: g) := by
  intro A B
  have h1 := h (A ++ [c]) B
  simp only [List.append_assoc, List.cons_append, List.nil_append, List.length_append, List.length_cons, List.length_nil] at h1 ⊢
  rw [pb_rem (lt_S A (g ++ B) c), bt_S, decide_eq_true hc, h1]
  congr 1; omega
theorem rem_end {g : List UInt8} (h : Gap g) : Rem (10 :: g) := by
  intro A B
  have h1 := h (A ++ [10]) B
  simp only [List.append_assoc, List.cons_append, List.nil_append, List.length_append, List.length_cons, List.length_nil] at h1 ⊢
  rw [pb_rem (lt_S A (g ++ B) 10), bt_S, show decide (((10 : UInt8).toNat : Int) ≠ 10) = false from rfl, h1]
  congr 1; omega

/-- A word's end. -/
def Ends (B : List UInt8) : Prop := ∀ c r, B = c :: r → wdB c.toNat = false
theorem we_S : ∀ (W A B : List UInt8), (∀ c ∈ W, wdB c.toNat = true) → Ends B → we (S (A ++ (W ++ B))) A.length = A.length + W.length
  | [], A, [], _, _ => by rw [we_end (by rw [S_size]; simp)]; rfl
  | [], A, c :: r, _, h => by
    rw [List.nil_append, we_stop (lt_S A r c) (by rw [bt_S]; exact h c r rfl)]; rfl
  | c :: W, A, B, hW, hB => by
    have h1 := we_S W (A ++ [c]) B (fun x hx => hW x (List.mem_cons_of_mem _ hx)) hB
    simp only [List.append_assoc, List.cons_append, List.nil_append, List.length_append, List.length_cons, List.length_nil] at h1 ⊢
    rw [we_step (lt_S A (W ++ B) c) (by rw [bt_S]; exact hW c List.mem_cons_self), h1]
    omega

theorem tail_wd (s : ByteArray) : ∀ (f k i : Nat), tailB s f k = true → k ≤ i → i < k + f → wdB (bt s i) = true
  | 0, k, i, _, _, _ => by omega
  | f + 1, k, i, h, h1, h2 => by
    rw [tailB, Bool.and_eq_true] at h
    by_cases e : i = k
    · subst e; exact h.1
    · exact tail_wd s f (k + 1) i h.2 (by omega) (by omega)
theorem name_open {t : ByteArray} (h : nameB t = true) : ∃ c W, t.data.toList = c :: W ∧ letB c.toNat = true ∧ ∀ x ∈ c :: W, wdB x.toNat = true := by
  simp only [nameB, Bool.and_eq_true, decide_eq_true_eq] at h
  obtain ⟨⟨⟨h1, _⟩, h3⟩, h4⟩ := h
  have hs : t.size = t.data.toList.length := by rw [Array.length_toList]; rfl
  have hb : ∀ i (hi : i < t.data.toList.length), bt t i = ((t.data.toList[i]).toNat : Int) := by
    intro i hi
    rw [bt_lt (by omega)]
    rfl
  cases hl : t.data.toList with
  | nil => rw [hl, List.length_nil] at hs; omega
  | cons c W =>
    have h0 := hb 0 (by rw [hl]; simp)
    simp only [hl, List.getElem_cons_zero] at h0
    rw [h0] at h3
    refine ⟨c, W, rfl, h3, fun x hx => ?_⟩
    rw [← hl] at hx
    obtain ⟨i, hi, rfl⟩ := List.getElem_of_mem hx
    rw [← hb i hi]
    by_cases e : i = 0
    · subst e; rw [h0]; unfold wdB; rw [h3]; rfl
    · exact tail_wd t _ 1 i h4 (by omega) (by omega)

/-- A token's text. -/
def txt (x : Tk) : List UInt8 := if x.k = 2 then Lib.itoa x.n else if x.k = 3 then 36 :: x.t.data.toList else x.t.data.toList
def isTok (x : Tk) : Prop := tokB x.k x.n x.t = true
theorem let_not {c : Int} (h : letB c = true) : c ≠ 36 ∧ c ≠ 35 ∧ blB c = false := by
  simp only [letB, Bool.or_eq_true, decide_eq_true_eq] at h
  refine ⟨by omega, by omega, ?_⟩
  simp only [blB, Bool.or_eq_false_iff, decide_eq_false_iff_not]
  omega
theorem itoa_open (n : Int) (h : intB n = true) : ∃ c W, Lib.itoa n = c :: W ∧ ((c.toNat : Int) = 45 ∨ digB c.toNat = true) ∧ ∀ x ∈ W, wdB x.toNat = true := by
  have hd : ∀ u : Nat, ∀ x ∈ Lib.decDigits u, digB x.toNat = true := by
    intro u x hx
    have := digits_dig u x hx
    simp only [digB, decide_eq_true_eq]; omega
  unfold Lib.itoa
  split
  · exact ⟨45, _, rfl, .inl rfl, fun x hx => by unfold wdB; rw [hd _ x hx, Bool.or_true]⟩
  · cases he : Lib.decDigits n.toNat with
    | nil => exact absurd he (digits_ne _)
    | cons c W =>
      refine ⟨c, W, rfl, .inr (hd n.toNat c (by rw [he]; exact List.mem_cons_self)), fun x hx => ?_⟩
      unfold wdB
      rw [hd n.toNat x (by rw [he]; exact List.mem_cons_of_mem _ hx), Bool.or_true]
theorem num_not {c : Int} (h : c = 45 ∨ digB c = true) : c ≠ 36 ∧ c ≠ 35 ∧ blB c = false ∧ letB c = false := by
  have h' : c = 45 ∨ (48 ≤ c ∧ c ≤ 57) := by simpa [digB] using h
  refine ⟨by omega, by omega, ?_, ?_⟩
  · simp only [blB, Bool.or_eq_false_iff, decide_eq_false_iff_not]; omega
  · simp only [letB, Bool.or_eq_false_iff, decide_eq_false_iff_not]; omega

/-- At a token's text stands the token. -/
theorem tok_S (x : Tk) (A B : List UInt8) (hx : isTok x) (hB : Ends B) :
    pb (S (A ++ (txt x ++ B))) A.length false = A.length ∧ tokAt (S (A ++ (txt x ++ B))) A.length = some (x, A.length + (txt x).length) ∧ 0 < (txt x).length := by
  obtain ⟨k, n, t⟩ := x
  unfold isTok tokB at hx
  simp only at hx
  split at hx
  · rename_i hk
    simp only [Bool.and_eq_true, beq_iff_eq] at hx
    obtain ⟨rfl, hn⟩ := hx
    obtain ⟨c, W, hl, hc, hw⟩ := name_open hn
    obtain ⟨n1, n2, n3⟩ := let_not hc
    have hSt : S (c :: W) = t := by rw [← hl]; exact S_of t
    rcases hk with rfl | rfl
    · have e : txt ⟨1, 0, t⟩ = c :: W := by unfold txt; simp [hl]
      rw [e]
      have hwe := we_S (c :: W) A B hw hB
      have hex := ext_S A (c :: W) B
      simp only [List.cons_append] at hwe hex ⊢
      refine ⟨pb_tok (lt_S _ _ _) (by rw [bt_S]; exact n2) (by rw [bt_S]; exact n3), ?_, by simp⟩
      unfold tokAt
      rw [bt_S, if_neg n1, if_pos hc, hwe, hex, hSt, if_pos hn]
    · have e : txt ⟨3, 0, t⟩ = 36 :: c :: W := by unfold txt; simp [hl]
      rw [e]
      have hwe := we_S (c :: W) (A ++ [36]) B hw hB
      have hex := ext_S (A ++ [36]) (c :: W) B
      simp only [List.append_assoc, List.cons_append, List.nil_append, List.length_append, List.length_cons, List.length_nil] at hwe hex ⊢
      refine ⟨pb_tok (lt_S _ _ _) (by rw [bt_S]; decide) (by rw [bt_S]; decide), ?_, by simp⟩
      unfold tokAt
      rw [bt_S, if_pos (by decide), show A.length + 1 = A.length + (0 + 1) from rfl, hwe, hex, hSt, if_pos hn]
      simp only [Option.some.injEq, Prod.mk.injEq, true_and]
      omega
  · split at hx
    · rename_i hk
      subst hk
      simp only [Bool.and_eq_true] at hx
      obtain ⟨hi, he⟩ := hx
      have het : t = ⟨#[]⟩ := by
        rw [ByteArray.toList_eq, List.isEmpty_iff] at he
        have := S_of t
        rw [he] at this
        exact this.symm
      subst het
      obtain ⟨c, W, hl, hc, hw⟩ := itoa_open n hi
      obtain ⟨n1, n2, n3, n4⟩ := num_not hc
      have e : txt ⟨2, n, ⟨#[]⟩⟩ = c :: W := by unfold txt; simp [hl]
      rw [e]
      have hwe := we_S W (A ++ [c]) B hw hB
      have hex := ext_S A (c :: W) B
      simp only [List.append_assoc, List.cons_append, List.nil_append, List.length_append, List.length_cons, List.length_nil] at hwe hex ⊢
      refine ⟨pb_tok (lt_S _ _ _) (by rw [bt_S]; exact n2) (by rw [bt_S]; exact n3), ?_, by simp⟩
      unfold tokAt
      rw [bt_S, if_neg n1, if_neg (by rw [n4]; decide), if_pos hc, hwe, show A.length + (0 + 1) + W.length = A.length + (W.length + 1) by omega, hex]
      rw [ByteArray.toList_eq, show (S (c :: W)).data.toList = c :: W from rfl, ← hl, numT_itoa n hi]
      rfl
    · split at hx
      · rename_i hk
        subst hk
        simp only [Bool.and_eq_true, beq_iff_eq] at hx
        obtain ⟨rfl, hp⟩ := hx
        have e : txt ⟨4, 0, t⟩ = t.data.toList := by unfold txt; simp
        rw [e]
        have hSt := S_of t
        rw [ByteArray.toList_eq] at hp
        have one : ∀ c : UInt8, t.data.toList = [c] → punctB [c] = true → (c.toNat : Int) ≠ 36 → (c.toNat : Int) ≠ 35 → blB c.toNat = false → letB c.toNat = false → ¬ ((c.toNat : Int) = 45 ∨ digB c.toNat = true) → (c.toNat : Int) ≠ 46 →
            pb (S (A ++ (t.data.toList ++ B))) A.length false = A.length ∧ tokAt (S (A ++ (t.data.toList ++ B))) A.length = some (⟨4, 0, t⟩, A.length + t.data.toList.length) ∧ 0 < t.data.toList.length := by
          intro c hc hpc m1 m2 m3 m4 m5 m6
          rw [hc] at hSt ⊢
          have hex := ext_S A [c] B
          simp only [List.cons_append, List.nil_append, List.length_cons, List.length_nil] at hex ⊢
          refine ⟨pb_tok (lt_S _ _ _) (by rw [bt_S]; exact m2) (by rw [bt_S]; exact m3), ?_, by simp⟩
          unfold tokAt
          rw [bt_S, if_neg m1, if_neg (by rw [m4]; decide), if_neg m5, if_neg m6, show A.length + 1 = A.length + (0 + 1) from rfl, hex, hSt, ByteArray.toList_eq, ← hSt, show (S [c]).data.toList = [c] from rfl, if_pos hpc]
        have hp' := hp
        simp only [punctB, Bool.or_eq_true, beq_iff_eq] at hp'
        rcases hp' with ((((((((h | h) | h) | h) | h) | h) | h) | h) | h) | h
        iterate 9 exact one _ h (by decide) (by decide) (by decide) (by decide) (by decide) (by decide) (by decide)
        rw [h] at hSt ⊢
        have hex := ext_S A [46, 46, 46] B
        simp only [List.cons_append, List.nil_append, List.length_cons, List.length_nil] at hex ⊢
        refine ⟨pb_tok (lt_S _ _ _) (by rw [bt_S]; decide) (by rw [bt_S]; decide), ?_, by simp⟩
        unfold tokAt
        rw [bt_S, if_neg (by decide), if_neg (by decide), if_neg (by decide), if_pos (by decide), if_pos]
        · rw [← hSt]; rfl
        · refine ⟨by rw [S_size]; simp, ?_⟩
          rw [show A.length + 3 = A.length + (0 + 1 + 1 + 1) from rfl, hex, ByteArray.toList_eq]; rfl
      · cases hx

/-- Tokens' texts, each with what stands behind it. -/
def lay : List (Tk × List UInt8) → List UInt8 → List UInt8
  | [], B => B
  | (x, g) :: r, B => txt x ++ (g ++ lay r B)
def Fits : List (Tk × List UInt8) → List UInt8 → Prop
  | [], B => True
  | (x, g) :: r, B => isTok x ∧ Gap g ∧ Ends (g ++ lay r B) ∧ Fits r B
theorem lex_lay : ∀ (xs : List (Tk × List UInt8)) (A B : List UInt8) (acc : List Tk), Fits xs B → acc.length + xs.length ≤ 4000 →
    ∃ C, A ++ lay xs B = C ++ B ∧ lexR (S (A ++ lay xs B)) A.length acc = lexR (S (C ++ B)) C.length (acc ++ xs.map (·.1))
  | [], A, B, acc, _, _ => ⟨A, rfl, by simp [lay]⟩
  | (x, g) :: r, A, B, acc, h, ha => by
    obtain ⟨hx, hg, he, hr⟩ := h
    simp only [List.length_cons] at ha
    obtain ⟨C, hC, hl⟩ := lex_lay r (A ++ (txt x ++ g)) B (acc ++ [x]) hr (by rw [List.length_append]; simp; omega)
    obtain ⟨h1, h2, h3⟩ := tok_S x A (g ++ lay r B) hx he
    have hgap := hg (A ++ txt x) (lay r B)
    have e : A ++ lay ((x, g) :: r) B = A ++ (txt x ++ (g ++ lay r B)) := rfl
    have e2 : A ++ (txt x ++ g) ++ lay r B = A ++ (txt x ++ (g ++ lay r B)) := by simp
    have e3 : A ++ txt x ++ (g ++ lay r B) = A ++ (txt x ++ (g ++ lay r B)) := by simp
    rw [e2] at hC hl
    rw [e3] at hgap
    rw [e]
    refine ⟨C, hC, ?_⟩
    have hs : (S (A ++ (txt x ++ (g ++ lay r B)))).size = A.length + ((txt x).length + (g.length + (lay r B).length)) := by rw [S_size]; simp
    rw [lexR_some (by omega) acc (by rw [h1]; omega) (t := x) (e := A.length + (txt x).length) (by rw [h1]; exact h2) (by omega)]
    rw [List.length_append] at hgap
    rw [lexR_skip (j := A.length + (txt x).length + g.length) (by omega) (by omega) hgap]
    have hl' : (A ++ (txt x ++ g)).length = A.length + (txt x).length + g.length := by simp; omega
    rw [hl'] at hl
    rw [hl]
    simp
theorem lex_back (pre : List UInt8) (xs : List (Tk × List UInt8)) (hp : Gap pre) (h : Fits xs []) (hn : xs.length ≤ 4000) (hs : (pre ++ lay xs []).length ≤ 65536) :
    lexB (S (pre ++ lay xs [])) = (xs.map (·.1), 0) := by
  unfold lexB
  rw [if_neg (by rw [S_size]; omega)]
  have h0 := hp [] (lay xs [])
  simp only [List.nil_append, List.length_nil] at h0
  rw [lexR_skip (j := 0 + pre.length) (Nat.zero_le _) (by rw [S_size]; simp) h0, Nat.zero_add]
  obtain ⟨C, hC, hl⟩ := lex_lay xs pre [] [] h (by simp; omega)
  rw [hl, lexR_done (by rw [S_size]; simp)]
  · rfl
  · rw [pb_end (by rw [S_size]; simp)]; omega
theorem lex_bad (xs : List (Tk × List UInt8)) (pre : List UInt8) (hp : Gap pre) (h : Fits xs [37]) (hn : xs.length ≤ 4000) (hs : (pre ++ lay xs [37]).length ≤ 65536) :
    lexB (S (pre ++ lay xs [37])) = ([], 3) := by
  unfold lexB
  rw [if_neg (by rw [S_size]; omega)]
  have h0 := hp [] (lay xs [37])
  simp only [List.nil_append, List.length_nil] at h0
  rw [lexR_skip (j := 0 + pre.length) (Nat.zero_le _) (by rw [S_size]; simp) h0, Nat.zero_add]
  obtain ⟨C, hC, hl⟩ := lex_lay xs pre [37] [] h (by simp; omega)
  have hpb : pb (S (C ++ [37])) C.length false = C.length := pb_tok (lt_S _ _ _) (by rw [bt_S]; decide) (by rw [bt_S]; decide)
  rw [hl, lexR_none (by rw [S_size]; simp)]
  · rw [hpb, S_size]; simp
  · rw [hpb]
    have hex := ext_S C [37] []
    simp only [List.append_nil, List.length_cons, List.length_nil] at hex
    unfold tokAt
    rw [bt_S, if_neg (by decide), if_neg (by decide), if_neg (by decide), if_neg (by decide), show C.length + 1 = C.length + (0 + 1) from rfl, hex, if_neg (by rw [ByteArray.toList_eq]; decide)]
end Go.Proofs.YtjbogjoadcikhaaDoor
