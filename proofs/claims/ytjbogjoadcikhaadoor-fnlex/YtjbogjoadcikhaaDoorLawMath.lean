/- What the law FnLex needs to know of texts. -/
import Derived.Test.YtjbogjoadcikhaaDoorJoinImpl
import Derived.Test.YtjbogjoadcikhaaDoorLexBack
import Derived.Test.YtjbogjoadcikhaaDoorSrcToks
namespace Go.Proofs.YtjbogjoadcikhaaDoor
set_option linter.unusedVariables false
open L (Drawn)

theorem text_S (x : Tk) : textS x.k x.n x.t = S (txt x) := by
  unfold textS txt
  split
  · rfl
  · split
    · apply ByteArray.ext; simp [S]
    · exact (S_of _).symm
theorem txt_len (x : Tk) (h : isTok x) (hs : x.t.size ≤ 5) : (txt x).length ≤ 11 := by
  have hz : x.t.data.toList.length ≤ 5 := by rw [Array.length_toList]; exact hs
  unfold txt
  split
  · rename_i hk
    have hi := tok_int h
    unfold Lib.itoa
    split
    · have := digits_len10 x.n.natAbs (by omega); simp; omega
    · have := digits_len10 x.n.toNat (by omega); omega
  · split
    · simp at hz ⊢; omega
    · omega
def pairs : List Tk → List (Tk × List UInt8)
  | [] => []
  | [x] => [(x, [])]
  | x :: y :: r => (x, [32]) :: pairs (y :: r)
theorem pairs_fst : ∀ l, (pairs l).map (·.1) = l
  | [] => rfl
  | [x] => rfl
  | x :: y :: r => by rw [pairs, List.map_cons, pairs_fst (y :: r)]
theorem pairs_len (l : List Tk) : (pairs l).length = l.length := by rw [← List.length_map (f := (·.1)), pairs_fst]
theorem ends_of {c : UInt8} (h : wdB c.toNat = false) (B : List UInt8) : Ends (c :: B) := by
  intro d r e
  simp only [List.cons.injEq] at e
  rw [← e.1]; exact h
theorem gap32 : Gap [32] := gap_blank (by decide) gap_nil
theorem pairs_fits : ∀ l, (∀ x ∈ l, isTok x) → Fits (pairs l) []
  | [], _ => trivial
  | [x], h => ⟨h x List.mem_cons_self, gap_nil, (fun c r e => by cases e), trivial⟩
  | x :: y :: r, h => ⟨h x List.mem_cons_self, gap32, ends_of (by decide) _, pairs_fits (y :: r) (fun z hz => h z (List.mem_cons_of_mem _ hz))⟩
theorem join_lay : ∀ l, Lib.join (l.map txt) [32] = lay (pairs l) []
  | [] => rfl
  | [x] => by simp [Lib.join, pairs, lay]
  | x :: y :: r => by
    have ih := join_lay (y :: r)
    rw [pairs, lay, ← ih]
    simp [Lib.join]
theorem join_bad : ∀ l, l ≠ [] → Lib.join (l.map txt) [32] ++ [32, 37] = lay (l.map fun x => (x, [32])) [37]
  | [], h => absurd rfl h
  | [x], _ => by simp [Lib.join, lay]
  | x :: y :: r, _ => by
    have ih := join_bad (y :: r) (by simp)
    show _ = txt x ++ ([32] ++ lay ((y :: r).map fun x => (x, [32])) [37])
    rw [← ih]
    simp [Lib.join]
theorem bad_fits : ∀ (l : List Tk) B, (∀ x ∈ l, isTok x) → Fits (l.map fun x => (x, [32])) B
  | [], _, _ => trivial
  | x :: r, B, h => ⟨h x List.mem_cons_self, gap32, ends_of (by decide) _, bad_fits r B (fun z hz => h z (List.mem_cons_of_mem _ hz))⟩
theorem allT_drawn {l : List Tk} (h : Drawn l) : allT l = true := List.all_eq_true.2 fun x hx => (h.2 x hx).1
theorem joinB_S {l : List Tk} (h : Drawn l) : joinB l = S (lay (pairs l) []) := by
  have h1 := h.1
  unfold joinB
  rw [if_neg (by omega), if_neg (by omega), if_pos (allT_drawn h), joinS_list, ← join_lay]
  unfold S
  congr 3
  rw [List.map_map]
  apply List.map_congr_left
  intro x _
  show (textOf x).data.toList = txt x
  unfold textOf
  rw [text_S]; rfl
theorem joinC_0 {l : List Tk} (h : Drawn l) : joinC l = 0 := by
  have h1 := h.1
  unfold joinC
  rw [if_neg (by omega), if_neg (by omega), if_pos (allT_drawn h)]
theorem lay_len (xs : List (Tk × List UInt8)) : ∀ B, (∀ p ∈ xs, (txt p.1).length ≤ 11 ∧ p.2.length ≤ 7) → (lay xs B).length ≤ xs.length * 18 + B.length := by
  induction xs with
  | nil => intro B _; simp [lay]
  | cons p r ih =>
    intro B h
    obtain ⟨x, g⟩ := p
    have h1 := h (x, g) List.mem_cons_self
    have h2 := ih B (fun q hq => h q (List.mem_cons_of_mem _ hq))
    simp only [lay, List.length_append, List.length_cons] at *
    omega
theorem pairs_gap : ∀ (l : List Tk) p, p ∈ pairs l → p.1 ∈ l ∧ p.2.length ≤ 7
  | [], p, h => by cases h
  | [x], p, h => by simp only [pairs, List.mem_singleton] at h; subst h; simp
  | x :: y :: r, p, h => by
    rw [pairs, List.mem_cons] at h
    rcases h with rfl | h
    · simp
    · have := pairs_gap (y :: r) p h
      exact ⟨List.mem_cons_of_mem _ this.1, this.2⟩
theorem join_size {l : List Tk} (h : Drawn l) : (lay (pairs l) []).length ≤ 198 := by
  have := lay_len (pairs l) [] (fun p hp => ⟨txt_len _ (h.2 _ (pairs_gap l p hp).1).1 (h.2 _ (pairs_gap l p hp).1).2, (pairs_gap l p hp).2⟩)
  rw [pairs_len] at this
  have h1 := h.1
  simp at this
  omega
theorem lex_join {l : List Tk} (h : Drawn l) : lexB (joinB l) = (l, 0) := by
  have := lex_back [] (pairs l) gap_nil (pairs_fits l fun x hx => (h.2 x hx).1) (by rw [pairs_len]; have := h.1; omega) (by have := join_size h; simp; omega)
  rw [joinB_S h]
  rw [pairs_fst] at this
  exact this
theorem lex_pct {l : List Tk} (h : Drawn l) : lexB (joinB l ++ ⟨#[32, 37]⟩) = ([], 3) := by
  have hz := join_size h
  have e : joinB l ++ ⟨#[32, 37]⟩ = S (lay (pairs l) [] ++ [32, 37]) := by
    rw [joinB_S h]; apply ByteArray.ext; simp [S]
  rw [e]
  rw [← join_lay] at hz ⊢
  cases l with
  | nil => exact lex_bad [] [32] gap32 trivial (by simp) (by simp [lay])
  | cons x r =>
    rw [join_bad (x :: r) (by simp)]
    have hlen : (lay ((x :: r).map fun y => (y, [32])) [37]).length ≤ 65536 := by
      rw [← join_bad (x :: r) (by simp)]; simp at hz ⊢; omega
    exact lex_bad _ [] gap_nil (bad_fits _ _ fun y hy => (h.2 y hy).1) (by simp; have := h.1; simp at this; omega) (by simpa using hlen)

/-- What the law puts between. -/
def gaps : List (List UInt8) := [[32], [44], [10], [32, 44, 32, 35, 32, 120, 10]]
def begin : List UInt8 := [32, 35, 32, 98, 101, 103, 105, 110, 10]
theorem begin_gap : Gap begin :=
  gap_blank (by decide) (gap_hash (rem_more (by decide) (rem_more (by decide) (rem_more (by decide) (rem_more (by decide) (rem_more (by decide) (rem_more (by decide) (rem_end gap_nil))))))))
theorem gaps_ok : ∀ g ∈ gaps, Gap g ∧ (∀ B, Ends (g ++ B)) ∧ g.length ≤ 7 := by
  intro g hg
  simp only [gaps, List.mem_cons, List.not_mem_nil, or_false] at hg
  rcases hg with rfl | rfl | rfl | rfl
  · exact ⟨gap32, fun B => ends_of (by decide) _, by decide⟩
  · exact ⟨gap_blank (by decide) gap_nil, fun B => ends_of (by decide) _, by decide⟩
  · exact ⟨gap_blank (by decide) gap_nil, fun B => ends_of (by decide) _, by decide⟩
  · exact ⟨gap_blank (by decide) (gap_blank (by decide) (gap_blank (by decide) (gap_hash (rem_more (by decide) (rem_more (by decide) (rem_end gap_nil)))))), fun B => ends_of (by decide) _, by decide⟩
/-- A text so far: some tokens, each with a gap behind it. -/
def Wide (l : List Tk) (k : Nat) (t : ByteArray) : Prop := ∃ ps : List (Tk × List UInt8), ps.map (·.1) = l.take k ∧ (∀ p ∈ ps, p.2 ∈ gaps) ∧ t = S (begin ++ lay ps [])
theorem lay_snoc (x : Tk) (g : List UInt8) : ∀ ps, lay (ps ++ [(x, g)]) [] = lay ps [] ++ (txt x ++ g)
  | [] => by simp [lay]
  | (y, h) :: r => by simp [lay, lay_snoc x g r]
theorem Wide.zero (l : List Tk) : Wide l 0 ⟨#[32, 35, 32, 98, 101, 103, 105, 110, 10]⟩ := ⟨[], by simp, (fun p hp => by cases hp), rfl⟩
theorem Wide.put {l : List Tk} {k : Nat} {t : ByteArray} (h : Wide l k t) (hk : k < l.length) (g : List UInt8) (hg : g ∈ gaps) : Wide l (k + 1) (t ++ (textS l[k].k l[k].n l[k].t ++ S g)) := by
  obtain ⟨ps, h1, h2, rfl⟩ := h
  refine ⟨ps ++ [(l[k], g)], ?_, ?_, ?_⟩
  · rw [List.map_append, h1, List.take_succ_eq_append_getElem hk]; rfl
  · intro p hp
    rcases List.mem_append.1 hp with hp | hp
    · exact h2 p hp
    · simp only [List.mem_singleton] at hp; subst hp; exact hg
  · rw [lay_snoc, text_S]; apply ByteArray.ext; simp [S]
theorem Wide.size {l : List Tk} {k : Nat} {t : ByteArray} (h : Wide l k t) (hd : Drawn l) : t.size ≤ 300 := by
  obtain ⟨ps, h1, h2, rfl⟩ := h
  have hm : ∀ p ∈ ps, p.1 ∈ l := fun p hp => List.mem_of_mem_take (h1 ▸ List.mem_map_of_mem hp)
  have hl := lay_len ps [] (fun p hp => ⟨txt_len _ (hd.2 _ (hm p hp)).1 (hd.2 _ (hm p hp)).2, (gaps_ok _ (h2 p hp)).2.2⟩)
  have hlen : ps.length ≤ 11 := by
    have := congrArg List.length h1
    rw [List.length_map, List.length_take] at this
    have := hd.1
    omega
  rw [S_size, List.length_append]
  simp [begin] at hl ⊢
  omega
theorem wide_fits : ∀ (ps : List (Tk × List UInt8)), (∀ p ∈ ps, isTok p.1 ∧ p.2 ∈ gaps) → Fits ps []
  | [], _ => trivial
  | (x, g) :: r, h => ⟨(h _ List.mem_cons_self).1, (gaps_ok g (h _ List.mem_cons_self).2).1, (gaps_ok g (h _ List.mem_cons_self).2).2.1 _, wide_fits r (fun p hp => h p (List.mem_cons_of_mem _ hp))⟩
theorem Wide.lex {l : List Tk} {t : ByteArray} (h : Wide l l.length t) (hd : Drawn l) : lexB t = (l, 0) := by
  have hs := h.size hd
  obtain ⟨ps, h1, h2, rfl⟩ := h
  rw [List.take_length] at h1
  have hm : ∀ p ∈ ps, p.1 ∈ l := fun p hp => h1 ▸ List.mem_map_of_mem hp
  have := lex_back begin ps begin_gap (wide_fits ps fun p hp => ⟨(hd.2 _ (hm p hp)).1, h2 p hp⟩) (by have := congrArg List.length h1; rw [List.length_map] at this; have := hd.1; omega) (by rw [S_size] at hs; omega)
  rw [this, h1]
end Go.Proofs.YtjbogjoadcikhaaDoor
