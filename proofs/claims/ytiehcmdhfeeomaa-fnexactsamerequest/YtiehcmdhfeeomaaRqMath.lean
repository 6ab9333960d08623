/- The text of a request in plain terms: no two right requests have one text. -/
import Derived.Test.YtiehcmdhfeeomaaDocPrintTwo
import Derived.Test.YtiehcmdhfeeomaaBnOK
namespace Go.Proofs.Ytiehcmdhfeeomaa
open Go.ChangeShapes Go.WideShapes Go.ChangeAt Go.RowKit
set_option linter.unusedVariables false

def bnP (x : Ar) : List UInt8 := nl x.nm ++ 61 :: (valP x.v ++ [32])
def bnsP : List Ar → List UInt8
  | [] => []
  | x :: l => bnP x ++ bnsP l
def reqP (l : List De) (v : List Ar) : List UInt8 := if v = [] then docP l else bnsP v ++ 124 :: 32 :: docP l
theorem bnsP_snoc : ∀ (l : List Ar) (x : Ar), bnsP (l ++ [x]) = bnsP l ++ bnP x
  | [], x => by simp [bnsP]
  | y :: l, x => by simp [bnsP, bnsP_snoc l x]
theorem bnsP_take {l : List Ar} {k : Nat} (hk : k < l.length) : bnsP (l.take (k + 1)) = bnsP (l.take k) ++ bnP l[k] := by
  rw [List.take_succ_eq_append_getElem hk, bnsP_snoc]
theorem bind_all {v : List Ar} (h : bindB v = true) : v.length ≤ 8 ∧ ∀ x ∈ v, valB x.v = true ∧ nameB x.nm = true := by
  unfold bindB at h
  rw [Bool.and_eq_true, Bool.and_eq_true, decide_eq_true_eq, decide_eq_true_eq, List.all_eq_true] at h
  refine ⟨h.1.1, fun x hx => ⟨?_, ?_⟩⟩
  · have := h.1.2 x hx
    unfold bnB at this
    rw [Bool.and_eq_true] at this
    exact this.1
  · obtain ⟨j, hj, e⟩ := List.getElem_of_mem hx
    have := (h.2 j (by simpa using hj)).1
    simpa [e] using this
theorem bnP_len {x : Ar} (h : valB x.v = true ∧ nameB x.nm = true) : (bnP x).length ≤ 83 := by
  have h1 := valP_len h.1
  have h2 := name_len h.2
  unfold bnP
  simp only [List.length_append, List.length_cons, List.length_nil, nl_len]
  omega
theorem bnsP_len : ∀ {v : List Ar}, (∀ x ∈ v, valB x.v = true ∧ nameB x.nm = true) → (bnsP v).length ≤ 83 * v.length
  | [], _ => by simp [bnsP]
  | x :: l, h => by
    have h1 := bnP_len (h x (List.mem_cons_self ..))
    have h2 := bnsP_len (v := l) (fun y hy => h y (List.mem_cons_of_mem _ hy))
    simp only [bnsP, List.length_append, List.length_cons]
    omega
theorem bnP_ne (x : Ar) : bnP x ≠ [] := by unfold bnP; simp
theorem wd_61 : wd 61 = false := by decide
theorem wd_32 : wd 32 = false := by decide
theorem vl_32 : vl 32 = false := by decide
theorem bns_inj : ∀ {v v' : List Ar} {r r' : List UInt8}, (∀ x ∈ v, valB x.v = true ∧ nameB x.nm = true) → (∀ x ∈ v', valB x.v = true ∧ nameB x.nm = true) → bnsP v ++ 124 :: r = bnsP v' ++ 124 :: r' → v = v' ∧ r = r'
  | [], [], r, r', _, _, e => by simpa [bnsP] using e
  | [], y :: l', r, r', _, h', e => by
    obtain ⟨c, W, hc, hl, _⟩ := name_open (h' y (List.mem_cons_self ..)).2
    simp only [bnsP, bnP, hc, List.nil_append, List.cons_append, List.append_assoc, List.cons.injEq] at e
    rw [← e.1] at hl
    exact absurd hl (by decide)
  | x :: l, [], r, r', h, _, e => by
    obtain ⟨c, W, hc, hl, _⟩ := name_open (h x (List.mem_cons_self ..)).2
    simp only [bnsP, bnP, hc, List.nil_append, List.cons_append, List.append_assoc, List.cons.injEq] at e
    rw [e.1] at hl
    exact absurd hl (by decide)
  | x :: l, y :: l', r, r', h, h', e => by
    have hx := h x (List.mem_cons_self ..)
    have hy := h' y (List.mem_cons_self ..)
    simp only [bnsP, bnP, List.append_assoc, List.cons_append, List.nil_append] at e
    obtain ⟨e1, e2⟩ := name_inj hx.2 hy.2 (stops_cons wd_61) (stops_cons wd_61) e
    rw [List.cons.injEq] at e2
    obtain ⟨e3, e4⟩ := val_inj hx.1 hy.1 (stops_cons vl_32) (stops_cons vl_32) e2.2
    rw [List.cons.injEq] at e4
    obtain ⟨e5, e6⟩ := bns_inj (fun z hz => h z (List.mem_cons_of_mem _ hz)) (fun z hz => h' z (List.mem_cons_of_mem _ hz)) e4.2
    refine ⟨?_, e6⟩
    rw [e5]
    congr 1
    cases x; cases y
    simp only at e1 e3
    rw [e1, e3]
theorem kind_wd (k : Int) : ∀ c ∈ kindP k, wd c = true := by
  unfold kindP
  split
  · decide
  · split
    · decide
    · decide
/-- A document's text begins with a word and a blank. -/
theorem doc_first {l : List De} (h : docB l = true) : ∃ W t, docP l = W ++ 32 :: t ∧ ∀ c ∈ W, wd c = true := by
  have h1 : l ≠ [] := by
    intro e
    rw [e] at h
    revert h; decide
  cases l with
  | nil => exact absurd rfl h1
  | cons x l =>
    have hd : docP (x :: l) = defP x ++ docT l := by simp [docP]
    rw [hd, defP_parts]
    have hn : ∃ t, (nmP x ++ (onP x ++ 32 :: 123 :: selsP x.sels)) ++ docT l = 32 :: t := by
      unfold nmP onP
      split
      · split
        · exact ⟨_, rfl⟩
        · exact ⟨_, rfl⟩
      · exact ⟨_, rfl⟩
    obtain ⟨t, ht⟩ := hn
    exact ⟨kindP x.k, t, by rw [List.append_assoc, ht], kind_wd _⟩
theorem req_mixed {l l' : List De} {y : Ar} {v' : List Ar} (h : docB l = true) (hy : nameB y.nm = true) : docP l ≠ bnsP (y :: v') ++ 124 :: 32 :: docP l' := by
  intro e
  obtain ⟨W, t, e1, hW⟩ := doc_first h
  obtain ⟨c, W2, hc, hl, hall⟩ := name_open hy
  rw [e1] at e
  simp only [bnsP, bnP, List.append_assoc, List.cons_append, List.nil_append] at e
  obtain ⟨_, e3⟩ := span_inj hW hall (stops_cons wd_32) (stops_cons wd_61) e
  rw [List.cons.injEq] at e3
  exact absurd e3.1 (by decide)
theorem req_inj {l l' : List De} {v v' : List Ar} (h : docB l = true) (h' : docB l' = true) (hv : bindB v = true) (hv' : bindB v' = true) (e : reqP l v = reqP l' v') : l = l' ∧ v = v' := by
  unfold reqP at e
  have a := (bind_all hv).2
  have a' := (bind_all hv').2
  cases v with
  | nil =>
    cases v' with
    | nil => exact ⟨doc_inj h h' (by simpa using e), rfl⟩
    | cons y v' => exact absurd (by simpa using e) (req_mixed (l' := l') (v' := v') h (a' y (List.mem_cons_self ..)).2)
  | cons x v =>
    cases v' with
    | nil => exact absurd (by simpa using e.symm) (req_mixed (l' := l) (v' := v) h' (a x (List.mem_cons_self ..)).2)
    | cons y v' =>
      rw [if_neg (by simp), if_neg (by simp)] at e
      obtain ⟨e1, e2⟩ := bns_inj a a' e
      rw [List.cons.injEq] at e2
      exact ⟨doc_inj h h' e2.2, e1⟩
end Go.Proofs.Ytiehcmdhfeeomaa
