/- What is written on a right store, and what is left of one, is right. -/
import Derived.Test.YtlfcjhiojbcijaaStWrMath
import Derived.Test.YtlfcjhiojbcijaaStFgMath
namespace Go.Proofs.Ytlfcjhiojbcijaa.G
set_option linter.unusedVariables false

theorem chain_low {key now : Int} {x : List Ve} (h : chainB key now x = true) : ∀ i, i < x.length → (i : Int) + 1 ≤ tsAt x i
  | 0, hi => by have := (okB_parts (chainB_at h hi)).1; simp only [prevTs] at this; omega
  | i + 1, hi => by
    have h1 := chain_low h i (by omega)
    have := (okB_parts (chainB_at h hi)).1
    simp only [prevTs] at this
    omega
theorem chain_len {key now : Int} {x : List Ve} (h : chainB key now x = true) (hn : 0 ≤ now) : (x.length : Int) ≤ now := by
  by_cases h0 : x.length = 0
  · omega
  · have h1 := chain_low h (x.length - 1) (by omega)
    have h2 := (okB_parts (chainB_at h (show x.length - 1 < x.length by omega))).2.1
    omega
theorem chain_mono {key now now' : Int} {x : List Ve} (h : chainB key now x = true) (hn : now ≤ now') : chainB key now' x = true :=
  chainB_true fun i hi => by
    obtain ⟨h1, h2, h3⟩ := okB_parts (chainB_at h hi)
    exact okB_mk h1 (by omega) h3
theorem tsAt_take {x : List Ve} {m i : Nat} (h : i < m) : tsAt (x.take m) i = tsAt x i := by simp [tsAt, h]
theorem vAt_take {x : List Ve} {m i : Nat} (h : i < m) : vAt (x.take m) i = vAt x i := by simp [vAt, h]
theorem chain_take {key now : Int} {x : List Ve} (h : chainB key now x = true) (m : Nat) : chainB key now (x.take m) = true :=
  chainB_true fun i hi => by
    rw [List.length_take] at hi
    obtain ⟨h1, h2, h3⟩ := okB_parts (chainB_at h (show i < x.length by omega))
    refine okB_mk ?_ (by rw [tsAt_take (by omega)]; exact h2) (by rw [vAt_take (by omega)]; exact h3)
    rw [tsAt_take (by omega)]
    cases i with
    | zero => exact h1
    | succ i => simp only [prevTs] at h1 ⊢; rw [tsAt_take (by omega)]; exact h1
theorem tsAt_drop {x : List Ve} {m i : Nat} : tsAt (x.drop m) i = tsAt x (m + i) := by simp [tsAt]
theorem vAt_drop {x : List Ve} {m i : Nat} : vAt (x.drop m) i = vAt x (m + i) := by simp [vAt]
theorem chain_drop {key now : Int} {x : List Ve} (h : chainB key now x = true) (m : Nat) : chainB key now (x.drop m) = true :=
  chainB_true fun i hi => by
    rw [List.length_drop] at hi
    obtain ⟨h1, h2, h3⟩ := okB_parts (chainB_at h (show m + i < x.length by omega))
    refine okB_mk ?_ (by rw [tsAt_drop]; exact h2) (by rw [vAt_drop]; exact h3)
    rw [tsAt_drop]
    cases i with
    | zero => have := chain_low h (m + 0) (by omega); simp only [prevTs]; omega
    | succ i => simp only [prevTs]; rw [tsAt_drop]; exact h1
theorem chain_snoc {key t v : Int} {x : List Ve} (h : chainB key t x = true) (hx : ∀ i, i < x.length → tsAt x i < t) (ht : 0 < t) (hv : valB key v = true) : chainB key t (x ++ [⟨t, v⟩]) = true := by
  have e1 : ∀ i, i < x.length → tsAt (x ++ [⟨t, v⟩]) i = tsAt x i := fun i hi => by simp [tsAt, List.getElem?_append_left hi]
  have e2 : ∀ i, i < x.length → vAt (x ++ [⟨t, v⟩]) i = vAt x i := fun i hi => by simp [vAt, List.getElem?_append_left hi]
  have e3 : tsAt (x ++ [⟨t, v⟩]) x.length = t := by simp [tsAt]
  have e4 : vAt (x ++ [⟨t, v⟩]) x.length = v := by simp [vAt]
  refine chainB_true fun i hi => ?_
  rw [List.length_append, List.length_singleton] at hi
  by_cases hl : i < x.length
  · obtain ⟨h1, h2, h3⟩ := okB_parts (chainB_at h hl)
    refine okB_mk ?_ (by rw [e1 i hl]; exact h2) (by rw [e2 i hl]; exact h3)
    rw [e1 i hl]
    cases i with
    | zero => exact h1
    | succ i => simp only [prevTs] at h1 ⊢; rw [e1 i (by omega)]; exact h1
  · obtain rfl : i = x.length := by omega
    refine okB_mk ?_ (by rw [e3]; omega) (by rw [e4]; exact hv)
    rw [e3]
    obtain ⟨n, hn⟩ : ∃ n, n = x.length := ⟨_, rfl⟩
    rw [← hn]
    cases n with
    | zero => exact ht
    | succ n => simp only [prevTs]; rw [e1 n (by omega)]; exact hx n (by omega)
theorem chain_cut {key t : Int} {x : List Ve} (h : chainB key t x = true) : chainB key t (cutC t x) = true ∧ ∀ i, i < (cutC t x).length → tsAt (cutC t x) i < t := by
  unfold cutC
  split
  · rename_i hc
    refine ⟨chain_take h _, fun i hi => ?_⟩
    rw [List.length_take] at hi
    rw [tsAt_take (by omega), ← hc.2]
    exact chain_rise h i _ (by omega) (by omega)
  · rename_i hc
    refine ⟨h, fun i hi => ?_⟩
    have h2 := (okB_parts (chainB_at h (show x.length - 1 < x.length by omega))).2.1
    have h3 : ¬ tsAt x (x.length - 1) = t := fun e => hc ⟨by omega, e⟩
    by_cases hl : i = x.length - 1
    · rw [hl]; omega
    · have := chain_rise h i (x.length - 1) (by omega) (by omega); omega
theorem chain_wr {key t v : Int} {x : List Ve} (h : chainB key t x = true) (ht : 0 < t) (hv : valB key v = true) : chainB key t (wrC t x v) = true :=
  chain_snoc (chain_cut h).1 (chain_cut h).2 ht hv
theorem store_wrS {l : Chs} {t : Int} {p : Ve} (h : l.length = 16 ∧ ∀ i (hi : i < l.length), chainB i t l[i] = true) (ht : 0 < t) (hp : putB p.ts p.v = true) : (wrS t l p).length = 16 ∧ ∀ i (hi : i < (wrS t l p).length), chainB i t (wrS t l p)[i] = true := by
  refine ⟨by rw [wrS_len]; exact h.1, fun i hi => ?_⟩
  have hi2 : i < l.length := by rw [wrS_len] at hi; exact hi
  simp only [putB, keyS, Bool.and_eq_true, decide_eq_true_eq] at hp
  obtain ⟨q, hq⟩ : ∃ q : Nat, p.ts = q := ⟨p.ts.toNat, by omega⟩
  simp only [wrS, hq, Int.toNat_natCast]
  by_cases e : q = i
  · subst e
    rw [List.getElem_set_self, chAt_eq hi2]
    exact chain_wr (h.2 q hi2) ht (by rw [← hq]; exact hp.2)
  · rw [List.getElem_set_ne e]
    exact h.2 i hi2
theorem store_wr {t : Int} (ht : 0 < t) : ∀ (ps : List Ve) {l : Chs}, (l.length = 16 ∧ ∀ i (hi : i < l.length), chainB i t l[i] = true) → (∀ p ∈ ps, putB p.ts p.v = true) → (wrAll t l ps).length = 16 ∧ ∀ i (hi : i < (wrAll t l ps).length), chainB i t (wrAll t l ps)[i] = true
  | [], l, h, hp => h
  | p :: ps, l, h, hp => store_wr ht ps (store_wrS h ht (hp p (by simp))) (fun x hx => hp x (by simp [hx]))
theorem storeB_wr {l : Chs} {now : Int} {ps : List Ve} (h : storeB l now = true) (hn : now + 1 ≤ 100000) (hp : ∀ p ∈ ps, putB p.ts p.v = true) : storeB (wrAll (now + 1) l ps) (now + 1) = true := by
  obtain ⟨h1, h2, h3, h4⟩ := storeB_all h
  obtain ⟨g1, g2⟩ := store_wr (t := now + 1) (by omega) ps ⟨h1, fun i hi => chain_mono (chainsB_at h4 hi) (by omega)⟩ hp
  rw [storeB_chains g1 (by omega)]
  exact chainsB_true g2
theorem storeB_fg {l : Chs} {now : Int} (low : Int) (h : storeB l now = true) : storeB (fgS low l) now = true := by
  obtain ⟨h1, h2, h3, h4⟩ := storeB_all h
  rw [storeB_chains (by rw [fgS_len]; exact h1) ⟨h2, h3⟩]
  refine chainsB_true fun i hi => ?_
  have hi2 : i < l.length := by rw [fgS_len] at hi; exact hi
  have e : (fgS low l)[i] = fgC low l[i] := by simp [fgS]
  rw [e]
  exact chain_drop (chainsB_at h4 hi2) _
theorem storeB_bd {l : Chs} {now : Int} (h : storeB l now = true) : ∀ x ∈ l, (x.length : Int) ≤ now := by
  obtain ⟨h1, h2, h3, h4⟩ := storeB_all h
  intro x hx
  obtain ⟨i, hi, rfl⟩ := List.getElem_of_mem hx
  exact chain_len (chainsB_at h4 hi) h2
end Go.Proofs.Ytlfcjhiojbcijaa.G
