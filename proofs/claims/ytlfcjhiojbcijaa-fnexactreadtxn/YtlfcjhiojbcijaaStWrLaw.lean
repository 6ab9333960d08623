/- What is written is read from its hour on; elder hours tell what they did. -/
import Derived.Test.YtlfcjhiojbcijaaStStoreMath
namespace Go.Proofs.Ytlfcjhiojbcijaa.G
set_option linter.unusedVariables false

/-- The last value written on a key. -/
def lastW (k : Int) (ps : List Ve) : Option Int := ps.foldl (fun o p => if p.ts = k then some p.v else o) none
def newV (t : Int) (o : Option Int) : List Ve := match o with | none => [] | some v => [⟨t, v⟩]
theorem cut_new {t : Int} {x : List Ve} (hx : ∀ i, i < x.length → tsAt x i < t) : ∀ o : Option Int, cutC t (x ++ newV t o) = x
  | none => by
    simp only [newV, List.append_nil]
    unfold cutC
    refine if_neg fun h => ?_
    have := hx (x.length - 1) (by omega)
    omega
  | some v => by
    have e : tsAt (x ++ [⟨t, v⟩]) ((x ++ [⟨t, v⟩] : List Ve).length - 1) = t := by simp [tsAt]
    simp only [newV]
    unfold cutC
    rw [if_pos ⟨by simp, e⟩]
    simp
theorem wrAll_chain {t : Int} {k : Nat} {x : List Ve} (hx : ∀ i, i < x.length → tsAt x i < t) : ∀ (ps : List Ve) (l : Chs) (o : Option Int), k < l.length → chAt l k = x ++ newV t o → (∀ p ∈ ps, 0 ≤ p.ts) →
    chAt (wrAll t l ps) k = x ++ newV t (ps.foldl (fun o (p : Ve) => if p.ts = (k : Int) then some p.v else o) o)
  | [], l, o, hk, h, _ => h
  | p :: ps, l, o, hk, h, hp => by
    show chAt (wrAll t (wrS t l p) ps) k = x ++ newV t (ps.foldl _ (if p.ts = (k : Int) then some p.v else o))
    refine wrAll_chain hx ps (wrS t l p) _ (by rw [wrS_len]; exact hk) ?_ (fun q hq => hp q (by simp [hq]))
    have h0 := hp p (by simp)
    by_cases e : p.ts = k
    · rw [if_pos e]
      have e2 : p.ts.toNat = k := by omega
      have : chAt (wrS t l p) k = wrC t (chAt l k) p.v := by simp [wrS, e2, chAt, hk]
      rw [this, h, wrC, cut_new hx]
      rfl
    · rw [if_neg e, ← h]
      have e2 : p.ts.toNat ≠ k := by omega
      simp [wrS, chAt, List.getElem?_set_ne e2]
theorem wrAll_at {t : Int} {k : Nat} {l : Chs} (ps : List Ve) (hk : k < l.length) (hx : ∀ i, i < l[k].length → tsAt l[k] i < t) (hp : ∀ p ∈ ps, 0 ≤ p.ts) : chAt (wrAll t l ps) k = l[k] ++ newV t (lastW k ps) :=
  wrAll_chain hx ps l none hk (by simp [newV, chAt_eq hk]) hp
theorem readV_new {t ts : Int} {x : List Ve} (h : ts < t) : ∀ o : Option Int, readV (x ++ newV t o) ts = readV x ts
  | none => by simp [newV]
  | some v => by
    simp only [newV, readV, List.foldl_append, List.foldl_cons, List.foldl_nil]
    rw [if_neg (by omega)]
theorem readV_now {t v : Int} {x : List Ve} : readV (x ++ newV t (some v)) t = v := by
  simp [newV, readV, List.foldl_append]
/-- A right chain reads at a later hour as at the last. -/
theorem readV_later {key now ts : Int} {x : List Ve} (h : chainB key now x = true) (hl : now ≤ ts) : readV x ts = readV x now := by
  have key : ∀ (y : List Ve) (z : Int), (∀ p ∈ y, p.ts ≤ now) → y.foldl (fun v x => if x.ts ≤ ts then x.v else v) z = y.foldl (fun v x => if x.ts ≤ now then x.v else v) z := by
    intro y
    induction y with
    | nil => intro z _; rfl
    | cons p y ih =>
      intro z hy
      have hp := hy p (by simp)
      simp only [List.foldl_cons]
      rw [if_pos (by omega), if_pos hp]
      exact ih _ (fun q hq => hy q (by simp [hq]))
  refine key x 0 fun p hp => ?_
  obtain ⟨i, hi, rfl⟩ := List.getElem_of_mem hp
  have := (okB_parts (chainB_at h hi)).2.1
  rwa [tsAt_eq hi] at this
theorem chgB_new {key now : Int} {x : List Ve} (h : chainB key now x = true) : ∀ o : Option Int, chgB (x ++ newV (now + 1) o) now = o.isSome
  | none => by
    simp only [newV, List.append_nil, Option.isSome_none]
    unfold chgB
    by_cases h0 : 0 < x.length
    · have := (okB_parts (chainB_at h (show x.length - 1 < x.length by omega))).2.1
      rw [show decide (now < tsAt x (x.length - 1)) = false from decide_eq_false (by omega)]
      simp
    · rw [show decide (0 < x.length) = false from decide_eq_false h0]
      simp
  | some v => by
    have e : tsAt (x ++ [⟨now + 1, v⟩]) ((x ++ [⟨now + 1, v⟩] : List Ve).length - 1) = now + 1 := by simp [tsAt]
    simp only [newV, Option.isSome_some]
    unfold chgB
    rw [e, show decide (now < now + 1) = true from decide_eq_true (by omega)]
    simp
end Go.Proofs.Ytlfcjhiojbcijaa.G
