/- Rows of chains that grow by append: the chains lie in blocks of their own, outside of the row's. -/
import Derived.Test.YtoahbfledamnnaaStFgMath
import Derived.Test.YtoahbfledamnnaaStSpecTwo
import Derived.Deep.CutBlock
import Derived.Deep.CutRange
import Derived.Deep.AppendLies
namespace Go.Proofs.Ytoahbfledamnnaa.G
set_option linter.unusedVariables false

theorem chain_low {key now : Int} {x : List Ve} (h : chainB key now x = true) : ∀ i, i < x.length → (i : Int) + 1 ≤ tsAt x i
  | 0, hi => by have := (okB_parts (chainB_at h hi)).1; simp only [prevTs] at this; omega
  | i + 1, hi => by
    have h1 := chain_low h i (by omega)
    have := (okB_parts (chainB_at h hi)).1
    simp only [prevTs] at this
    omega
theorem chain_len {key now : Int} {x : List Ve} (h : chainB key now x = true) (hn : 0 ≤ now) : (x.length : Int) ≤ now := by
  by_cases h0 : x.length = 0
  · omega
  · have h1 := chain_low h (x.length - 1) (by omega)
    have h2 := (okB_parts (chainB_at h (show x.length - 1 < x.length by omega))).2.1
    omega
theorem chain_mono {key now now' : Int} {x : List Ve} (h : chainB key now x = true) (hn : now ≤ now') : chainB key now' x = true :=
  chainB_true fun i hi => by
    obtain ⟨h1, h2, h3⟩ := okB_parts (chainB_at h hi)
    exact okB_mk h1 (by omega) h3
theorem tsAt_take {x : List Ve} {m i : Nat} (h : i < m) : tsAt (x.take m) i = tsAt x i := by simp [tsAt, h]
theorem vAt_take {x : List Ve} {m i : Nat} (h : i < m) : vAt (x.take m) i = vAt x i := by simp [vAt, h]
theorem chain_take {key now : Int} {x : List Ve} (h : chainB key now x = true) (m : Nat) : chainB key now (x.take m) = true :=
  chainB_true fun i hi => by
    rw [List.length_take] at hi
    obtain ⟨h1, h2, h3⟩ := okB_parts (chainB_at h (show i < x.length by omega))
    refine okB_mk ?_ (by rw [tsAt_take (by omega)]; exact h2) (by rw [vAt_take (by omega)]; exact h3)
    rw [tsAt_take (by omega)]
    cases i with
    | zero => exact h1
    | succ i => simp only [prevTs] at h1 ⊢; rw [tsAt_take (by omega)]; exact h1
theorem tsAt_drop {x : List Ve} {m i : Nat} : tsAt (x.drop m) i = tsAt x (m + i) := by simp [tsAt]
theorem vAt_drop {x : List Ve} {m i : Nat} : vAt (x.drop m) i = vAt x (m + i) := by simp [vAt]
theorem chain_drop {key now : Int} {x : List Ve} (h : chainB key now x = true) (m : Nat) : chainB key now (x.drop m) = true :=
  chainB_true fun i hi => by
    rw [List.length_drop] at hi
    obtain ⟨h1, h2, h3⟩ := okB_parts (chainB_at h (show m + i < x.length by omega))
    refine okB_mk ?_ (by rw [tsAt_drop]; exact h2) (by rw [vAt_drop]; exact h3)
    rw [tsAt_drop]
    cases i with
    | zero => have := chain_low h (m + 0) (by omega); simp only [prevTs]; omega
    | succ i => simp only [prevTs]; rw [tsAt_drop]; exact h1
theorem chain_snoc {key t v : Int} {x : List Ve} (h : chainB key t x = true) (hx : ∀ i, i < x.length → tsAt x i < t) (ht : 0 < t) (hv : valB key v = true) : chainB key t (x ++ [⟨t, v⟩]) = true := by
  have e1 : ∀ i, i < x.length → tsAt (x ++ [⟨t, v⟩]) i = tsAt x i := fun i hi => by simp [tsAt, List.getElem?_append_left hi]
  have e2 : ∀ i, i < x.length → vAt (x ++ [⟨t, v⟩]) i = vAt x i := fun i hi => by simp [vAt, List.getElem?_append_left hi]
  have e3 : tsAt (x ++ [⟨t, v⟩]) x.length = t := by simp [tsAt]
  have e4 : vAt (x ++ [⟨t, v⟩]) x.length = v := by simp [vAt]
  refine chainB_true fun i hi => ?_
  rw [List.length_append, List.length_singleton] at hi
  by_cases hl : i < x.length
  · obtain ⟨h1, h2, h3⟩ := okB_parts (chainB_at h hl)
    refine okB_mk ?_ (by rw [e1 i hl]; exact h2) (by rw [e2 i hl]; exact h3)
    rw [e1 i hl]
    cases i with
    | zero => exact h1
    | succ i => simp only [prevTs] at h1 ⊢; rw [e1 i (by omega)]; exact h1
  · obtain rfl : i = x.length := by omega
    refine okB_mk ?_ (by rw [e3]; omega) (by rw [e4]; exact hv)
    rw [e3]
    obtain ⟨n, hn⟩ : ∃ n, n = x.length := ⟨_, rfl⟩
    rw [← hn]
    cases n with
    | zero => exact ht
    | succ n => simp only [prevTs]; rw [e1 n (by omega)]; exact hx n (by omega)
theorem chain_cut {key t : Int} {x : List Ve} (h : chainB key t x = true) : chainB key t (cutC t x) = true ∧ ∀ i, i < (cutC t x).length → tsAt (cutC t x) i < t := by
  unfold cutC
  split
  · rename_i hc
    refine ⟨chain_take h _, fun i hi => ?_⟩
    rw [List.length_take] at hi
    rw [tsAt_take (by omega), ← hc.2]
    exact chain_rise h i _ (by omega) (by omega)
  · rename_i hc
    refine ⟨h, fun i hi => ?_⟩
    have h2 := (okB_parts (chainB_at h (show x.length - 1 < x.length by omega))).2.1
    have h3 : ¬ tsAt x (x.length - 1) = t := fun e => hc ⟨by omega, e⟩
    by_cases hl : i = x.length - 1
    · rw [hl]; omega
    · have := chain_rise h i (x.length - 1) (by omega) (by omega); omega
theorem chain_wr {key t v : Int} {x : List Ve} (h : chainB key t x = true) (ht : 0 < t) (hv : valB key v = true) : chainB key t (wrC t x v) = true :=
  chain_snoc (chain_cut h).1 (chain_cut h).2 ht hv
theorem store_wrS {l : Chs} {t : Int} {p : Ve} (h : l.length = 16 ∧ ∀ i (hi : i < l.length), chainB i t l[i] = true) (ht : 0 < t) (hp : putB p.ts p.v = true) : (wrS t l p).length = 16 ∧ ∀ i (hi : i < (wrS t l p).length), chainB i t (wrS t l p)[i] = true := by
  refine ⟨by rw [wrS_len]; exact h.1, fun i hi => ?_⟩
  have hi2 : i < l.length := by rw [wrS_len] at hi; exact hi
  simp only [putB, keyS, Bool.and_eq_true, decide_eq_true_eq] at hp
  obtain ⟨q, hq⟩ : ∃ q : Nat, p.ts = q := ⟨p.ts.toNat, by omega⟩
  simp only [wrS, hq, Int.toNat_natCast]
  by_cases e : q = i
  · subst e
    rw [List.getElem_set_self, chAt_eq hi2]
    exact chain_wr (h.2 q hi2) ht (by rw [← hq]; exact hp.2)
  · rw [List.getElem_set_ne e]
    exact h.2 i hi2
theorem store_wr {t : Int} (ht : 0 < t) : ∀ (ps : List Ve) {l : Chs}, (l.length = 16 ∧ ∀ i (hi : i < l.length), chainB i t l[i] = true) → (∀ p ∈ ps, putB p.ts p.v = true) → (wrAll t l ps).length = 16 ∧ ∀ i (hi : i < (wrAll t l ps).length), chainB i t (wrAll t l ps)[i] = true
  | [], l, h, hp => h
  | p :: ps, l, h, hp => store_wr ht ps (store_wrS h ht (hp p (by simp))) (fun x hx => hp x (by simp [hx]))
theorem storeB_wr {l : Chs} {now : Int} {ps : List Ve} (h : storeB l now = true) (hn : now + 1 ≤ 100000) (hp : ∀ p ∈ ps, putB p.ts p.v = true) : storeB (wrAll (now + 1) l ps) (now + 1) = true := by
  obtain ⟨h1, h2, h3, h4⟩ := storeB_all h
  obtain ⟨g1, g2⟩ := store_wr (t := now + 1) (by omega) ps ⟨h1, fun i hi => chain_mono (chainsB_at h4 hi) (by omega)⟩ hp
  rw [storeB_chains g1 (by omega)]
  exact chainsB_true g2
theorem storeB_fg {l : Chs} {now : Int} (low : Int) (h : storeB l now = true) : storeB (fgS low l) now = true := by
  obtain ⟨h1, h2, h3, h4⟩ := storeB_all h
  rw [storeB_chains (by rw [fgS_len]; exact h1) ⟨h2, h3⟩]
  refine chainsB_true fun i hi => ?_
  have hi2 : i < l.length := by rw [fgS_len] at hi; exact hi
  have e : (fgS low l)[i] = fgC low l[i] := by simp [fgS]
  rw [e]
  exact chain_drop (chainsB_at h4 hi2) _
theorem storeB_bd {l : Chs} {now : Int} (h : storeB l now = true) : ∀ x ∈ l, (x.length : Int) ≤ now := by
  obtain ⟨h1, h2, h3, h4⟩ := storeB_all h
  intro x hx
  obtain ⟨i, hi, rfl⟩ := List.getElem_of_mem hx
  exact chain_len (chainsB_at h4 hi) h2
end Go.Proofs.Ytoahbfledamnnaa.G
namespace Go.Proofs.Ytoahbfledamnnaa.G
set_option linter.unusedVariables false

/-- The last value written on a key. -/
def lastW (k : Int) (ps : List Ve) : Option Int := ps.foldl (fun o p => if p.ts = k then some p.v else o) none
def newV (t : Int) (o : Option Int) : List Ve := match o with | none => [] | some v => [⟨t, v⟩]
theorem cut_new {t : Int} {x : List Ve} (hx : ∀ i, i < x.length → tsAt x i < t) : ∀ o : Option Int, cutC t (x ++ newV t o) = x
  | none => by
    simp only [newV, List.append_nil]
    unfold cutC
    refine if_neg fun h => ?_
    have := hx (x.length - 1) (by omega)
    omega
  | some v => by
    have e : tsAt (x ++ [⟨t, v⟩]) ((x ++ [⟨t, v⟩] : List Ve).length - 1) = t := by simp [tsAt]
    simp only [newV]
    unfold cutC
    rw [if_pos ⟨by simp, e⟩]
    simp
theorem wrAll_chain {t : Int} {k : Nat} {x : List Ve} (hx : ∀ i, i < x.length → tsAt x i < t) : ∀ (ps : List Ve) (l : Chs) (o : Option Int), k < l.length → chAt l k = x ++ newV t o → (∀ p ∈ ps, 0 ≤ p.ts) →
    chAt (wrAll t l ps) k = x ++ newV t (ps.foldl (fun o (p : Ve) => if p.ts = (k : Int) then some p.v else o) o)
  | [], l, o, hk, h, _ => h
  | p :: ps, l, o, hk, h, hp => by
    show chAt (wrAll t (wrS t l p) ps) k = x ++ newV t (ps.foldl _ (if p.ts = (k : Int) then some p.v else o))
    refine wrAll_chain hx ps (wrS t l p) _ (by rw [wrS_len]; exact hk) ?_ (fun q hq => hp q (by simp [hq]))
    have h0 := hp p (by simp)
    by_cases e : p.ts = k
    · rw [if_pos e]
      have e2 : p.ts.toNat = k := by omega
      have : chAt (wrS t l p) k = wrC t (chAt l k) p.v := by simp [wrS, e2, chAt, hk]
      rw [this, h, wrC, cut_new hx]
      rfl
    · rw [if_neg e, ← h]
      have e2 : p.ts.toNat ≠ k := by omega
      simp [wrS, chAt, List.getElem?_set_ne e2]
theorem wrAll_at {t : Int} {k : Nat} {l : Chs} (ps : List Ve) (hk : k < l.length) (hx : ∀ i, i < l[k].length → tsAt l[k] i < t) (hp : ∀ p ∈ ps, 0 ≤ p.ts) : chAt (wrAll t l ps) k = l[k] ++ newV t (lastW k ps) :=
  wrAll_chain hx ps l none hk (by simp [newV, chAt_eq hk]) hp
theorem readV_new {t ts : Int} {x : List Ve} (h : ts < t) : ∀ o : Option Int, readV (x ++ newV t o) ts = readV x ts
  | none => by simp [newV]
  | some v => by
    simp only [newV, readV, List.foldl_append, List.foldl_cons, List.foldl_nil]
    rw [if_neg (by omega)]
theorem readV_now {t v : Int} {x : List Ve} : readV (x ++ newV t (some v)) t = v := by
  simp [newV, readV, List.foldl_append]
/-- A right chain reads at a later hour as at the last. -/
theorem readV_later {key now ts : Int} {x : List Ve} (h : chainB key now x = true) (hl : now ≤ ts) : readV x ts = readV x now := by
  have key : ∀ (y : List Ve) (z : Int), (∀ p ∈ y, p.ts ≤ now) → y.foldl (fun v x => if x.ts ≤ ts then x.v else v) z = y.foldl (fun v x => if x.ts ≤ now then x.v else v) z := by
    intro y
    induction y with
    | nil => intro z _; rfl
    | cons p y ih =>
      intro z hy
      have hp := hy p (by simp)
      simp only [List.foldl_cons]
      rw [if_pos (by omega), if_pos hp]
      exact ih _ (fun q hq => hy q (by simp [hq]))
  refine key x 0 fun p hp => ?_
  obtain ⟨i, hi, rfl⟩ := List.getElem_of_mem hp
  have := (okB_parts (chainB_at h hi)).2.1
  rwa [tsAt_eq hi] at this
theorem chgB_new {key now : Int} {x : List Ve} (h : chainB key now x = true) : ∀ o : Option Int, chgB (x ++ newV (now + 1) o) now = o.isSome
  | none => by
    simp only [newV, List.append_nil, Option.isSome_none]
    unfold chgB
    by_cases h0 : 0 < x.length
    · have := (okB_parts (chainB_at h (show x.length - 1 < x.length by omega))).2.1
      rw [show decide (now < tsAt x (x.length - 1)) = false from decide_eq_false (by omega)]
      simp
    · rw [show decide (0 < x.length) = false from decide_eq_false h0]
      simp
  | some v => by
    have e : tsAt (x ++ [⟨now + 1, v⟩]) ((x ++ [⟨now + 1, v⟩] : List Ve).length - 1) = now + 1 := by simp [tsAt]
    simp only [newV, Option.isSome_some]
    unfold chgB
    rw [e, show decide (now < now + 1) = true from decide_eq_true (by omega)]
    simp
end Go.Proofs.Ytoahbfledamnnaa.G
namespace Go.Proofs.Ytoahbfledamnnaa.G
open Go.ChangeShapes Go.WideShapes Go.ChangeAt Go.RowKit
set_option linter.unusedVariables false

def putsB (ps : List Ve) : Bool := decide (ps.length ≤ 400) && ps.all (fun p => putB p.ts p.v)
theorem putsB_long {ps : List Ve} (h : 400 < ps.length) : putsB ps = false := by
  have : decide (ps.length ≤ 400) = false := by simp; omega
  simp only [putsB, this]; simp
theorem putsB_no {ps : List Ve} {k : Nat} (hk : k < ps.length) (h : putB ps[k].ts ps[k].v = false) : putsB ps = false := by
  have : ps.all (fun p => putB p.ts p.v) = false := all_no_b hk h
  simp only [putsB, this]; simp
theorem putsB_yes {ps : List Ve} (h : ps.length ≤ 400) (ha : ∀ i (hi : i < ps.length), putB ps[i].ts ps[i].v = true) : putsB ps = true := by
  have h2 : ps.all (fun p => putB p.ts p.v) = true := by
    rw [List.all_eq_true]; intro x hx
    obtain ⟨i, hi, rfl⟩ := List.getElem_of_mem hx
    exact ha i hi
  simp [putsB, h, h2]
theorem putsB_all {ps : List Ve} (h : putsB ps = true) : ps.length ≤ 400 ∧ ∀ p ∈ ps, putB p.ts p.v = true := by
  simp only [putsB, Bool.and_eq_true, decide_eq_true_eq, List.all_eq_true] at h
  exact h
theorem putB_key {k v : Int} (h : putB k v = true) : 0 ≤ k ∧ k < 16 := by
  simp only [putB, keyS, Bool.and_eq_true, decide_eq_true_eq] at h
  exact h.1
theorem putB_in {k v : Int} : putB k v = (inS k 0 15 && valB k v) := by
  have : keyS k = inS k 0 15 := by unfold keyS inS; rw [Bool.eq_iff_iff]; simp; omega
  rw [putB, this]
set_option maxHeartbeats 2000000 in
theorem impl_putsOK (a : Option Addr) (c : Nat) (ps : List Ve) (w : World) (hr : VeRow 0 w.heap.size w a ps) (hl : ps.length ≤ 1048576) :
    Calls Try.prog 24 #[.slice a ps.length c] w fun e w' => e = .returned (.bool (putsB ps)) ∧ Below w.heap.size w w' := by
  by_cases h4 : 400 < ps.length
  · have HN : Hid (false = putsB ps) := (putsB_long h4).symm
    have h4' : (400 : Int) < ps.length := by omega
    go_enter Try.func24, Try.ntmps24
    go_wp2_with fail
    go_ret
    exact ⟨ret_b HN.out, Below.refl _ _⟩
  have h4' : ¬ (400 : Int) < ps.length := by omega
  have HR : Hid (VeRow 0 w.heap.size w a ps) := hr
  clear hr
  go_enter Try.func24, Try.ntmps24
  go_wp2_with fail
  go_loopw [10] (fun i w' => ∃ (k : Nat), k ≤ ps.length ∧ i = .int .i64 k ∧ Below w.heap.size w w' ∧ Hid (∀ i (hi : i < ps.length), i < k → putB ps[i].ts ps[i].v = true)) (fun i _ => ps.length - (intOf i).toNat)
  case atStart => exact ⟨0, by omega, rfl, Below.refl _ _, fun i _ h => by omega⟩
  case round =>
    obtain ⟨wo, rfl⟩ : ∃ x, x = wr := ⟨_, rfl⟩
    obtain ⟨k, hk, rfl, hb, HK⟩ := hrel
    by_cases hlt : k < ps.length
    · obtain ⟨b, o, ha, _, hbl, d0, d1⟩ := VeRow.cells (VeRow.keep HR.out (agree hb (Nat.le_refl _))) k hlt
      subst ha
      have hz := hb.size
      cases hv : putB ps[k].ts ps[k].v
      · have HN : Hid (false = putsB ps) := (putsB_no hlt hv).symm
        go_wp2_with (first | (go_at_call 34; refine (impl_putOK _ _ _).mono ?_; rintro e w1 ⟨rfl, hb1⟩; rw [hv]))
        go_ret
        refine ⟨ret_b HN.out, ?_⟩
        refine Below.trans ?_ (hb1.mono (by first | omega | (simp <;> omega)))
        repeat (first | exact hb | refine Below.setCell ?_ (by first | omega | (simp <;> omega)) _ | refine Below.alloc ?_ (by first | omega | (simp <;> omega)) _)
      · go_wp2_with (first | (go_at_call 34; refine (impl_putOK _ _ _).mono ?_; rintro e w1 ⟨rfl, hb1⟩; rw [hv]))
        refine ⟨⟨k + 1, by omega, by go_num, ?_, ?_⟩, by simp [intOf]; omega⟩
        · refine Below.trans ?_ (hb1.mono (by first | omega | (simp <;> omega)))
          repeat (first | exact hb | refine Below.setCell ?_ (by first | omega | (simp <;> omega)) _ | refine Below.alloc ?_ (by first | omega | (simp <;> omega)) _)
        · intro i hi1 hi2
          by_cases e : i = k
          · subst e; exact hv
          · exact HK.out i hi1 (by omega)
    · have HN : Hid (true = putsB ps) := (putsB_yes (by omega) (fun i hi => HK.out i hi (by omega))).symm
      go_wp2_with fail
      go_ret
      exact ⟨ret_b HN.out, hb⟩
set_option maxHeartbeats 4000000 in
theorem spec_puts (a : Option Addr) (c : Nat) (ps : List Ve) (w : World) (hr : VeRow 0 w.heap.size w a ps) (hl : ps.length ≤ 1048576) :
    Calls Try.prog 72 #[.slice a ps.length c] w fun e w' => e = .returned (.bool (putsB ps)) ∧ Below w.heap.size w w' := by
  have HR : Hid (VeRow 0 w.heap.size w a ps) := hr
  clear hr
  go_enter Try.func72, Try.ntmps72
  go_wp2_with fail
  go_loopw [3] (fun i w' => ∃ (k : Nat), k ≤ ps.length ∧ i = .int .i64 k ∧ Below w.heap.size w w' ∧ Hid (∀ i (hi : i < ps.length), i < k → putB ps[i].ts ps[i].v = true)) (fun i _ => ps.length - (intOf i).toNat)
  case atStart => exact ⟨0, by omega, rfl, Below.refl _ _, fun i _ h => by omega⟩
  case round =>
    obtain ⟨wo, rfl⟩ : ∃ x, x = wr := ⟨_, rfl⟩
    obtain ⟨k, hk, rfl, hb, HK⟩ := hrel
    by_cases hlt : k < ps.length
    case neg =>
      obtain rfl : k = ps.length := by omega
      have HN : Hid (decide ((ps.length : Int) ≤ 400) = putsB ps) := by
        by_cases h4 : ps.length ≤ 400
        · rw [Hid, putsB_yes h4 (fun i hi => HK.out i hi hi)]; simp; omega
        · rw [Hid, putsB_long (by omega)]; simp; omega
      go_wp2_with fail
      go_ret
      exact ⟨ret_b HN.out, hb⟩
    obtain ⟨b, o, ha, _, hbl, d0, d1⟩ := VeRow.cells (VeRow.keep HR.out (agree hb (Nat.le_refl _))) k hlt
    subst ha
    have hlt' : (k : Int) < ps.length := by omega
    have HB : Hid _ := hb
    clear hb
    cases hA : inS ps[k].ts 0 15
    · have HN : Hid (false = putsB ps) := (putsB_no hlt (by rw [putB_in, hA]; rfl)).symm
      have HA : Hid _ := hA
      clear hA
      go_wp2_with fail
      go_quiet ((first | (go_at_call 70; exact Calls.quiet_of_same (spec_inS _ _ _ _ HA.out))))
      go_wp2_with fail
      go_ret
      exact ⟨ret_b HN.out, below_drewN HB.out _⟩
    have hk0 : 0 ≤ ps[k].ts := ((inS_iff _ _ _).1 hA).1
    cases hV : valB ps[k].ts ps[k].v
    · have HN : Hid (false = putsB ps) := (putsB_no hlt (by rw [putB_in, hA, hV]; rfl)).symm
      have HA : Hid _ := hA
      have HV : Hid _ := hV
      clear hA hV
      go_wp2_with fail
      go_quiet ((first | (go_at_call 70; exact Calls.quiet_of_same (spec_inS _ _ _ _ HA.out)) | (go_at_call 71; exact Calls.quiet_of_same (spec_value _ _ _ hk0 HV.out))))
      go_wp2_with fail
      go_ret
      exact ⟨ret_b HN.out, below_drewN HB.out _⟩
    · have HO : Hid (putB ps[k].ts ps[k].v = true) := by rw [Hid, putB_in, hA, hV]; rfl
      have HA : Hid _ := hA
      have HV : Hid _ := hV
      clear hA hV
      go_wp2_with fail
      go_quiet ((first | (go_at_call 70; exact Calls.quiet_of_same (spec_inS _ _ _ _ HA.out)) | (go_at_call 71; exact Calls.quiet_of_same (spec_value _ _ _ hk0 HV.out))))
      go_wp2_with fail
      refine ⟨⟨k + 1, by omega, by go_num, below_drewN HB.out _, ?_⟩, by simp [intOf]; omega⟩
      intro i hi1 hi2
      by_cases e : i = k
      · subst e; exact HO.out
      · exact HK.out i hi1 (by omega)
end Go.Proofs.Ytoahbfledamnnaa.G
namespace Go.Proofs.Ytoahbfledamnnaa.G
set_option linter.unusedVariables false

/-- One key that was read: in range, and not read ahead. -/
def rdB (rs : List Int) (i : Nat) : Bool := inS ((rs[i]?).getD 0) 0 15 && !decide ((rs[i]?).getD 0 ∈ rs.take i)
def readsB (rs : List Int) : Bool := (List.range rs.length).all (rdB rs)
def txB (now st : Int) (rs : List Int) (ws : List Ve) : Bool := inS st 0 now && putsB ws && readsB rs
def txnB (l : Chs) (now st : Int) (rs : List Int) (ws : List Ve) : Bool := storeB l now && txB now st rs ws
theorem rdB_eq {rs : List Int} {i : Nat} (h : i < rs.length) : rdB rs i = (inS rs[i] 0 15 && !decide (rs[i] ∈ rs.take i)) := by simp [rdB, h]
theorem readsB_true {rs : List Int} (h : ∀ i, i < rs.length → rdB rs i = true) : readsB rs = true := by
  unfold readsB; rw [List.all_eq_true]; intro i hi; exact h i (List.mem_range.1 hi)
theorem readsB_false {rs : List Int} {i : Nat} (hi : i < rs.length) (h : rdB rs i = false) : readsB rs = false := by
  unfold readsB; rw [List.all_eq_false]; exact ⟨i, List.mem_range.2 hi, by simp [h]⟩
theorem readsB_at {rs : List Int} (h : readsB rs = true) {i : Nat} (hi : i < rs.length) : (0 ≤ rs[i] ∧ rs[i] < 16) ∧ rs[i] ∉ rs.take i := by
  unfold readsB at h; rw [List.all_eq_true] at h
  have := h i (List.mem_range.2 hi)
  rw [rdB_eq hi, Bool.and_eq_true, inS_iff] at this
  exact ⟨by omega, by simpa using this.2⟩
theorem txnB_all {l : Chs} {now st : Int} {rs : List Int} {ws : List Ve} (h : txnB l now st rs ws = true) : storeB l now = true ∧ (0 ≤ st ∧ st ≤ now) ∧ putsB ws = true ∧ readsB rs = true := by
  simp only [txnB, txB, Bool.and_eq_true, inS_iff] at h
  exact ⟨h.1, h.2.1.1, h.2.1.2, h.2.2⟩
/-- What a transaction reads. -/
def rdV (l : Chs) (st : Int) (ws : List Ve) (key : Int) : Int := (lastW key ws).getD (readV (chAt l key.toNat) st)
/-- What it has read then. -/
def rdK (rs : List Int) (ws : List Ve) (key : Int) : List Int := if (lastW key ws).isSome = true ∨ key ∈ rs then rs else rs ++ [key]
/-- Something that it read was written since, and it writes. -/
def confB (l : Chs) (st : Int) (rs : List Int) (ws : List Ve) : Bool := rs.any (fun k => chgB (chAt l k.toNat) st) && decide (0 < ws.length)
theorem pig : ∀ (t S : List Int), t.Pairwise (fun x y => x ≠ y) → (∀ x ∈ t, x ∈ S) → t.length ≤ S.length
  | [], S, _, _ => Nat.zero_le _
  | x :: t, S, hp, hs => by
    have h1 := pig t (S.erase x) (List.pairwise_cons.1 hp).2 (fun y hy => (List.mem_erase_of_ne (fun e => (List.pairwise_cons.1 hp).1 y hy e.symm)).2 (hs y (by simp [hy])))
    have h2 := List.length_erase_of_mem (hs x (by simp))
    have h3 : 0 < S.length := List.length_pos_of_mem (hs x (by simp))
    simp only [List.length_cons]; omega
theorem readsB_len {rs : List Int} (h : readsB rs = true) : rs.length ≤ 16 := by
  have := pig rs ((List.range 16).map Int.ofNat) (by
    rw [List.pairwise_iff_getElem]
    intro i j hi hj hij e
    refine (readsB_at h hj).2 ?_
    rw [List.mem_iff_getElem]
    exact ⟨i, by simp; omega, by simp [e]⟩) (fun x hx => by
    obtain ⟨i, hi, rfl⟩ := List.getElem_of_mem hx
    have := (readsB_at h hi).1
    rw [List.mem_map]
    exact ⟨rs[i].toNat, by rw [List.mem_range]; omega, by show ((rs[i].toNat : Nat) : Int) = _; omega⟩)
  simpa using this
theorem rdK_len {rs : List Int} {ws : List Ve} {key : Int} (h : readsB rs = true) : (rdK rs ws key).length ≤ 17 := by
  have := readsB_len h
  unfold rdK
  split
  · omega
  · simp; omega
/-- What Commit tells. -/
def CoIs (l : Chs) (now st : Int) (rs : List Int) (ws : List Ve) (m : Chs) (nr h cd : Int) : Prop :=
  (ws.length = 0 ∧ m = l ∧ nr = now ∧ h = st ∧ cd = 0) ∨
  (0 < ws.length ∧ confB l st rs ws = true ∧ m = l ∧ nr = now ∧ h = 0 ∧ cd = 16) ∨
  (0 < ws.length ∧ confB l st rs ws = false ∧ now = 100000 ∧ m = l ∧ nr = now ∧ h = 0 ∧ cd = 7) ∨
  (0 < ws.length ∧ confB l st rs ws = false ∧ now ≠ 100000 ∧ m = wrAll (now + 1) l ws ∧ nr = now + 1 ∧ h = now + 1 ∧ cd = 0)
end Go.Proofs.Ytoahbfledamnnaa.G
namespace Go.Proofs.Ytoahbfledamnnaa.G
open Go.ChangeShapes Go.WideShapes Go.ChangeAt Go.RowKit
set_option linter.unusedVariables false

/-- A transaction's rows: keys that were read, writes. -/
def TxRow (lo hi : Nat) (w : World) (ra wa : Option Addr) (rs : List Int) (ws : List Ve) : Prop := NuRow lo hi w ra rs ∧ VeRow lo hi w wa ws
theorem TxRow.keep {lo hi : Nat} {w w' : World} {ra wa : Option Addr} {rs : List Int} {ws : List Ve} (h : TxRow lo hi w ra wa rs ws) (hk : Agree lo hi w w') : TxRow lo hi w' ra wa rs ws := ⟨NuRow.keep h.1 hk, VeRow.keep h.2 hk⟩
theorem TxRow.wide {lo hi lo' hi' : Nat} {w : World} {ra wa : Option Addr} {rs : List Int} {ws : List Ve} (h : TxRow lo hi w ra wa rs ws) (e1 : lo' ≤ lo) (e2 : hi ≤ hi') : TxRow lo' hi' w ra wa rs ws := ⟨NuRow.wide h.1 e1 e2, VeRow.wide h.2 e1 e2⟩
theorem TxRow.up {w w' : World} {ra wa : Option Addr} {rs : List Int} {ws : List Ve} (h : TxRow 0 w.heap.size w ra wa rs ws) (hb : Below w.heap.size w w') : TxRow 0 w'.heap.size w' ra wa rs ws := ⟨NuRow.up h.1 hb, VeRow.up h.2 hb⟩
def TxBd (m : Nat) (rs : List Int) (ws : List Ve) : Prop := rs.length ≤ m ∧ ws.length ≤ m
theorem NuRow.take {lo hi : Nat} {w : World} {a : Option Addr} {x : List Int} (h : NuRow lo hi w a x) (n : Nat) : NuRow lo hi w a (x.take n) := by
  rcases h with rfl | ⟨b, o, e, h1, h2, h3⟩
  · exact .inl (by simp)
  · exact .inr ⟨b, o, e, h1, h2, fun i y hy => h3 i y (by rw [List.getElem?_take] at hy; split at hy; exact hy; cases hy)⟩
set_option maxHeartbeats 1000000 in
theorem spec_has (a : Option Addr) (c : Nat) (x : List Int) (n : Int) (w : World) (hr : NuRow 0 w.heap.size w a x) (hl : x.length ≤ 1048576) {B : Bool} (hB : decide (n ∈ x) = B) :
    Calls Try.prog 66 #[.slice a x.length c, .int .i64 n] w fun e w' => e = .returned (.bool B) ∧ w' = w := by
  have HR : Hid _ := hr
  have HB : Hid (decide (n ∈ x) = B) := hB
  clear hr hB
  go_enter Try.func66, Try.ntmps66
  go_wp2_with fail
  go_loop [5] (fun i => ∃ (k : Nat), k ≤ x.length ∧ i = .int .i64 k ∧ Hid (∀ i (h : i < x.length), i < k → x[i] ≠ n)) (fun i => x.length - (intOf i).toNat)
  case atStart => exact ⟨0, by omega, rfl, fun i _ h => by omega⟩
  case round =>
    obtain ⟨k, hk, rfl, HK⟩ := hrel
    by_cases hlt : k < x.length
    · obtain ⟨b, o, ha, _, hbl, d0⟩ := NuRow.cells HR.out k hlt
      subst ha
      have hlt' : (k : Int) < x.length := by omega
      by_cases he : x[k] = n
      · have HT : Hid (true = B) := by rw [Hid, ← HB.out]; exact (decide_eq_true (by rw [← he]; exact List.getElem_mem hlt)).symm
        rw [he] at d0
        clear he
        go_wp2_with fail
        go_ret
        exact ⟨congrArg (fun b => Ending.returned (.bool b)) HT.out, rfl⟩
      · have he' : (x[k] == n) = false := by simpa using he
        have HK2 : Hid (∀ i (h : i < x.length), i < k + 1 → x[i] ≠ n) := fun i h1 h2 => by
          by_cases e : i = k
          · subst e; exact he
          · exact HK.out i h1 (by omega)
        clear he
        go_wp2_with fail
        go_round
        case rel => exact ⟨k + 1, by omega, by go_num, HK2⟩
        case measure => simp [intOf]; omega
    · have HT : Hid (false = B) := by
        rw [Hid, ← HB.out]
        refine (decide_eq_false fun h => ?_).symm
        obtain ⟨i, hi, e⟩ := List.getElem_of_mem h
        exact HK.out i hi (by omega) e
      go_wp2_with fail
      go_ret
      exact ⟨congrArg (fun b => Ending.returned (.bool b)) HT.out, rfl⟩
set_option maxHeartbeats 4000000 in
theorem spec_txOK (a ra wa : Option Addr) (c rc wc : Nat) (l : Chs) (now st : Int) (rs : List Int) (ws : List Ve) (w : World) (hr : TxRow 0 w.heap.size w ra wa rs ws) (hbd : TxBd 1048576 rs ws) (hcap : rs.length ≤ rc) :
    Calls Try.prog 60 #[.agg #[.slice a l.length c, .int .i64 now], .agg #[.int .i64 st, .slice ra rs.length rc, .slice wa ws.length wc]] w fun e w' => e = .returned (.bool (txB now st rs ws)) ∧ Below w.heap.size w w' := by
  obtain ⟨V, hV⟩ : ∃ V, V = (w.alloc (.cells #[.slice a l.length c, .int .i64 now] 25)).alloc (.cells #[.int .i64 st, .slice ra rs.length rc, .slice wa ws.length wc] 30) := ⟨_, rfl⟩
  have bV : Below w.heap.size w V := by
    rw [hV]
    repeat (first | exact Below.refl _ _ | refine Below.alloc ?_ (by first | omega | (simp <;> omega)) _)
  have zV : V.heap.size = w.heap.size + 2 := by rw [hV]; simp
  have c0 : V.heap[w.heap.size]? = some (.cells #[.slice a l.length c, .int .i64 now] 25 (0, 0)) := by
    rw [hV, Below.heap_alloc _ _ _ (by simp)]; exact heap_alloc_new _ _
  have c1 : V.heap[w.heap.size + 1]? = some (.cells #[.int .i64 st, .slice ra rs.length rc, .slice wa ws.length wc] 30 (0, 0)) := by
    rw [hV]
    have := heap_alloc_new (w.alloc (.cells #[.slice a l.length c, .int .i64 now] 25)) (.cells #[.int .i64 st, .slice ra rs.length rc, .slice wa ws.length wc] 30)
    simpa using this
  have KV : Hid (∀ W, Below V.heap.size V W → W.heap[w.heap.size]? = some (.cells #[.slice a l.length c, .int .i64 now] 25 (0, 0)) ∧ W.heap[w.heap.size + 1]? = some (.cells #[.int .i64 st, .slice ra rs.length rc, .slice wa ws.length wc] 30 (0, 0)) ∧ Below w.heap.size w W) := fun W h =>
    ⟨(h.block _ (by omega)).trans c0, (h.block _ (by omega)).trans c1, bV.trans (h.mono (by omega))⟩
  have HR : Hid (∀ W0, Below w.heap.size w W0 → TxRow 0 W0.heap.size W0 ra wa rs ws) := fun W0 hB => TxRow.up hr hB
  have hl1 := hbd.1
  have hl2 := hbd.2
  have x0 := fun o => row_cell c0 o
  have x1 := fun o => row_cell c1 o
  clear hr hbd c0 c1 bV
  go_enter Try.func60, Try.ntmps60
  go_upto_region 1 with fail
  rw [← hV]
  clear hV
  cases hS : inS st 0 now
  · have HN : Hid (false = txB now st rs ws) := by rw [Hid, txB, hS]; rfl
    have H : Hid _ := hS
    clear hS
    go_wp2_with (first | (go_at_call 70; refine (spec_inS _ _ _ _ H.out).mono ?_; rintro e w' ⟨rfl, hw'⟩; rw [hw']) | fail)
    go_ret
    exact ⟨ret_b HN.out, (KV.out _ (Below.refl _ _)).2.2⟩
  have H : Hid (inS st 0 now = true) := hS
  clear hS
  cases hP : putsB ws
  · have HN : Hid (false = txB now st rs ws) := by rw [Hid, txB, H.out, hP]; rfl
    have HP : Hid _ := hP
    clear hP
    go_wp2_with (first | (go_at_call 70; refine (spec_inS _ _ _ _ H.out).mono ?_; rintro e w' ⟨rfl, hw'⟩; rw [hw']) | fail)
    refine (spec_puts wa wc ws _ (HR.out _ (KV.out _ (Below.refl _ _)).2.2).2 hl2).mono ?_
    rintro e w1 ⟨rfl, b1⟩
    rw [HP.out]
    have Q : Hid _ := (KV.out _ b1).2.2
    clear b1
    go_wp2_with fail
    go_ret
    exact ⟨ret_b HN.out, Q.out⟩
  have HP : Hid (putsB ws = true) := hP
  clear hP
  go_wp2_with (first | (go_at_call 70; refine (spec_inS _ _ _ _ H.out).mono ?_; rintro e w' ⟨rfl, hw'⟩; rw [hw']) | fail)
  refine (spec_puts wa wc ws _ (HR.out _ (KV.out _ (Below.refl _ _)).2.2).2 hl2).mono ?_
  rintro e w1 ⟨rfl, b1⟩
  rw [HP.out]
  have B1 : Hid (Below V.heap.size V w1) := b1
  clear b1 x0 x1
  have HX : Hid (txB now st rs ws = readsB rs) := by rw [Hid, txB, H.out, HP.out]; rfl
  go_wp2_with fail
  go_loopw [5] (fun i w' => ∃ (k : Nat), k ≤ rs.length ∧ i = .int .i64 k ∧ Hid (Below V.heap.size V w') ∧ Hid (∀ i, i < k → rdB rs i = true)) (fun i _ => rs.length - (intOf i).toNat)
  case atStart => exact ⟨0, by omega, rfl, B1, fun i h => by omega⟩
  case round =>
    obtain ⟨wo, rfl⟩ : ∃ x, x = wr := ⟨_, rfl⟩
    obtain ⟨k, hk, rfl, HB, HK⟩ := hrel
    obtain ⟨t0, t1, t2⟩ := KV.out _ HB.out
    have x0 := fun o => row_cell t0 o
    have x1 := fun o => row_cell t1 o
    have Q : Hid _ := t2
    have RW : Hid _ := HR.out _ t2
    clear t0 t1 t2
    by_cases hlt : k < rs.length
    case neg =>
      have HN : Hid (true = txB now st rs ws) := by rw [Hid, HX.out]; exact (readsB_true fun i hi => HK.out i (by omega)).symm
      go_wp2_with fail
      go_ret
      exact ⟨ret_b HN.out, Q.out⟩
    obtain ⟨b, o, ha, _, hbl, d0⟩ := NuRow.cells RW.out.1 k hlt
    have RT : Hid (NuRow 0 wo.heap.size wo ra (rs.take k)) := NuRow.take RW.out.1 k
    subst ha
    have hlt' : (k : Int) < rs.length := by omega
    have hkc : (k : Int) ≤ rc := by omega
    have hkl : (rs.take k).length = k := by simp; omega
    have HKL : Hid _ := hkl
    clear hkl
    cases hA : inS rs[k] 0 15
    · have HN : Hid (false = txB now st rs ws) := by rw [Hid, HX.out]; exact (readsB_false hlt (by rw [rdB_eq hlt, hA]; rfl)).symm
      have HA : Hid _ := hA
      clear hA
      go_wp2_with fail
      go_quiet ((first | (go_at_call 70; exact Calls.quiet_of_same (spec_inS _ _ _ _ HA.out))))
      go_wp2_with fail
      go_ret
      exact ⟨ret_b HN.out, below_drewN Q.out _⟩
    have HA : Hid (inS rs[k] 0 15 = true) := hA
    clear hA
    cases hM : decide (rs[k] ∈ rs.take k)
    · have HO : Hid (rdB rs k = true) := by rw [Hid, rdB_eq hlt, HA.out, hM]; rfl
      have HQ : Hid (∀ n, Calls Try.prog 66 #[.slice (some ⟨b, o, none⟩) k rc, .int .i64 rs[k]] (wo.drewN n) fun e w' => e = .returned (.bool false) ∧ w' = wo.drewN n) := fun n => by
        have hq := spec_has (some ⟨b, o, none⟩) rc (rs.take k) rs[k] (wo.drewN n) (NuRow.up RT.out (below_drewN (Below.refl _ _) n)) (by rw [HKL.out]; omega) hM
        rw [HKL.out] at hq
        exact hq
      clear hM
      go_wp2_with fail
      go_quiet ((first | (go_at_call 70; exact Calls.quiet_of_same (spec_inS _ _ _ _ HA.out)) | (go_at_call 66; exact Calls.quiet_of_same (HQ.out _))))
      go_wp2_with fail
      refine ⟨⟨k + 1, by omega, by go_num, below_drewN HB.out _, ?_⟩, by simp [intOf]; omega⟩
      intro i hi
      by_cases e : i = k
      · subst e; exact HO.out
      · exact HK.out i (by omega)
    · have HN : Hid (false = txB now st rs ws) := by rw [Hid, HX.out]; exact (readsB_false hlt (by rw [rdB_eq hlt, HA.out, hM]; rfl)).symm
      have HQ : Hid (∀ n, Calls Try.prog 66 #[.slice (some ⟨b, o, none⟩) k rc, .int .i64 rs[k]] (wo.drewN n) fun e w' => e = .returned (.bool true) ∧ w' = wo.drewN n) := fun n => by
        have hq := spec_has (some ⟨b, o, none⟩) rc (rs.take k) rs[k] (wo.drewN n) (NuRow.up RT.out (below_drewN (Below.refl _ _) n)) (by rw [HKL.out]; omega) hM
        rw [HKL.out] at hq
        exact hq
      clear hM
      go_wp2_with fail
      go_quiet ((first | (go_at_call 70; exact Calls.quiet_of_same (spec_inS _ _ _ _ HA.out)) | (go_at_call 66; exact Calls.quiet_of_same (HQ.out _))))
      go_wp2_with fail
      go_ret
      exact ⟨ret_b HN.out, below_drewN Q.out _⟩
end Go.Proofs.Ytoahbfledamnnaa.G
namespace Go.Proofs.Ytoahbfledamnnaa.G
open Go.ChangeShapes Go.WideShapes Go.ChangeAt Go.RowKit
set_option linter.unusedVariables false

theorem listThree {α : Type} {l : List α} (h : l.length = 3) : ∃ v0 v1 v2, l = [v0, v1, v2] := by
  match l, h with
  | [v0, v1, v2], _ => exact ⟨v0, v1, v2, rfl⟩
/-- Writes that a call owns. -/
def PuOwn (lo hi : Nat) (w : World) (a : Option Addr) (x : List Ve) : Prop := x = [] ∨ ∃ g, a = some ⟨g, 0, none⟩ ∧ lo ≤ g ∧ g < hi ∧ PuBlk w g x
theorem PuOwn.keep {lo hi : Nat} {w w' : World} {a : Option Addr} {x : List Ve} (h : PuOwn lo hi w a x) (hk : Agree lo hi w w') : PuOwn lo hi w' a x := by
  rcases h with h | ⟨g, e, h1, h2, h3⟩
  · exact .inl h
  · exact .inr ⟨g, e, h1, h2, h3.move (hk g h1 h2)⟩
theorem PuOwn.wide {lo hi lo' hi' : Nat} {w : World} {a : Option Addr} {x : List Ve} (h : PuOwn lo hi w a x) (e1 : lo' ≤ lo) (e2 : hi ≤ hi') : PuOwn lo' hi' w a x := by
  rcases h with h | ⟨g, e, h1, h2, h3⟩
  · exact .inl h
  · exact .inr ⟨g, e, by omega, by omega, h3⟩
theorem PuOwn.row {lo hi : Nat} {w : World} {a : Option Addr} {x : List Ve} (h : PuOwn lo hi w a x) : VeRow lo hi w a x := by
  rcases h with h | ⟨g, e, h1, h2, h3⟩
  · exact .inl h
  · rw [e]; exact h3.row h1 h2
def TxOwn (lo hi : Nat) (w : World) (ra wa : Option Addr) (rs : List Int) (ws : List Ve) : Prop := NuOwn lo hi w ra rs ∧ PuOwn lo hi w wa ws
theorem TxOwn.keep {lo hi : Nat} {w w' : World} {ra wa : Option Addr} {rs : List Int} {ws : List Ve} (h : TxOwn lo hi w ra wa rs ws) (hk : Agree lo hi w w') : TxOwn lo hi w' ra wa rs ws := ⟨NuOwn.keep h.1 hk, PuOwn.keep h.2 hk⟩
theorem TxOwn.wide {lo hi lo' hi' : Nat} {w : World} {ra wa : Option Addr} {rs : List Int} {ws : List Ve} (h : TxOwn lo hi w ra wa rs ws) (e1 : lo' ≤ lo) (e2 : hi ≤ hi') : TxOwn lo' hi' w ra wa rs ws := ⟨NuOwn.wide h.1 e1 e2, PuOwn.wide h.2 e1 e2⟩
theorem TxOwn.row {lo hi : Nat} {w : World} {ra wa : Option Addr} {rs : List Int} {ws : List Ve} (h : TxOwn lo hi w ra wa rs ws) : TxRow lo hi w ra wa rs ws := ⟨NuOwn.row h.1, PuOwn.row h.2⟩
/-- Marks in a transaction. -/
def PuMkd (lo hi : Nat) (w : World) (a : Option Addr) (n : Nat) (K : Int) : Prop := n = 0 ∨ ∃ g, a = some ⟨g, 0, none⟩ ∧ lo ≤ g ∧ g < hi ∧ PuMk w g K n
theorem PuMkd.keep {lo hi : Nat} {w w' : World} {a : Option Addr} {n : Nat} {K : Int} (h : PuMkd lo hi w a n K) (hk : Agree lo hi w w') : PuMkd lo hi w' a n K := by
  rcases h with h | ⟨g, e, h1, h2, h3⟩
  · exact .inl h
  · exact .inr ⟨g, e, h1, h2, h3.move (hk g h1 h2)⟩
def TxMk (lo hi : Nat) (w : World) (ra wa : Option Addr) (n m : Nat) (K : Int) : Prop := NuMk lo hi w ra n K ∧ PuMkd lo hi w wa m (K + n)
theorem TxMk.keep {lo hi : Nat} {w w' : World} {ra wa : Option Addr} {n m : Nat} {K : Int} (h : TxMk lo hi w ra wa n m K) (hk : Agree lo hi w w') : TxMk lo hi w' ra wa n m K := ⟨NuMk.keep h.1 hk, PuMkd.keep h.2 hk⟩
end Go.Proofs.Ytoahbfledamnnaa.G
namespace Go.Proofs.Ytoahbfledamnnaa.G
open Go.ChangeShapes Go.WideShapes Go.ChangeAt Go.RowKit
set_option linter.unusedVariables false

/-- A chain's cell value, its versions in a block from lo up that is not the row's. -/
def KidX (row : Option Nat) (lo : Nat) (w : World) (v : Value) (x : List Ve) : Prop :=
  ∃ a c, v = .slice a x.length c ∧ x.length ≤ c ∧ (x = [] ∨ ∃ b, a = some ⟨b, 0, none⟩ ∧ lo ≤ b ∧ b < w.heap.size ∧ some b ≠ row ∧ VeBlk w b x)
def Kids (row : Option Nat) (lo : Nat) (w : World) (vs : List Value) (l : Chs) : Prop := ∀ (i : Nat) (x : List Ve), l[i]? = some x → ∃ v, vs[i]? = some v ∧ KidX row lo w v x
theorem KidX.keep {row row' : Option Nat} {lo : Nat} {w w' : World} {v : Value} {x : List Ve} (h : KidX row lo w v x) (hs : w.heap.size ≤ w'.heap.size) (hk : ∀ k, lo ≤ k → k < w.heap.size → some k ≠ row → w'.heap[k]? = w.heap[k]? ∧ some k ≠ row') : KidX row' lo w' v x := by
  obtain ⟨a, c, h1, h2, h3⟩ := h
  refine ⟨a, c, h1, h2, ?_⟩
  rcases h3 with h3 | ⟨b, g1, g2, g3, g4, g5⟩
  · exact .inl h3
  · obtain ⟨f1, f2⟩ := hk b g2 g3 g4
    exact .inr ⟨b, g1, g2, by omega, f2, g5.move f1⟩
theorem Kids.keep {row row' : Option Nat} {lo : Nat} {w w' : World} {vs : List Value} {l : Chs} (h : Kids row lo w vs l) (hs : w.heap.size ≤ w'.heap.size) (hk : ∀ k, lo ≤ k → k < w.heap.size → some k ≠ row → w'.heap[k]? = w.heap[k]? ∧ some k ≠ row') : Kids row' lo w' vs l := fun i x hx => by
  obtain ⟨v, h1, h2⟩ := h i x hx
  exact ⟨v, h1, h2.keep hs hk⟩
theorem Kids.snoc {row : Option Nat} {lo : Nat} {w : World} {vs : List Value} {l : Chs} {v : Value} {x : List Ve} (h : Kids row lo w vs l) (hl : vs.length = l.length) (hv : KidX row lo w v x) : Kids row lo w (vs ++ [v]) (l ++ [x]) := fun i y hy => by
  by_cases hi : i < l.length
  · rw [List.getElem?_append_left hi] at hy
    obtain ⟨u, h1, h2⟩ := h i y hy
    exact ⟨u, by rw [List.getElem?_append_left (by omega)]; exact h1, h2⟩
  · rw [List.getElem?_append_right (by omega)] at hy
    have : i - l.length < 1 := by have := (List.getElem?_eq_some_iff.1 hy).1; simpa using this
    have e : i - l.length = 0 := by omega
    rw [e] at hy
    simp only [List.getElem?_cons_zero, Option.some.injEq] at hy
    subst hy
    exact ⟨v, by rw [List.getElem?_append_right (by omega), hl, e]; rfl, hv⟩
theorem KidX.one {row : Option Nat} {lo : Nat} {w : World} {v : Value} {x : List Ve} (h : KidX row lo w v x) : v.oneCell' = true := by
  obtain ⟨a, c, rfl, _⟩ := h; rfl
/-- The row and its chains, as a store's chains. -/
theorem Kids.row {lo : Nat} {w : World} {v : Value} {vs : List Value} {l : Chs} (ho : w.ownsRow lo 58 1 v l.length vs) (hk : Kids v.ownBlock lo w vs l) : ∃ a c, v = .slice a l.length c ∧ ChRow lo w.heap.size w a l := by
  obtain ⟨hl, ho⟩ := ho
  rcases ho with ⟨rfl, h0⟩ | ⟨g, cap, cur, rfl, h1, h2, h3, h4, h5, h6⟩
  · have : l = [] := List.eq_nil_of_length_eq_zero h0
    subst this
    exact ⟨none, 0, rfl, .inl rfl⟩
  · refine ⟨_, _, rfl, .inr ⟨g, 0, rfl, h1, (Array.getElem?_eq_some_iff.1 h2).1, fun i x hx => ?_⟩⟩
    obtain ⟨u, g1, a3, c3, rfl, q2, q3⟩ := hk i x hx
    have hi := (List.getElem?_eq_some_iff.1 hx).1
    refine ⟨a3, c3, ?_, q2, ?_⟩
    · rw [row_rd h2]
      rw [← h6, List.getElem?_take, if_pos (by omega)] at g1
      simpa using g1
    · rcases q3 with q3 | ⟨b, e1, e2, e3, e4, e5⟩
      · exact .inl q3
      · rw [e1]; exact e5.row e2 e3
theorem KidX.low {row : Option Nat} {lo lo' : Nat} {w : World} {v : Value} {x : List Ve} (h : KidX row lo w v x) (hl : lo' ≤ lo) : KidX row lo' w v x := by
  obtain ⟨a, c, h1, h2, h3⟩ := h
  refine ⟨a, c, h1, h2, ?_⟩
  rcases h3 with h3 | ⟨b, g1, g2, g3, g4, g5⟩
  · exact .inl h3
  · exact .inr ⟨b, g1, by omega, g3, g4, g5⟩
theorem Kids.low {row : Option Nat} {lo lo' : Nat} {w : World} {vs : List Value} {l : Chs} (h : Kids row lo w vs l) (hl : lo' ≤ lo) : Kids row lo' w vs l := fun i x hx => by
  obtain ⟨v, h1, h2⟩ := h i x hx
  exact ⟨v, h1, h2.low hl⟩
theorem own_low {w : World} {base base' size n : Nat} {e : TypeId} {v : Value} {xs : List Value} (h : w.ownsRow base e size v n xs) (hb : base' ≤ base) : w.ownsRow base' e size v n xs := by
  refine ⟨h.1, ?_⟩
  rcases h.2 with h0 | ⟨g, cap, cur, rfl, h1, h2, h3⟩
  · exact .inl h0
  · exact .inr ⟨g, cap, cur, rfl, by omega, h2, h3⟩
theorem own_set {w : World} {base size n : Nat} {e : TypeId} {v : Value} {xs : List Value} (h : w.ownsRow base e size v n xs) {w' : World} (hk : ∀ g, v.ownBlock = some g → w'.heap[g]? = w.heap[g]?) : w'.ownsRow base e size v n xs := by
  refine ⟨h.1, ?_⟩
  rcases h.2 with h0 | ⟨g, cap, cur, rfl, h1, h2, h3⟩
  · exact .inl h0
  · exact .inr ⟨g, cap, cur, rfl, h1, (hk g rfl).trans h2, h3⟩
/-- A row of chains that grows, told by a struct's cell: the struct lies in block b, the row from lo up outside of it, the chains behind it. -/
structure Grow (b : Nat) (now : Int) (w : World) (v : Value) (vs : List Value) (l : Chs) : Prop where
  cell : w.heap[b]? = some (.cells #[v, .int .i64 now] 25 (0, 0))
  own : w.ownsRow (b - 1) 58 1 v l.length vs
  off : v.ownBlock ≠ some b
  kids : Kids v.ownBlock (b + 1) w vs l
theorem Grow.len {b : Nat} {now : Int} {w : World} {v : Value} {vs : List Value} {l : Chs} (h : Grow b now w v vs l) : vs.length = l.length := by have := h.own.1; omega
theorem Grow.below {b : Nat} {now : Int} {w w' : World} {v : Value} {vs : List Value} {l : Chs} (h : Grow b now w v vs l) (hb : Below w.heap.size w w') : Grow b now w' v vs l := by
  have hlt := (Array.getElem?_eq_some_iff.1 h.cell).1
  refine ⟨(hb.block _ hlt).trans h.cell, own_set h.own (fun g hg => ?_), h.off, h.kids.keep hb.size (fun k h1 h2 h3 => ⟨hb.block k h2, h3⟩)⟩
  refine hb.block g ?_
  rcases h.own.2 with ⟨e, _⟩ | ⟨g', cap, cur, e, _, h2, _⟩
  · subst e; cases hg
  · subst e
    simp only [Value.ownBlock, Option.some.injEq] at hg
    subst hg
    exact (Array.getElem?_eq_some_iff.1 h2).1
theorem Grow.row {b : Nat} {now : Int} {w : World} {v : Value} {vs : List Value} {l : Chs} (h : Grow b now w v vs l) : ∃ a c, v = .slice a l.length c ∧ ChRow (b - 1) w.heap.size w a l := Kids.row h.own (h.kids.low (by omega))
end Go.Proofs.Ytoahbfledamnnaa.G
