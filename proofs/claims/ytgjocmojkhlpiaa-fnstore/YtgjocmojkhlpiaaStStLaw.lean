/- What is written is read from its hour on, in the law's own terms. -/
import Derived.Test.YtgjocmojkhlpiaaStWrLaw
import Derived.Test.YtgjocmojkhlpiaaStSame
import Derived.Test.YtgjocmojkhlpiaaStWaBoth
namespace Go.Proofs.Ytgjocmojkhlpiaa.G
set_option linter.unusedVariables false

/-- A store behind some writes, or behind none. -/
def StIs (l : Chs) (now : Int) (ps : List Ve) (m : Chs) (nr : Int) : Prop := (ps.length = 0 ∧ m = l ∧ nr = now) ∨ (0 < ps.length ∧ m = wrAll (now + 1) l ps ∧ nr = now + 1)
theorem stIs (l : Chs) (now : Int) (ps : List Ve) : ∃ m nr, StIs l now ps m nr := by
  by_cases h : ps.length = 0
  · exact ⟨_, _, .inl ⟨h, rfl, rfl⟩⟩
  · exact ⟨_, _, .inr ⟨by omega, rfl, rfl⟩⟩
theorem hour_ok2 {l : Chs} {now ts : Int} (h : storeB l now = true) (h0 : 0 ≤ ts) (h1 : ts ≤ now) : hourN l now ts = 0 := by simp [hourN, h, inB, h0, h1]
theorem ask_ok2 {l : Chs} {now ts : Int} {k : Nat} (h : storeB l now = true) (h0 : 0 ≤ ts) (h1 : ts ≤ now) (hk : k < 16) : askN l now k ts = 0 := by
  have h3 : keyB (k : Int) = true := (keyB_iff _).2 ⟨by omega, by omega⟩
  rw [askN, if_pos (hour_ok2 h h0 h1), if_pos h3]
theorem StIs.wa {l : Chs} {now : Int} {ps : List Ve} {m : Chs} {nr : Int} (h : StIs l now ps m nr) (hs : storeB l now = true) (hp : putsB ps = true) (hn : now ≠ 100000) : WaIs l now ps m nr nr 0 := by
  have h4 := (putsB_all hp).1
  rcases h with ⟨h0, rfl, rfl⟩ | ⟨h0, rfl, rfl⟩
  · exact .inr (.inr (.inr (.inr (.inl ⟨h0, hs, hp, hn, rfl, rfl, rfl, rfl⟩))))
  · exact .inr (.inr (.inr (.inr (.inr ⟨h0, by omega, hs, hp, hn, rfl, rfl, rfl, rfl⟩))))
theorem StIs.ok {l : Chs} {now : Int} {ps : List Ve} {m : Chs} {nr : Int} (h : StIs l now ps m nr) (hs : storeB l now = true) (hp : putsB ps = true) (hn : now + 1 ≤ 100000) : storeB m nr = true := by
  rcases h with ⟨h0, rfl, rfl⟩ | ⟨h0, rfl, rfl⟩
  · exact hs
  · exact storeB_wr hs hn (putsB_all hp).2
theorem StIs.hour {l : Chs} {now : Int} {ps : List Ve} {m : Chs} {nr : Int} (h : StIs l now ps m nr) : now ≤ nr ∧ nr ≤ now + 1 := by
  rcases h with ⟨h0, rfl, rfl⟩ | ⟨h0, rfl, rfl⟩ <;> omega
theorem StIs.at_ {l : Chs} {now : Int} {ps : List Ve} {m : Chs} {nr : Int} (h : StIs l now ps m nr) (hs : storeB l now = true) (hp : putsB ps = true) {k : Nat} (hk : k < 16) : chAt m k = chAt l k ++ newV (now + 1) (lastW k ps) := by
  obtain ⟨h16, _, _, hc⟩ := storeB_all hs
  rcases h with ⟨h0, rfl, rfl⟩ | ⟨h0, rfl, rfl⟩
  · have : ps = [] := List.eq_nil_of_length_eq_zero h0
    subst this
    simp [lastW, newV]
  · have hkl : k < l.length := by omega
    rw [wrAll_at ps hkl (fun i hi => by have := (chain_pos (chainsB_at hc hkl) i hi).2; omega) (fun p hp' => (putB_key ((putsB_all hp).2 p hp')).1), chAt_eq hkl]
theorem StIs.now_ {l : Chs} {now : Int} {ps : List Ve} {m : Chs} {nr : Int} (h : StIs l now ps m nr) (hs : storeB l now = true) (hp : putsB ps = true) (hn : now + 1 ≤ 100000) {k : Nat} (hk : k < 16) : readR m nr k nr = (lastW k ps).getD (readR l now k now) := by
  obtain ⟨h16, h0, _, hc⟩ := storeB_all hs
  have hh := h.hour
  have e1 := ask_ok2 (k := k) (h.ok hs hp hn) (show 0 ≤ nr by omega) (Int.le_refl _) hk
  have e2 := ask_ok2 (k := k) hs h0 (Int.le_refl _) hk
  have hkl : k < l.length := by omega
  have hch := chainsB_at hc hkl
  rw [readR, if_pos e1, readR, if_pos e2, Int.toNat_natCast, h.at_ hs hp hk, chAt_eq hkl]
  cases ho : lastW k ps with
  | none =>
    simp only [newV, List.append_nil, Option.getD_none]
    exact readV_later hch hh.1
  | some v =>
    have : nr = now + 1 := by
      rcases h with ⟨h0, _, _⟩ | ⟨_, _, e⟩
      · have : ps = [] := List.eq_nil_of_length_eq_zero h0
        subst this
        simp [lastW] at ho
      · exact e
    rw [this, readV_now]
    rfl
theorem StIs.old {l : Chs} {now : Int} {ps : List Ve} {m : Chs} {nr : Int} (h : StIs l now ps m nr) (hs : storeB l now = true) (hp : putsB ps = true) (hn : now + 1 ≤ 100000) {k : Nat} (hk : k < 16) : readR m nr k now = readR l now k now := by
  obtain ⟨h16, h0, _, hc⟩ := storeB_all hs
  have hh := h.hour
  have e1 := ask_ok2 (k := k) (h.ok hs hp hn) h0 hh.1 hk
  have e2 := ask_ok2 (k := k) hs h0 (Int.le_refl _) hk
  rw [readR, if_pos e1, readR, if_pos e2, Int.toNat_natCast, h.at_ hs hp hk]
  exact readV_new (by omega) _
theorem StIs.chg {l : Chs} {now : Int} {ps : List Ve} {m : Chs} {nr : Int} (h : StIs l now ps m nr) (hs : storeB l now = true) (hp : putsB ps = true) (hn : now + 1 ≤ 100000) {k : Nat} (hk : k < 16) : chgR m nr k now = (lastW k ps).isSome := by
  obtain ⟨h16, h0, _, hc⟩ := storeB_all hs
  have hh := h.hour
  have e1 := ask_ok2 (k := k) (h.ok hs hp hn) h0 hh.1 hk
  have hkl : k < l.length := by omega
  rw [chgR, if_pos e1, Int.toNat_natCast, h.at_ hs hp hk, chAt_eq hkl]
  exact chgB_new (chainsB_at hc hkl) _
theorem lastW_take {k : Int} {ps : List Ve} {i : Nat} (hi : i < ps.length) : lastW k (ps.take (i + 1)) = if ps[i].ts = k then some ps[i].v else lastW k (ps.take i) := by
  unfold lastW; rw [List.take_succ_eq_append_getElem hi, List.foldl_append]; rfl
theorem same_self {l : Chs} {now : Int} (h : storeB l now = true) : sameR l now l now = true ∧ sameC l now l now = 0 := by simp [sameR, sameC, bothB, h]
end Go.Proofs.Ytgjocmojkhlpiaa.G
