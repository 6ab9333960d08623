/- What is forgotten nobody can read from the hour on. -/
import Derived.Test.YtoojbgngjnepeaaStStoreMath
import Derived.Test.YtoojbgngjnepeaaStSame
import Derived.Test.YtoojbgngjnepeaaStRead
namespace Go.Proofs.Ytoojbgngjnepeaa.G
set_option linter.unusedVariables false

theorem upN_mono {x : List Ve} (h : Rise x) {low ts : Int} (hl : low ≤ ts) : upN low x ≤ upN ts x := by
  have h1 := upTo_upN h low
  have h2 := upTo_upN h ts
  by_cases e : upN ts x < upN low x
  · have a := h1.2.1 _ e
    have b := h2.2.2 _ (Nat.le_refl _) (by have := h1.1; omega)
    omega
  · omega
theorem readV_fg {x : List Ve} (h : Rise x) {low ts : Int} (hl : low ≤ ts) : readV (fgC low x) ts = readV x ts := by
  have hu := upTo_upN h ts
  have hm := upN_mono h hl
  have hg : goN low x ≤ upN ts x := by unfold goN; omega
  have hd : UpTo (fgC low x) ts (upN ts x - goN low x) := by
    refine ⟨by rw [fgC_len]; have := hu.1; omega, fun i hi => ?_, fun i h1 h2 => ?_⟩
    · unfold fgC; rw [tsAt_drop]; exact hu.2.1 _ (by omega)
    · unfold fgC; rw [tsAt_drop]; rw [fgC_len] at h2; exact hu.2.2 _ (by omega) (by omega)
  rw [readV_upto hd, readV_upto hu]
  by_cases h0 : upN ts x = 0
  · rw [if_pos h0, if_pos (by omega)]
  · have hlt : goN low x < upN ts x := by unfold goN; omega
    rw [if_neg h0, if_neg (by omega)]
    unfold fgC
    rw [vAt_drop]
    congr 1; omega
theorem second_fg {x : List Ve} (h : Rise x) {low : Int} (h1 : 1 < (fgC low x).length) : low < tsAt (fgC low x) 1 := by
  have hu := upTo_upN h low
  rw [fgC_len] at h1
  unfold fgC
  rw [tsAt_drop]
  exact hu.2.2 _ (by unfold goN; omega) (by omega)
theorem vals_fg {l : Chs} {now low : Int} (h : storeB l now = true) (hl : low ≤ now) : vals l now = vals (fgS low l) now := by
  unfold vals fgS
  rw [List.map_map]
  refine List.map_congr_left fun x hx => ?_
  obtain ⟨i, hi, rfl⟩ := List.getElem_of_mem hx
  exact (readV_fg (store_rise h hi) hl).symm
theorem same_fg {l : Chs} {now low : Int} (h : storeB l now = true) (hl : low ≤ now) : sameR l now (fgS low l) now = true ∧ sameC l now (fgS low l) now = 0 := by
  have hb : bothB l now (fgS low l) now = true := by simp [bothB, h, storeB_fg low h]
  exact ⟨by simp [sameR, hb, ← vals_fg h hl], by simp [sameC, hb]⟩
theorem hour_ok {l : Chs} {now ts : Int} (h : storeB l now = true) (h0 : 0 ≤ ts) (h1 : ts ≤ now) : hourN l now ts = 0 := by simp [hourN, h, inB, h0, h1]
theorem ask_ok {l : Chs} {now ts : Int} {k : Nat} (h : storeB l now = true) (h0 : 0 ≤ ts) (h1 : ts ≤ now) (hk : k < 16) : askN l now k ts = 0 := by
  have : keyB k = true := by simp [keyB]; omega
  simp [askN, hour_ok h h0 h1, this]
theorem read_fg {l : Chs} {now low ts : Int} {k : Nat} (h : storeB l now = true) (hl : low ≤ ts) (h0 : 0 ≤ ts) (h1 : ts ≤ now) (hk : k < 16) : readR (fgS low l) now k ts = readR l now k ts := by
  have h16 := (storeB_all h).1
  have e : chAt (fgS low l) k = fgC low l[k] := by simp [chAt, fgS, h16, hk]
  simp only [readR, ask_ok h h0 h1 hk, ask_ok (storeB_fg low h) h0 h1 hk, if_true, Int.toNat_natCast]
  rw [e, chAt_eq (by omega)]
  exact readV_fg (store_rise h (by omega)) hl
theorem size_ok {l : Chs} {now : Int} (h : storeB l now = true) : sizeR l now = sizeN l ∧ badN l now = 0 := by simp [sizeR, badN, h]
end Go.Proofs.Ytoojbgngjnepeaa.G
