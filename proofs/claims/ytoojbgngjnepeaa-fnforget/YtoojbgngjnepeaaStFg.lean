/- The program's Forget: a chain cut and copied, all chains, the whole. -/
import Derived.Test.YtoojbgngjnepeaaStFgMath
import Derived.Test.YtoojbgngjnepeaaStCopy
namespace Go.Proofs.Ytoojbgngjnepeaa.G
open Go.ChangeShapes Go.WideShapes Go.ChangeAt Go.RowKit
set_option linter.unusedVariables false

theorem VeRow.drop {lo hi : Nat} {w : World} {b o : Nat} {l : List Ve} (h : VeRow lo hi w (some ⟨b, o, none⟩) l) (k : Nat) : VeRow lo hi w (some ⟨b, o + k * 2, none⟩) (l.drop k) := by
  rcases h with rfl | ⟨b', o', e, h1, h2, h3⟩
  · exact .inl (by simp)
  · simp only [Option.some.injEq, Addr.mk.injEq, and_true] at e
    obtain ⟨rfl, rfl⟩ := e
    refine .inr ⟨b, _, rfl, h1, h2, fun i x hx => ?_⟩
    have := h3 (k + i) x (by simpa [List.getElem?_drop] using hx)
    rwa [show o + (k + i) * 2 = o + k * 2 + i * 2 by omega] at this
set_option maxHeartbeats 2000000 in
theorem fg_closure (B : Nat) (low : Int) (a : Option Addr) (c : Nat) (l : List Ve) (w : World) (hc : w.cell? ⟨B, 0, none⟩ = some (.int .i64 low)) (hr : VeRow 0 w.heap.size w a l) (hl : l.length ≤ 1048576) (hcap : l.length ≤ c) (hrise : Rise l) :
    Calls Try.prog 17 #[.slice a l.length c, .pointer (some ⟨B, 0, none⟩)] w fun e w' => ∃ N, e = .returned (.slice (some ⟨N, 0, none⟩) (fgC low l).length (fgC low l).length) ∧ w.heap.size ≤ N ∧ VeBlk w' N (fgC low l) ∧ Below w.heap.size w w' := by
  have HR : Hid (VeRow 0 w.heap.size w a l) := hr
  have HS : Hid _ := hrise
  clear hr hrise
  go_enter Try.func17, Try.ntmps17
  go_wp2_with fail
  refine (count_upTo a c l low _ HR.out hl HS.out).mono ?_
  rintro e w1 ⟨n, rfl, hn, hb1⟩
  have e1 : n = upN low l := hn.one (upTo_upN HS.out low)
  have hn1 := hn.1
  obtain ⟨k, hk⟩ : ∃ k, k = n - 1 := ⟨_, rfl⟩
  have HF : Hid (fgC low l = l.drop k) := by rw [Hid, fgC, goN, ← e1, hk]
  have hmax : max ((n : Int) - 1) 0 = k := by omega
  have hk1 : k ≤ l.length := by omega
  have Q : Hid (Below w.heap.size w w1) := hb1
  have R1 : Hid (VeRow 0 w1.heap.size w1 a l) := VeRow.up HR.out hb1
  clear e1 hn hb1 hc
  have hz1 := Q.out.size
  have fin : ∀ (W : World) (N : Nat), w1.heap.size ≤ N → VeBlk W N (l.drop k) → Below w1.heap.size w1 W → (w.heap.size ≤ N ∧ VeBlk W N (fgC low l) ∧ Below w.heap.size w W) := fun W N h1 h2 h3 =>
    ⟨by omega, by rw [HF.out]; exact h2, Q.out.trans (h3.mono (by omega))⟩
  have FIN : Hid _ := fin
  have HL : Hid ((fgC low l).length = l.length - k) := by rw [Hid, HF.out]; simp
  clear fin
  by_cases h2 : 2 ≤ n
  · have hne : l ≠ [] := fun e => by subst e; simp at hn1; omega
    obtain ⟨b, o, ha⟩ : ∃ b o, a = some ⟨b, o, none⟩ := by
      rcases HR.out with h | ⟨b, o, e, _⟩
      · exact absurd h hne
      · exact ⟨b, o, e⟩
    subst ha
    have R2 : Hid _ := VeRow.drop R1.out k
    have hlen : l.length - k = (l.drop k).length := by simp
    have hlk : (l.drop k).length ≤ 1048576 := by simp; omega
    have HX : Hid _ := hlen
    obtain rfl : n = k + 1 := by omega
    have m4 : ¬ k = c := by omega
    have m5 : ((k + 1 : Nat) : Int) - 1 = k := by omega
    have m6 : (0 : Int) < k := by omega
    clear hmax hne hlen hk
    go_wp2_with fail
    rw [HX.out]
    refine (copy_chain _ _ (l.drop k) _ R2.out hlk).mono ?_
    rintro e w2 ⟨rfl, v2, b2⟩
    have G : Hid _ := FIN.out w2 w1.heap.size (Nat.le_refl _) v2 b2
    clear v2 b2
    go_wp2_with fail
    go_ret
    exact ⟨w1.heap.size, by rw [HL.out]; rfl, G.out⟩
  · obtain rfl : k = 0 := by omega
    rw [Nat.sub_zero] at HL
    rw [List.drop_zero] at FIN
    have hn2 : n = 0 ∨ n = 1 := by omega
    clear hk hmax h2 hn1
    rcases hn2 with rfl | rfl
    all_goals
      go_wp2_with fail
      all_goals
        refine (copy_chain _ _ l _ R1.out hl).mono ?_
        rintro e w2 ⟨rfl, v2, b2⟩
        have G : Hid _ := FIN.out w2 w1.heap.size (Nat.le_refl _) v2 b2
        clear v2 b2
        go_wp2_with fail
        go_ret
        exact ⟨w1.heap.size, by rw [HL.out]; rfl, G.out⟩
end Go.Proofs.Ytoojbgngjnepeaa.G
