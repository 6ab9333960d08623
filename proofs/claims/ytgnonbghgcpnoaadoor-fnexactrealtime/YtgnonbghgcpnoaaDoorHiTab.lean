/- What the listed table gives the walks: its block holds the words. -/
import Derived.Test.YtgnonbghgcpnoaaDoorErWords
import Derived.LaidMore
import Derived.Stop.Joined
namespace Go.Proofs.YtgnonbghgcpnoaaDoor.Er
open Go.ChangeShapes Go.WideShapes Go.ChangeAt Go.RowKit
set_option linter.unusedVariables false

theorem own : ownKnob Tryd.prog.godebug = none := by kernel_rfl
theorem laidOut : laidOutB Tryd.prog = true := by kernel_rfl
theorem gWords : Tryd.prog.globalNamed "loop.example/g00540/impl.codeWords" = some 0 := by kernel_rfl
theorem tWords : (Tryd.prog.globals[0]?).map (·.type) = some 92 := by kernel_rfl

/-- An array of strings that reads as a list of texts holds them, cell for cell. -/
theorem strs_of_tab {H : Type} {enc : TypeId × Value → H} {P : Program} {w : World} {base : Nat} {sp : Nat → Bool} {held : Bool} {fuel : Nat} {t e : TypeId} {n : Nat} {cs : List Value} {ls : List (List UInt8)} {p : List MemPlace}
    (ht : P.underlying t = some (.array n e)) (he : P.underlying e = some .string) (hce : P.cellsOf e = 1) (hct : P.cellsOf t = n)
    (h : DataW.trod enc P w base sp held fuel t cs = some (.agg (ls.map fun l => .lit (.string l)), p)) : cs = ls.map fun l => Value.string ⟨l.toArray⟩ := by
  obtain ⟨xs, m, rfl, hx, hlen, hn, hel⟩ := DataW.trod_array ht h
  simp only [Prod.mk.injEq, DataW.agg.injEq] at hx
  have hll : ls.length = n := by have := congrArg List.length hx.1; simp at this; omega
  rw [hct] at hlen
  apply List.ext_getElem?
  intro i
  by_cases hi : i < n
  · have hi1 := hel i hi
    rw [hce, Nat.mul_one, List.getElem?_eq_getElem (by omega)] at hi1
    obtain ⟨s, e1, e2, _⟩ := DataW.trod_string he hi1
    have c1 : cs[i]? = some (.string s) := by
      have := congrArg (fun l : List Value => l[0]?) e1
      simpa [List.getElem?_take, List.getElem?_drop] using this
    have c2 : (ls.map fun l => (DataW.lit (.string l) : DataW H))[i]? = some (.lit (.string s.data.toList)) := by
      rw [hx.1, List.getElem?_map, List.getElem?_eq_getElem (by omega), e2]; rfl
    rw [List.getElem?_map, List.getElem?_eq_getElem (by omega)] at c2
    simp only [Option.map_some, Option.some.injEq, DataW.lit.injEq, Lit.string.injEq] at c2
    rw [c1, List.getElem?_map, List.getElem?_eq_getElem (by omega), Option.map_some, c2]
  · rw [List.getElem?_eq_none (by omega), List.getElem?_eq_none (by simp; omega)]

theorem tab_of_laid {W : World} (h : laidMetH Tryd.prog [("loop.example/g00540/impl.codeWords", Rows.laid_loop_example_g00540_impl_codeWords)] W) : TabH W := by
  rw [MakeChecks.laidMetH_plain _ _ _ (by kernel_rfl)] at h
  obtain ⟨ps, ⟨g0, t0, cs0, f0, p0, q0, hg0, ht0, hv0, hd0, _, _⟩, _, _⟩ := h
  obtain rfl := Option.some.inj (gWords.symm.trans hg0)
  obtain rfl := Option.some.inj (tWords.symm.trans ht0)
  have e : cs0.toList = wordsL.map fun l => Value.string ⟨l.toArray⟩ := strs_of_tab Tryd.underlying92 Tryd.underlying9 (by kernel_rfl) (by kernel_rfl) hd0
  have e2 : cs0 = wordsV := by unfold wordsV; rw [← e]
  subst e2
  simp only [World.var?, gWords, Option.bind_some] at hv0
  split at hv0
  · rename_i cs t fr hh
    simp only [Option.some.injEq] at hv0
    subst hv0
    exact ⟨t, fr, hh⟩
  · cases hv0

theorem door_met (os : Os) (args : Array Value) : laidMetH Tryd.prog [("loop.example/g00540/impl.codeWords", Rows.laid_loop_example_g00540_impl_codeWords)] ((World.doorLaid Tryd.prog 400 os).forCall (fun _ _ => 0) ⟨#[], args, []⟩).memory :=
  laidMetH_of_parts3 (fuel := 8) (laidMet_of_run' 8 (by kernel_rfl) (by kernel_rfl)) (by kernel_rfl) (by kernel_rfl)
end Go.Proofs.YtgnonbghgcpnoaaDoor.Er
