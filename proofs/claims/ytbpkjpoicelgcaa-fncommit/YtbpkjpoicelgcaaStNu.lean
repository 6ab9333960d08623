/- Rows of numbers: what the law counts and copies of them. -/
import Derived.Test.YtbpkjpoicelgcaaStKeys
namespace Go.Proofs.Ytbpkjpoicelgcaa.G
open Go.ChangeShapes Go.WideShapes Go.ChangeAt Go.RowKit
set_option linter.unusedVariables false

section
variable {H : Type} {enc : TypeId × Value → H} {W : World}
theorem Nus_open {fuel : Nat} {cs : List Value} {x : DataW H × List MemPlace} (h : DataW.trod enc Try.prog W 0 (fun _ => true) true fuel 27 cs = some x) :
    ∃ a c, ∃ l : List Int, cs = [.slice a l.length c] ∧ l.length ≤ maxLen ∧ NuRow 0 W.heap.size W a l := by
  have ci : Try.prog.cellsOf 3 = 1 := by kernel_rfl
  obtain ⟨a, len, cap, rfl, hm, hr⟩ := sl_open Try.underlying27 (z := 1) (by kernel_rfl) (by omega) h
  rcases hr with rfl | ⟨n, b, o, rfl, rfl, hb, hx⟩
  · exact ⟨a, cap, [], rfl, Nat.zero_le _, .inl rfl⟩
  · obtain ⟨l, hl, hp⟩ := list_of (p := fun i x => NuAt (rdOf W b) (o + i * 1) x) (fun i hi => by
      obtain ⟨cs', y, hcl, hc, hd⟩ := hx i hi
      obtain ⟨g0, e0, _, _⟩ := DataW.trod_int Try.underlying3 hd
      subst e0
      exact ⟨g0, hc 0 (by omega)⟩)
    subst hl
    exact ⟨_, cap, l, rfl, hm, .inr ⟨b, o, rfl, Nat.zero_le _, hb, fun i x hx => hp i x hx⟩⟩
end
end Go.Proofs.Ytbpkjpoicelgcaa.G
