/- The program's Forget: a chain cut and copied, all chains, the whole. -/
import Derived.Test.YtljnhecdelimfaaStFgMath
import Derived.Test.YtljnhecdelimfaaStCopy
namespace Go.Proofs.Ytljnhecdelimfaa.G
open Go.ChangeShapes Go.WideShapes Go.ChangeAt Go.RowKit
set_option linter.unusedVariables false

theorem VeRow.drop {lo hi : Nat} {w : World} {b o : Nat} {l : List Ve} (h : VeRow lo hi w (some ⟨b, o, none⟩) l) (k : Nat) : VeRow lo hi w (some ⟨b, o + k * 2, none⟩) (l.drop k) := by
  rcases h with rfl | ⟨b', o', e, h1, h2, h3⟩
  · exact .inl (by simp)
  · simp only [Option.some.injEq, Addr.mk.injEq, and_true] at e
    obtain ⟨rfl, rfl⟩ := e
    refine .inr ⟨b, _, rfl, h1, h2, fun i x hx => ?_⟩
    have := h3 (k + i) x (by simpa [List.getElem?_drop] using hx)
    rwa [show o + (k + i) * 2 = o + k * 2 + i * 2 by omega] at this
end Go.Proofs.Ytljnhecdelimfaa.G
