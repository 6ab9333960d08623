/- The plain schema is small. -/
import Derived.Test.YtkjndghkimnjeaaGreatPlainSpec
namespace Go.Proofs.YtkjndghkimnjeaaGreat.G
set_option linter.unusedVariables false
theorem PL_bd : TdsBd 1048576 PL := by
  show PL.length ≤ 1048576 ∧ ∀ x ∈ PL, x.nm.size ≤ 1048576 ∧ x.fs.length ≤ 1048576 ∧ ∀ f ∈ x.fs, f.nm.size ≤ 1048576 ∧ (f.args.length ≤ 1048576 ∧ ∀ g ∈ f.args, g.nm.size ≤ 1048576) ∧ f.ty.size ≤ 1048576
  decide
end Go.Proofs.YtkjndghkimnjeaaGreat.G
