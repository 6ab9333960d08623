/- What the listed variables give the walks. -/
import Derived.Test.YtnfoinmccigdfaaGreatDoorSsImpl
import Derived.Test.YtnfoinmccigdfaaGreatDoorSchEq
import Derived.Test.YtnfoinmccigdfaaGreatDoorSchMark
import Derived.LaidMore
import Derived.Stop.Joined
import Derived.Stop.LaidErr
namespace Go.Proofs.YtnfoinmccigdfaaGreatDoor
open Go.ChangeShapes Go.WideShapes Go.ChangeAt Go.RowKit
set_option linter.unusedVariables false

theorem own : ownKnob Tryz.prog.godebug = none := by kernel_rfl
theorem laidOut : laidOutB Tryz.prog = true := by kernel_rfl
theorem nPow : Tryz.prog.globalNamed "internal/strconv.uint64pow10" = some 2 := by kernel_rfl
theorem nRan : Tryz.prog.globalNamed "strconv.ErrRange" = some 1 := by kernel_rfl
theorem nSyn : Tryz.prog.globalNamed "strconv.ErrSyntax" = some 0 := by kernel_rfl
theorem tPow : (Tryz.prog.globals[2]?).map (·.type) = some 140 := by kernel_rfl
theorem tRan : (Tryz.prog.globals[1]?).map (·.type) = some 106 := by kernel_rfl
theorem tSyn : (Tryz.prog.globals[0]?).map (·.type) = some 106 := by kernel_rfl
theorem starErr : "*" ++ "errors.errorString" = "*errors.errorString" := by decide
theorem rowErr (u : TypeId) (h : Tryz.prog.typeName? 3 u = some "*errors.errorString") : u = 135 :=
  typeName_ptr_named (nm := "errors.errorString") (by rw [starErr]; kernel_rfl) (by kernel_rfl) (by decide) u (by rw [starErr]; exact h)
theorem vars_of_laid {W : World} (h : laidMetH Tryz.prog [("math/bits.deBruijn32tab", Rows.laid_math_bits_deBruijn32tab), ("math/bits.deBruijn64tab", Rows.laid_math_bits_deBruijn64tab), ("internal/strconv.uint64pow10", Rows.laid_internal_strconv_uint64pow10), ("strconv.ErrRange", Rows.laid_strconv_ErrRange), ("strconv.ErrSyntax", Rows.laid_strconv_ErrSyntax)] W) : Vars W := by
  rw [MakeChecks.laidMetH_plain _ _ _ (by kernel_rfl)] at h
  refine ⟨Lib.tabIs_of_head nPow tPow Tryz.underlying140 Tryz.underlying122 (by kernel_rfl) (by kernel_rfl) h.tail.tail, ?_, ?_⟩
  · obtain ⟨a, s, hv, _⟩ := laid_sentinel h.tail.tail.tail.tail nSyn tSyn Tryz.underlying106 rowErr Tryz.underlying135 Tryz.underlying137 rfl rfl Tryz.underlying9 (by kernel_rfl) (by kernel_rfl)
    exact ⟨_, _, hv⟩
  · obtain ⟨a, s, hv, _⟩ := laid_sentinel h.tail.tail.tail nRan tRan Tryz.underlying106 rowErr Tryz.underlying135 Tryz.underlying137 rfl rfl Tryz.underlying9 (by kernel_rfl) (by kernel_rfl)
    exact ⟨_, _, hv⟩
theorem door_met (os : Os) (args : Array Value) : laidMetH Tryz.prog [("math/bits.deBruijn32tab", Rows.laid_math_bits_deBruijn32tab), ("math/bits.deBruijn64tab", Rows.laid_math_bits_deBruijn64tab), ("internal/strconv.uint64pow10", Rows.laid_internal_strconv_uint64pow10), ("strconv.ErrRange", Rows.laid_strconv_ErrRange), ("strconv.ErrSyntax", Rows.laid_strconv_ErrSyntax)] ((World.doorLaid Tryz.prog 400 os).forCall (fun _ _ => 0) ⟨#[], args, []⟩).memory :=
  laidMetH_of_parts3 (fuel := 8) (laidMet_of_run' 8 (by kernel_rfl) (by kernel_rfl)) (by kernel_rfl) (by kernel_rfl)
theorem PaR.bd {s : ByteArray} {tds : List G.Td} {code : Int} (h : PaR (lexB s) tds code) : G.TdsBd 1048576 tds := by
  obtain ⟨l, cd, hl⟩ : ∃ l cd, lexB s = (l, cd) := ⟨_, _, rfl⟩
  rw [hl] at h
  have hx := lexB_ok hl
  have e : G.TdsBd 1048576 [] := ⟨Nat.zero_le _, fun x hx => by simp at hx⟩
  rcases h with ⟨_, rfl, _⟩ | ⟨_, ⟨_, rfl, _⟩ | ⟨xs, k, hm, ⟨_, rfl, _⟩ | ⟨_, rfl, _⟩⟩⟩
  · exact e
  · exact e
  · exact e
  · exact sch_bd (m := 1048576) (fun t ht => by have := hx.2.1 t ht; omega) (by have := hx.2.2; show l.length ≤ 1048576; omega) hm
theorem cnt_le_mul {α : Type} (c : α → Nat) (K : Nat) : ∀ l : List α, (∀ x ∈ l, c x ≤ K) → G.cnt c l ≤ l.length * K
  | [], _ => by simp [G.cnt]
  | x :: l, h => by
    have h1 := h x (List.mem_cons_self ..)
    have h2 := cnt_le_mul c K l (fun y hy => h y (List.mem_cons_of_mem _ hy))
    simp only [G.cnt, List.length_cons, Nat.succ_mul]
    omega
theorem cnt_sch {l : List G.Td} (h : G.TdsBd 1048576 l) : G.cnt G.cTd l ≤ 2305847407261253632 := by
  have hA : ∀ ags : List G.Ag, G.AgsBd 1048576 ags → G.cnt G.cAg ags ≤ 2097152 := fun ags ha => by
    have h1 := cnt_le_mul G.cAg 2 ags (fun x _ => Nat.le_refl _)
    have := ha.1
    omega
  have hF : ∀ fs : List G.Fd, G.FdsBd 1048576 fs → G.cnt G.cFd fs ≤ 1048576 * 2097156 := fun fs hf => by
    refine Nat.le_trans (cnt_le_mul G.cFd 2097156 fs (fun x hx => ?_)) (Nat.mul_le_mul_right _ hf.1)
    have := hA x.args (hf.2 x hx).2.1
    unfold G.cFd; omega
  refine Nat.le_trans (cnt_le_mul G.cTd (1 + 1048576 * 2097156) l (fun x hx => ?_)) (Nat.le_trans (Nat.mul_le_mul_right _ h.1) (by decide))
  have := hF x.fs (h.2 x hx).2
  unfold G.cTd; omega
end Go.Proofs.YtnfoinmccigdfaaGreatDoor
