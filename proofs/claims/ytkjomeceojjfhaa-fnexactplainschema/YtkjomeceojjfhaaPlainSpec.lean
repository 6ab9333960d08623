/- The specification's plain schema. -/
import Derived.Test.YtkjomeceojjfhaaPlainImpl
namespace Go.Proofs.Ytkjomeceojjfhaa.G
open Go.ChangeShapes Go.WideShapes Go.ChangeAt Go.RowKit
set_option linter.unusedVariables false

theorem row_of {W : World} {a : Option Addr} {l : List Td} (h : ∃ bs, TdOwn W a l bs ∧ ∀ g ∈ bs, g < W.heap.size) : TdRow 0 W.heap.size W a l := by
  obtain ⟨bs, h1, h2⟩ := h
  exact h1.row (fun g hg => ⟨Nat.zero_le _, h2 g hg⟩)

set_option maxHeartbeats 4000000 in
set_option maxRecDepth 40000 in
theorem spec_plain (w : World) :
    Calls Try.prog 4 #[] w fun e w' => ∃ a c, e = .returned (.agg #[.slice a 3 c]) ∧ TdRow 0 w'.heap.size w' a PL ∧ Below w.heap.size w w' := by
  go_enter Try.func4, Try.ntmps4
  go_wp2_with fail
  refine bodyPost_ret (v := .agg #[.slice (some ⟨w.heap.size + 17, 0, none⟩) 3 3]) ?res rfl ⟨_, _, rfl, ?_, ?_⟩
  case res => simp [results, Try.results4, go_sem]
  · refine row_of ⟨_, TdOwn.lay PL [(some ⟨w.heap.size + 6, 0, none⟩, 4), (some ⟨w.heap.size + 10, 0, none⟩, 3), (some ⟨w.heap.size + 16, 0, none⟩, 5)] [(w.heap.size + 6) :: [[w.heap.size + 2], [w.heap.size + 3], [], []].flatten, (w.heap.size + 10) :: [[w.heap.size + 7], [w.heap.size + 8], [w.heap.size + 9]].flatten, (w.heap.size + 16) :: [[], [], [w.heap.size + 13], [], []].flatten] ?_
      ⟨FdOwn.lay qFs [(some ⟨w.heap.size + 2, 0, none⟩, 1), (some ⟨w.heap.size + 3, 0, none⟩, 1), (some ⟨w.heap.size + 4, 0, none⟩, 0), (some ⟨w.heap.size + 5, 0, none⟩, 0)] [[w.heap.size + 2], [w.heap.size + 3], [], []] ?_ ⟨AgOwn.lay _ ?_, AgOwn.lay _ ?_, AgOwn.lay0 _ _, AgOwn.lay0 _ _, trivial⟩,
       FdOwn.lay mFs [(some ⟨w.heap.size + 7, 0, none⟩, 2), (some ⟨w.heap.size + 8, 0, none⟩, 2), (some ⟨w.heap.size + 9, 0, none⟩, 2)] [[w.heap.size + 7], [w.heap.size + 8], [w.heap.size + 9]] ?_ ⟨AgOwn.lay _ ?_, AgOwn.lay _ ?_, AgOwn.lay _ ?_, trivial⟩,
       FdOwn.lay nFs [(some ⟨w.heap.size + 11, 0, none⟩, 0), (some ⟨w.heap.size + 12, 0, none⟩, 0), (some ⟨w.heap.size + 13, 0, none⟩, 1), (some ⟨w.heap.size + 14, 0, none⟩, 0), (some ⟨w.heap.size + 15, 0, none⟩, 0)] [[], [], [w.heap.size + 13], [], []] ?_ ⟨AgOwn.lay0 _ _, AgOwn.lay0 _ _, AgOwn.lay _ ?_, AgOwn.lay0 _ _, AgOwn.lay0 _ _, trivial⟩, trivial⟩, ?bd⟩
    case bd =>
      intro g hg
      simp only [List.flatten_cons, List.flatten_nil, List.append_nil, List.cons_append, List.nil_append, List.mem_cons, List.not_mem_nil, or_false] at hg
      simp only [World.size_alloc]
      omega
    all_goals (repeat (first | refine (Below.heap_alloc _ _ _ (by simp only [World.size_alloc]; omega)).trans ?_ | exact heap_at _ _ _ (by simp only [World.size_alloc])))
  · repeat (first | exact Below.refl _ _ | refine Below.setCell ?_ (by first | omega | (simp <;> omega)) _ | refine Below.alloc ?_ (by first | omega | (simp <;> omega)) _)
end Go.Proofs.Ytkjomeceojjfhaa.G
