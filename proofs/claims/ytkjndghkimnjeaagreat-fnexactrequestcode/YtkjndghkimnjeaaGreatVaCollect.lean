/- slices.AppendSeq, slices.Collect of arguments. -/
import Derived.Test.YtkjndghkimnjeaaGreatVaSeq
import Derived.Test.YtkjndghkimnjeaaGreatVaLim
import Derived.Maps.AppendAt
namespace Go.Proofs.YtkjndghkimnjeaaGreat
open Go.ChangeShapes Go.WideShapes Go.ChangeAt Go.RowKit Go.Maps Go.Shelf
set_option linter.unusedVariables false
attribute [local go_sem] Oper.semAt_some

def arC (x : Ar) : List Value := [.string x.nm, .int .i64 x.v.k, .int .i64 x.v.n, .string x.v.t]
def Box4 (W : World) (B : Nat) (x : Ar) : Prop := W.heap[B]? = some (.cells #[.string x.nm, .int .i64 x.v.k, .int .i64 x.v.n, .string x.v.t] 134 (0, 0))
theorem info_arV : ∃ i, Tryz.prog.info? 134 = some i ∧ i.zero = some (.agg #[.string ⟨#[]⟩, .int .i64 0, .int .i64 0, .string ⟨#[]⟩]) ∧ i.size = 4 ∧ i.bytes = 48 := by
  have h : (Tryz.prog.info? 134).map (fun i => (i.zero, i.size, i.bytes)) = some (some (.agg #[.string ⟨#[]⟩, .int .i64 0, .int .i64 0, .string ⟨#[]⟩]), 4, 48) := by kernel_rfl
  exact info_parts h
theorem cell_four_new (w : World) (x : Ar) : ∀ j u, (arC x)[j]? = some u → (w.alloc (.cells #[.string x.nm, .int .i64 x.v.k, .int .i64 x.v.n, .string x.v.t] 134)).cell? ((⟨w.heap.size, 0, none⟩ : Addr).add j) = some u := by
  intro j u hj
  have := row_cell (heap_alloc_new w (.cells #[.string x.nm, .int .i64 x.v.k, .int .i64 x.v.n, .string x.v.t] 134)) j
  rw [Addr.add_lit, Nat.zero_add, this]
  unfold arC at hj
  simpa using hj
set_option maxRecDepth 100000 in
set_option maxHeartbeats 4000000 in
theorem append_seq (F : Fence) (n : Nat) (h3 : F.fn 169) (h7 : F.fn 165) (hro : F.round = none) (hn : 3 ≤ n) (Bs : Nat) (a : Option Addr) (cap : Nat) (zs : List Ar) (hz : zs.length ≤ 1048576) (w : World) (hBs : Bs < w.heap.size) (hcs : w.cell? ⟨Bs, 0, none⟩ = some (.slice a zs.length cap)) (hI : ArRow 0 w.heap.size w a zs) :
    CallsIn F n Tryz.prog 169 #[.slice none 0 0, .func (.func 165) #[] #[.pointer (some ⟨Bs, 0, none⟩)]] w fun e W' => ∃ v, e = .returned v ∧ W'.ownsRow w.heap.size 134 4 v zs.length (zs.flatMap arC) ∧ (v = .slice none 0 0 ↔ zs = []) ∧ Below w.heap.size w W' := by
  have h1 : 1 ≤ n := by omega
  obtain ⟨i0, hi, hz0, hz1, hz2⟩ := info_arV
  refine callsIn_of_wp_marks Tryz.func169 rfl h3 ?_ hro
  simp only [Tryz.ntmps169, List.size_toArray, List.length_cons, List.length_nil, Nat.reduceAdd, Nat.reduceSub, Array.replicate_succ, Array.replicate_zero, List.push_toArray, List.append_toArray, List.nil_append, List.cons_append]
  gi_wp2
  have bO := Boxed.new w 112 (.slice none 0 0)
  have hB0 : Below w.heap.size w (w.alloc (.cells #[.slice none 0 0] 112)) := (Below.refl _ w).alloc (Nat.le_refl _) _
  refine wpIn_rangeFunc_ownH hro h1 (gf := 165) (lb := #[.pointer (some ⟨Bs, 0, none⟩)]) rfl h7 (enters_of Tryz.func165 (by kernel_rfl) rfl)
    (values_stops_ar F (n - 1) h7 hro (by omega) Bs w.heap.size a cap zs hz (w.alloc (.cells #[.slice none 0 0] 112)) (by simp; omega) (by simp) ((hB0.cell (p := ⟨Bs, 0, none⟩) hBs).trans hcs) (hI.keep (Below.agree hB0 (Nat.le_refl _)))) belowK_t (belowK_b (by simp)) (Below.refl _ _) (fun _ => rfl)
    (fun pre W => (∃ v, Boxed W w.heap.size 112 v ∧ W.ownsRow w.heap.size 134 4 v pre.length (pre.flatMap arC) ∧ (v = .slice none 0 0 ↔ pre = [])) ∧ Below w.heap.size w W)
    (fun _ _ _ => False)
    (OwnFrom.and (Own.from (holdsRow_own w.heap.size w.heap.size 112 134 4 (fun pre : List Ar => pre.length) (fun pre => pre.flatMap arC) (fun pre v => v = .slice none 0 0 ↔ pre = [])) _) (ownFrom_below (Nat.le_refl _) (by simp)))
    (fun _ _ _ _ _ hs _ _ => hs)
    ⟨⟨_, bO, World.ownsRow_nil _ _ _ _, by simp⟩, hB0⟩
    (fun x a' W => ∃ Bx, w.heap.size < Bx ∧ Box4 W Bx x ∧ a' = { tmps := #[.slice none 0 0, .func (.func 165) #[] #[.pointer (some ⟨Bs, 0, none⟩)], .pointer (some ⟨w.heap.size, 0, none⟩), undef, .slice none 0 0, .pointer (some ⟨Bx, 0, none⟩), .func (.func 165) #[] #[.pointer (some ⟨Bs, 0, none⟩)], .agg #[.string x.nm, .int .i64 x.v.k, .int .i64 x.v.n, .string x.v.t], undef, undef, undef, undef, undef], defers := [] })
    (fun x a' _ X Y row hs hg hr => by
      obtain ⟨Bx, q1, q2, q3⟩ := hs
      exact ⟨Bx, q1, (hg.block Bx (Array.getElem?_eq_some_iff.1 q2).1 (fun e => by obtain ⟨_, o, ho, hc⟩ := hr Bx e.symm; rw [show X.heap[Bx]? = _ from q2] at ho; cases ho; cases hc)).trans q2, q3⟩)
    ?assign ?body ?done ?stop
  case assign =>
    rintro l pre x W K ⟨⟨v, hv, hrow, hnil⟩, hB⟩ hK
    have hbs := hB.size
    have hvl := hv.lt
    unfold arV
    gi_wp2
    exact hK _ _ ((KeepsOthers.alloc _ _).from _) ((Below.refl _ W).alloc hbs _) ⟨⟨v, hv.alloc _, hrow.alloc _, hnil⟩, hB.alloc hbs _⟩ ⟨W.heap.size, hvl, heap_alloc_new _ _, rfl⟩
  case body =>
    rintro l pre x a' W hl ⟨r, hr⟩ ⟨⟨v, hv, hrow, hnil⟩, hB⟩ ⟨Bx, hBx, bX, rfl⟩ hlt
    have hc := hv.cell
    have cx := fun o => row_cell bX o
    have hml : pre.length + 1 ≤ maxLen := by have : (1048576 : Nat) < maxLen := by decide
                                             omega
    have hmb : (pre.length + 1) * 48 ≤ 140737488355328 := by omega
    gi_wp2_with (gi_at_builtin; refine wpListIn_append_own _ rfl _ _ 112 rfl w.heap.size 134 i0 (.agg #[.string ⟨#[]⟩, .int .i64 0, .int .i64 0, .string ⟨#[]⟩]) 4 48 Tryz.underlying112 hi hz0 hz1 hz2 rfl (by decide) _ _ _ rfl (hrow.alloc _) ⟨W.heap.size, 0, none⟩ 1 1 (arC x) rfl rfl (cell_four_new _ _) (by simp [arC, Value.oneCell']) hml hmb (by have := hB.size; simp; omega) ?_; intro v' w1 hown' hgrow _; obtain ⟨g', cap', rfl⟩ := ownsRow_succ hown'; obtain ⟨hv1, hv2, hr2, hk2, hb2⟩ := hv.appended (by decide) hrow hB.size (Nat.le_refl _) hown' hgrow; have hc1 := hv1.cell; have hf1 := hv1.frozen)
    exact ⟨hk2.from _, hb2, ⟨_, hv2, by simpa using hr2, by simp⟩, hB.trans hb2⟩
  case done =>
    rintro D ys W hD rfl ⟨⟨v, hv, hrow, hnil⟩, hB⟩ hK
    have hc := hv.cell
    gi_wp2
    refine ⟨by simp, .inl ⟨_, _, rfl, run_takeDeferred hK, ?_⟩⟩
    exact ⟨_, results_tmp rfl _ _ _, v, rfl, ownsRow_putObj hrow _ hK rfl, hnil, hB.trans (belowK_b (w := w) (Nat.le_refl _) W D _ _ (by simp at hD; omega) hK rfl rfl)⟩
  case stop =>
    rintro D c pre W _ _ h _
    exact h.elim
set_option maxRecDepth 100000 in
set_option maxHeartbeats 1000000 in
theorem collect_ar (F : Fence) (n : Nat) (h2 : F.fn 163) (h3 : F.fn 169) (h7 : F.fn 165) (hro : F.round = none) (hn : 4 ≤ n) (Bs : Nat) (a : Option Addr) (cap : Nat) (zs : List Ar) (hz : zs.length ≤ 1048576) (w : World) (hBs : Bs < w.heap.size) (hcs : w.cell? ⟨Bs, 0, none⟩ = some (.slice a zs.length cap)) (hI : ArRow 0 w.heap.size w a zs) :
    CallsIn F n Tryz.prog 163 #[.func (.func 165) #[] #[.pointer (some ⟨Bs, 0, none⟩)]] w fun e W' => ∃ v, e = .returned v ∧ W'.ownsRow w.heap.size 134 4 v zs.length (zs.flatMap arC) ∧ (v = .slice none 0 0 ↔ zs = []) ∧ Below w.heap.size w W' := by
  have h1 : 1 ≤ n := by omega
  have HQ := append_seq F (n - 1) h3 h7 hro (by omega) Bs a cap zs hz w hBs hcs hI
  refine callsIn_of_wp Tryz.func163 rfl h2 ?_ hro
  simp only [Tryz.ntmps163, List.size_toArray, List.length_cons, List.length_nil, Nat.reduceAdd, Nat.reduceSub, Array.replicate_succ, Array.replicate_zero, List.push_toArray, List.append_toArray, List.nil_append, List.cons_append]
  gi_wp2_with (gi_at_call 169; refine HQ.mono ?_; rintro e w2 ⟨v, rfl, q1, q2, q3⟩)
  go_ret
  exact ⟨v, rfl, q1, q2, q3⟩
end Go.Proofs.YtkjndghkimnjeaaGreat
