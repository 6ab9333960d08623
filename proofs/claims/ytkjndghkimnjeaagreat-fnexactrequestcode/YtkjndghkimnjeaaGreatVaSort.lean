/- slices.SortFunc of arguments. -/
import Derived.Test.YtkjndghkimnjeaaGreatVaCollect
import Derived.Test.YtkjndghkimnjeaaGreatVaCmpMath
import Derived.Test.YtkjndghkimnjeaaGreatVaShelf
namespace Go.Proofs.YtkjndghkimnjeaaGreat
open Go.ChangeShapes Go.WideShapes Go.ChangeAt Go.RowKit Go.Maps Go.Shelf Go.Sort
set_option linter.unusedVariables false

instance instInhAr : Inhabited Ar := ⟨⟨⟨#[]⟩, ⟨0, 0, ⟨#[]⟩⟩⟩⟩
def srt (zs : List Ar) : List Ar := zs.mergeSort fun x y => !(ltOf cfA) y x
theorem srt_perm (zs : List Ar) : (srt zs).Perm zs := List.mergeSort_perm _ _
theorem srt_len (zs : List Ar) : (srt zs).length = zs.length := (srt_perm zs).length_eq
theorem flat_get : ∀ (zs : List Ar) (j : Nat), j < zs.length * 4 → (zs.flatMap arC)[j]? = some ((arC zs[j / 4]!)[j % 4]!)
  | [], j, h => by simp at h
  | x :: zs, j, h => by
    rw [List.flatMap_cons]
    by_cases hj : j < 4
    · rw [List.getElem?_append_left (by simpa [arC] using hj), Nat.div_eq_of_lt hj, Nat.mod_eq_of_lt hj]
      have : j = 0 ∨ j = 1 ∨ j = 2 ∨ j = 3 := by omega
      rcases this with rfl | rfl | rfl | rfl <;> simp [arC]
    · rw [List.getElem?_append_right (by simp [arC]; omega)]
      have hl : (arC x).length = 4 := rfl
      rw [hl, flat_get zs (j - 4) (by simp at h; omega)]
      have e1 : j / 4 = (j - 4) / 4 + 1 := by omega
      have e2 : j % 4 = (j - 4) % 4 := by omega
      rw [e1, e2]
      simp
theorem cmp_lays (blk off size : Nat) (w : World) : CmpLays Tryz.prog 160 #[] arC 4 cfA blk off size w :=
  fun _ _ _ _ x y => cmp_args x y _
theorem sort_fn (g cap N : Nat) (zs : List Ar) (cur : Array Value) (w : World) (hg : w.heap[g]? = some (.cells cur 134 (0, 0))) (hcur : cur.toList.take (zs.length * 4) = zs.flatMap arC) (hN : N ≤ g) (hz : zs.length ≤ 1048576) :
    Calls Tryz.prog 164 #[.slice (some ⟨g, 0, none⟩) zs.length cap, .func (.func 160) #[] #[]] w fun e w' => e = .returned (.tuple #[]) ∧ Below N w w' ∧ ArRow 0 w'.heap.size w' (some ⟨g, 0, none⟩) (srt zs) := by
  have hgl : g < w.heap.size := (Array.getElem?_eq_some_iff.1 hg).1
  have hH : HoldsK arC 4 w g 0 zs.toArray := by
    intro j hj
    rw [size_flatK] at hj
    simp only [List.size_toArray] at hj
    have h1 := flat_get zs j hj
    rw [← hcur, List.getElem?_take_of_lt hj, Array.getElem?_toList] at h1
    refine ⟨?_, row_frozen hg _⟩
    rw [Nat.zero_add, row_cell hg j, h1, get_flatK _ _ _ _ (by simpa using hj)]
    simp
  have eg : ∀ args w, (callFunc 160 args).run Tryz.prog w = .ok (.enter 160 args) w := enters_of Tryz.func160 (by kernel_rfl) rfl
  have hcon := AnyQ.slices_SortFunc_total Tryz.sortAr 4 Tryz.isAgg134 Tryz.sizeOf134 arC (fun _ => rfl) (fun x v hv => by simp [arC] at hv; rcases hv with rfl | rfl | rfl | rfl <;> rfl) cfA cfA_co.swo 160 #[] g 0 cap zs.toArray w eg (cmp_lays g 0 _ w) hH hgl (by simp; omega) cfA_tot
  change Calls Tryz.prog 164 _ _ _ at hcon
  refine hcon.mono ?_
  rintro e w' ⟨rfl, n, os, rfl⟩
  have hL : (zs.toArray.toList.mergeSort fun x y => !(ltOf cfA) y x) = srt zs := rfl
  rw [hL]
  have hsz : g < (putRowK arC 4 (Sort.ahead w n) g 0 (srt zs).toArray).heap.size := by simp [putRowK, putRow, mapBlock, Sort.ahead]; exact hgl
  have hK : HoldsK arC 4 (sortWorldK arC 4 w g 0 n (srt zs).toArray os) g 0 (srt zs).toArray := by
    unfold sortWorldK
    exact holdsK_grow _ _ _ _ _ _ _ hsz (holdsK_putRowK _ _ _ _ _ zs.toArray _ hH (by simp [srt_len]))
  refine ⟨rfl, ⟨rfl, rfl, rfl, ?_, fun k hk => ?_⟩, ?_⟩
  · simp [sortWorldK, putRowK, putRow, mapBlock, Sort.ahead]
  · unfold sortWorldK
    rw [heap_grow_old _ _ (by simp [putRowK, putRow, mapBlock, Sort.ahead]; omega)]
    simp only [putRowK, putRow, mapBlock, Sort.ahead, Array.getElem?_modify]
    rw [if_neg (by omega)]
  · refine .inr ⟨g, 0, rfl, Nat.zero_le _, by simp [sortWorldK, putRowK, putRow, mapBlock, Sort.ahead]; omega, fun k x hx => ?_⟩
    obtain ⟨hk, rfl⟩ := List.getElem?_eq_some_iff.1 hx
    have q := fun c hc => (HoldsK.cell hK (i := k) (c := c) (by simpa using hk) hc).1
    have he : (srt zs).toArray[k]! = (srt zs)[k] := by simp [hk]
    have q0 := q 0 (by omega)
    have q1 := q 1 (by omega)
    have q2 := q 2 (by omega)
    have q3 := q 3 (by omega)
    rw [he] at q0 q1 q2 q3
    exact ⟨q0, q1, q2, q3⟩
end Go.Proofs.YtkjndghkimnjeaaGreat
