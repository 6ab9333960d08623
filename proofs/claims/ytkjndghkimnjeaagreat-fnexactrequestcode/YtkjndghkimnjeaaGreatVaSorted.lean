/- sortedArgs. -/
import Derived.Test.YtkjndghkimnjeaaGreatVaSort
namespace Go.Proofs.YtkjndghkimnjeaaGreat
open Go.ChangeShapes Go.WideShapes Go.ChangeAt Go.RowKit Go.Maps Go.Shelf Go.Sort
set_option linter.unusedVariables false

theorem sort_any (v : Value) (zs : List Ar) (N : Nat) (w : World) (ho : w.ownsRow N 134 4 v zs.length (zs.flatMap arC)) (hz : zs.length ≤ 1048576) :
    Calls Tryz.prog 164 #[v, .func (.func 160) #[] #[]] w fun e w' => e = .returned (.tuple #[]) ∧ Below N w w' ∧ ∃ a c, v = .slice a zs.length c ∧ ArRow 0 w'.heap.size w' a (srt zs) := by
  obtain ⟨_, ⟨rfl, h0⟩ | ⟨g, cap, cur, rfl, hN, hg, _, _, _, hcur⟩⟩ := ho
  · have hcon := AnyF.slices_SortFunc_none { Tryz.sortAr with } none 0 (.func (.func 160) #[] #[]) w
    change Calls Tryz.prog 164 _ _ _ at hcon
    refine hcon.mono ?_
    rintro e w' ⟨rfl, rfl⟩
    have hn : zs = [] := List.length_eq_zero_iff.1 h0
    subst hn
    exact ⟨rfl, Below.refl _ _, none, 0, rfl, .inl (by simp [srt])⟩
  · refine (sort_fn g cap N zs cur w hg hcur hN hz).mono ?_
    rintro e w' ⟨rfl, hb, hr⟩
    exact ⟨rfl, hb, _, _, rfl, hr⟩
set_option maxHeartbeats 1000000 in
theorem sorted_func (Bs : Nat) (a : Option Addr) (cap : Nat) (zs : List Ar) (hz : zs.length ≤ 1048576) (w : World) (hBs : Bs < w.heap.size) (hcs : w.cell? ⟨Bs, 0, none⟩ = some (.slice a zs.length cap)) (hI : ArRow 0 w.heap.size w a zs) :
    Calls Tryz.prog 158 #[.func (.func 165) #[] #[.pointer (some ⟨Bs, 0, none⟩)], .func (.func 160) #[] #[]] w fun e w' => (∃ a' c', e = .returned (.slice a' zs.length c') ∧ ArRow 0 w'.heap.size w' a' (srt zs)) ∧ Below w.heap.size w w' := by
  have HQ : Hid (Calls Tryz.prog 163 #[.func (.func 165) #[] #[.pointer (some ⟨Bs, 0, none⟩)]] w fun e W' => ∃ v, e = .returned v ∧ W'.ownsRow w.heap.size 134 4 v zs.length (zs.flatMap arC) ∧ (v = .slice none 0 0 ↔ zs = []) ∧ Below w.heap.size w W') := (callsIn_wide (n := 4)).1 (collect_ar Fence.wide 4 trivial trivial trivial rfl (by omega) Bs a cap zs hz w hBs hcs hI)
  clear hI
  go_enter Tryz.func158, Tryz.ntmps158
  go_wp2_with fail
  refine Calls.mono HQ.out ?_
  rintro e w1 ⟨v, rfl, ho, _, b1⟩
  have HS : Hid _ := sort_any v zs w.heap.size w1 ho hz
  have B1 : Hid (Below w.heap.size w w1) := b1
  clear ho b1 HQ
  go_wp2_with fail
  refine Calls.mono HS.out ?_
  rintro e w2 ⟨rfl, b2, a', c', rfl, hr⟩
  have R2 : Hid (ArRow 0 w2.heap.size w2 a' (srt zs)) := hr
  have B2 : Hid (Below w.heap.size w w2) := B1.out.trans b2
  clear hr b2 HS
  go_wp2_with fail
  go_ret
  exact ⟨⟨_, _, rfl, R2.out⟩, B2.out⟩
set_option maxHeartbeats 1000000 in
theorem sorted_args (a : Option Addr) (cap : Nat) (zs : List Ar) (hz : zs.length ≤ 1048576) (w : World) (hI : ArRow 0 w.heap.size w a zs) :
    Calls Tryz.prog 149 #[.slice a zs.length cap] w fun e w' => (∃ a' c', e = .returned (.slice a' zs.length c') ∧ ArRow 0 w'.heap.size w' a' (srt zs)) ∧ Below w.heap.size w w' := by
  have HV : Hid (Calls Tryz.prog 159 #[.slice a zs.length cap] w fun e w' => e = .returned (.func (.func 165) #[] #[.pointer (some ⟨w.heap.size, 0, none⟩)]) ∧ w' = w.alloc (.cells #[.slice a zs.length cap] 112)) := (callsIn_wide (n := 4)).1 (values_ar Fence.wide 4 trivial rfl a zs.length cap w)
  obtain ⟨V, hV⟩ : ∃ V, V = w.alloc (.cells #[.slice a zs.length cap] 112) := ⟨_, rfl⟩
  have BV : Below w.heap.size w V := by rw [hV]; exact (Below.refl _ _).alloc (Nat.le_refl _) _
  have HS : Hid _ := sorted_func w.heap.size a cap zs hz V (by rw [hV]; simp) (by rw [hV]; exact row_cell (heap_alloc_new _ _) 0) (Row.up hI BV)
  have HB : Hid (Below w.heap.size w V) := BV
  have HE : Hid (V = w.alloc (.cells #[.slice a zs.length cap] 112)) := hV
  clear hI BV hV
  go_enter Tryz.func149, Tryz.ntmps149
  go_wp2_with fail
  refine Calls.mono HV.out ?_
  rintro e w1 ⟨rfl, rfl⟩
  rw [← HE.out]
  clear HV
  go_wp2_with fail
  refine Calls.mono HS.out ?_
  rintro e w2 ⟨⟨a', c', rfl, hr⟩, b2⟩
  have R2 : Hid (ArRow 0 w2.heap.size w2 a' (srt zs)) := hr
  have B2 : Hid (Below w.heap.size w w2) := HB.out.trans (b2.mono HB.out.size)
  clear hr b2 HS HB HE
  go_wp2_with fail
  go_ret
  exact ⟨⟨_, _, rfl, R2.out⟩, B2.out⟩
end Go.Proofs.YtkjndghkimnjeaaGreat
