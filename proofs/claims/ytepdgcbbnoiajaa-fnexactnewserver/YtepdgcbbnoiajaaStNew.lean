/- NewStore on both sides: sixteen chains of nothing. -/
import Derived.Test.YtepdgcbbnoiajaaStMark
namespace Go.Proofs.Ytepdgcbbnoiajaa.G
open Go.ChangeShapes Go.WideShapes Go.ChangeAt Go.RowKit
set_option linter.unusedVariables false

def NoCh (l : Chs) : Prop := l.length = 16 ∧ ∀ x ∈ l, x = []
theorem noCh : ∃ l, NoCh l := ⟨List.replicate 16 [], by simp, fun x hx => (List.mem_replicate.1 hx).2⟩
theorem NoCh.bd {l : Chs} (h : NoCh l) : ChsBd 1048576 l := ⟨by have := h.1; omega, fun x hx => by rw [h.2 x hx]; simp⟩
theorem NoCh.size {l : Chs} (h : NoCh l) : sizeN l = 0 := by
  unfold sizeN
  have : l.map List.length = List.replicate l.length 0 := by
    rw [List.eq_replicate_iff]
    exact ⟨by simp, fun b hb => by obtain ⟨x, hx, rfl⟩ := List.mem_map.1 hb; rw [h.2 x hx]; rfl⟩
  rw [this]; simp
theorem made_nil (i : Nat) (h : i < 16) : (madeCells #[Value.slice none 0 0] 16)[i]? = some (.slice none 0 0) := by
  have key : ∀ j : Fin 16, (madeCells #[Value.slice none 0 0] 16)[j.val]? = some (.slice none 0 0) := by
    intro j
    unfold madeCells
    rw [Array.getElem?_map, Array.getElem?_eq_getElem (by simp), Array.getElem_range]
    simp [Nat.mod_one]
  exact key ⟨i, h⟩
theorem NoCh.own {l : Chs} (h : NoCh l) {w : World} {b lo hi : Nat} (hh : w.heap[b]? = some (.cells (madeCells #[Value.slice none 0 0] 16) 62 (0, 0))) (h1 : lo ≤ b) (h2 : b < hi) : StOwn lo hi w (some ⟨b, 0, none⟩) l (fun _ => 0) := by
  refine ⟨b, _, rfl, h1, h2, hh, by rw [size_madeCells]; have := h.1; omega, fun i x hx => ?_, fun i j x y hx hy _ hxn _ => absurd (h.2 x (List.mem_of_getElem? hx)) hxn⟩
  have hi : i < 16 := by have := (List.getElem?_eq_some_iff.1 hx).1; have := h.1; omega
  have hx0 := h.2 x (List.mem_of_getElem? hx)
  subst hx0
  exact ⟨none, 0, made_nil i hi, by simp, fun hne => absurd rfl hne⟩
set_option maxHeartbeats 1000000 in
theorem spec_new (l : Chs) (hn : NoCh l) (w : World) :
    Calls Try.prog 9 #[] w fun e w' => ∃ a, e = .returned (.agg #[.slice a l.length 16, .int .i64 0]) ∧ StOwn w.heap.size w'.heap.size w' a l (fun _ => 0) ∧ Below w.heap.size w w' := by
  obtain ⟨i27, hi, hz, hsz, hby⟩ := info_Ch
  have hmk := fun W => run_make (P := Try.prog) W 22 62 i27 _ Try.underlying22 hi hz .i64 .i64 (16 : Int) (16 : Int) (by omega) (by omega) (by rw [hby]; omega) (by omega)
  rw [hsz] at hmk
  replace hmk : ∀ W : World, (Instr.makeSlice 22 (.int .i64 16) (.int .i64 16)).run Try.prog W = .ok (.slice (some ⟨W.heap.size, 0, none⟩) 16 16) (W.alloc (.cells (madeCells #[Value.slice none 0 0] 16) 62)) := hmk
  clear hi hz hsz hby
  have HG := fun (W : World) (b lo hi : Nat) => NoCh.own hn (w := W) (b := b) (lo := lo) (hi := hi)
  have HGG : Hid _ := HG
  have hl := hn.1
  have HL : Hid _ := hl
  clear HG hn hl
  generalize madeCells #[Value.slice none 0 0] 16 = cs0 at *
  go_enter Try.func9, Try.ntmps9
  go_wp2_with fail
  refine bodyPost_ret (v := .agg #[.slice (some ⟨w.heap.size + 1, 0, none⟩) 16 16, .int .i64 0]) (by simp [results, Try.results9, go_sem]) rfl ⟨some ⟨w.heap.size + 1, 0, none⟩, by rw [HL.out], ?_, ?_⟩
  · refine HGG.out _ _ _ _ ?_ (by omega) (by simp)
    have := heap_alloc_new (w.alloc (.cells #[.slice (some ⟨w.heap.size + 1, 0, none⟩) 16 16, .int .i64 0] 24)) (.cells cs0 62)
    simpa using this
  · repeat (first | exact Below.refl _ _ | refine Below.setCell ?_ (by first | omega | (simp <;> omega)) _ | refine Below.alloc ?_ (by first | omega | (simp <;> omega)) _)
set_option maxHeartbeats 1000000 in
theorem impl_new (l : Chs) (hn : NoCh l) (w : World) :
    Calls Try.prog 10 #[] w fun e w' => ∃ a, e = .returned (.agg #[.slice a l.length 16, .int .i64 0]) ∧ StOwn w.heap.size w'.heap.size w' a l (fun _ => 0) ∧ Below w.heap.size w w' := by
  obtain ⟨i27, hi, hz, hsz, hby⟩ := info_Ch
  have hmk := fun W => run_make (P := Try.prog) W 22 62 i27 _ Try.underlying22 hi hz .i64 .i64 (16 : Int) (16 : Int) (by omega) (by omega) (by rw [hby]; omega) (by omega)
  rw [hsz] at hmk
  replace hmk : ∀ W : World, (Instr.makeSlice 22 (.int .i64 16) (.int .i64 16)).run Try.prog W = .ok (.slice (some ⟨W.heap.size, 0, none⟩) 16 16) (W.alloc (.cells (madeCells #[Value.slice none 0 0] 16) 62)) := hmk
  clear hi hz hsz hby
  have HG := fun (W : World) (b lo hi : Nat) => NoCh.own hn (w := W) (b := b) (lo := lo) (hi := hi)
  have HGG : Hid _ := HG
  have hl := hn.1
  have HL : Hid _ := hl
  clear HG hn hl
  generalize madeCells #[Value.slice none 0 0] 16 = cs0 at *
  go_enter Try.func10, Try.ntmps10
  go_wp2_with fail
  refine bodyPost_ret (v := .agg #[.slice (some ⟨w.heap.size + 1, 0, none⟩) 16 16, .int .i64 0]) (by simp [results, Try.results10, go_sem]) rfl ⟨some ⟨w.heap.size + 1, 0, none⟩, by rw [HL.out], ?_, ?_⟩
  · refine HGG.out _ _ _ _ ?_ (by omega) (by simp)
    have := heap_alloc_new (w.alloc (.cells #[.slice (some ⟨w.heap.size + 1, 0, none⟩) 16 16, .int .i64 0] 24)) (.cells cs0 62)
    simpa using this
  · repeat (first | exact Below.refl _ _ | refine Below.setCell ?_ (by first | omega | (simp <;> omega)) _ | refine Below.alloc ?_ (by first | omega | (simp <;> omega)) _)
end Go.Proofs.Ytepdgcbbnoiajaa.G
