/- ParseDoc on both sides: the specification's face, one answer alone, bounds. -/
import Derived.Test.YtlilfbcngncllaaGreatDoorPsParse
import Derived.Test.YtlilfbcngncllaaGreatDoorPmDefs
import Derived.Test.YtlilfbcngncllaaGreatDoorDocEq
namespace Go.Proofs.YtlilfbcngncllaaGreatDoor
open Go.ChangeShapes Go.WideShapes Go.ChangeAt Go.RowKit
set_option linter.unusedVariables false

set_option maxHeartbeats 2000000 in
theorem spec_parseDoc (s : ByteArray) (w : World) (hs : s.size ≤ maxLen) : Calls Tryz.prog 4 #[.string s] w (DpIs (lexB s) w) := by
  unfold maxLen at hs
  obtain ⟨V, hV⟩ : ∃ V, V = w.alloc (.cells #[.slice none 0 0] 24) := ⟨_, rfl⟩
  have BV : Hid (Below w.heap.size w V) := by rw [Hid, hV]; exact (Below.refl _ _).alloc (Nat.le_refl _) _
  have cV : Hid (V.heap[w.heap.size]? = some (.cells #[.slice none 0 0] 24 (0, 0))) := by rw [Hid, hV]; exact heap_alloc_new _ _
  have zV : w.heap.size < V.heap.size := by rw [hV]; simp
  by_cases h : 65536 < s.size
  · have HE : Hid (DpR (lexB s) [] 2) := by unfold Hid lexB; rw [if_pos h]; exact .inl ⟨by decide, rfl, rfl⟩
    have x1 := fun o => row_cell cV.out o
    have f1 := fun o => row_frozen cV.out o
    go_enter Tryz.func4, Tryz.ntmps4
    go_upto_region 1 with fail
    rw [← hV]
    clear hV
    go_wp2_with fail
    refine bodyPost_ret (v := .tuple #[.agg #[.slice none 0 0], .int .i64 2]) (by simp [results, Tryz.results4, go_sem, x1]) rfl ⟨[], none, 0, 2, [], [], rfl, HE.out, docK_nil _ _, ?_⟩
    repeat (refine Below.setCell ?_ (by simp) _)
    exact BV.out
  · have HQ : Hid _ := spec_l02Parse s V (by omega)
    go_enter Tryz.func4, Tryz.ntmps4
    go_upto_region 1 with fail
    rw [← hV]
    clear hV
    go_wp2_with fail
    refine Calls.mono HQ.out ?_
    rintro e w1 ⟨ds, a, c, code, vs, bs, rfl, hp, ho, hb⟩
    have HP : Hid (DpR (lexB s) ds code) := hp
    have HO : Hid (DocK V.heap.size w1 (.slice a ds.length c) ds vs bs) := ho
    have hz := hb.size
    have C1 : Hid (w1.heap[w.heap.size]? = some (.cells #[.slice none 0 0] 24 (0, 0))) := (hb.block _ zV).trans cV.out
    have B1 : Hid (Below w.heap.size w w1) := BV.out.trans (hb.mono (by omega))
    have x1 := fun o => row_cell C1.out o
    have f1 := fun o => row_frozen C1.out o
    clear hp ho hb HQ
    go_wp2_with fail
    refine bodyPost_ret (v := .tuple #[.agg #[.slice a ds.length c], .int .i64 code]) (by simp [results, Tryz.results4, go_sem, x1]) rfl ⟨ds, a, c, code, vs, bs, rfl, HP.out, ?_, ?_⟩
    · refine (docK_low HO.out (by omega)).keep (by simp) fun g hg => ?_
      exact heap_setCell_other _ _ _ _ (by have := (HO.out.all g hg).1; show g ≠ w.heap.size; omega)
    · repeat (refine Below.setCell ?_ (by simp) _)
      exact B1.out
theorem DpR.one {x : List Tk × Int} {t t' : List De} {c c' : Int} (h : DpR x t c) (h' : DpR x t' c') : t = t' ∧ c = c' := by
  rcases h with ⟨h0, rfl, rfl⟩ | ⟨h0, h⟩
  · rcases h' with ⟨_, rfl, rfl⟩ | ⟨e, _⟩
    · exact ⟨rfl, rfl⟩
    · exact absurd e h0
  · rcases h' with ⟨e, _⟩ | ⟨_, h'⟩
    · exact absurd h0 e
    · rcases h with ⟨p, rfl, rfl⟩ | ⟨p, rfl, rfl⟩ | ⟨d, r, p, h⟩ <;> rcases h' with ⟨p', rfl, rfl⟩ | ⟨p', rfl, rfl⟩ | ⟨d', r', p', h'⟩ <;> rw [p] at p'
      · exact ⟨rfl, rfl⟩
      · cases p'
      · cases p'
      · cases p'
      · exact ⟨rfl, rfl⟩
      · cases p'
      · cases p'
      · cases p'
      · cases p'
        rcases h with ⟨q, rfl, rfl⟩ | ⟨q, rfl, rfl⟩ <;> rcases h' with ⟨q', rfl, rfl⟩ | ⟨q', rfl, rfl⟩
        · exact ⟨rfl, rfl⟩
        · rw [q] at q'; cases q'
        · rw [q] at q'; cases q'
        · exact ⟨rfl, rfl⟩
theorem DpR.bd {s : ByteArray} {ds : List De} {c : Int} (h : DpR (lexB s) ds c) : DefsBd 1048576 ds := by
  obtain ⟨l, cd, hl⟩ : ∃ l cd, lexB s = (l, cd) := ⟨_, _, rfl⟩
  rw [hl] at h
  have hx := lexB_g hl
  have e : DefsBd 1048576 [] := ⟨Nat.zero_le _, fun x hx => by simp at hx⟩
  rcases h with ⟨_, rfl, _⟩ | ⟨_, ⟨_, rfl, _⟩ | ⟨_, rfl, _⟩ | ⟨d, r, p, ⟨_, rfl, _⟩ | ⟨_, rfl, _⟩⟩⟩
  · exact e
  · exact e
  · exact e
  · exact pDoc_bd p ⟨by have := hx.2.1; show l.length ≤ 1048576; omega, fun t ht => by have := hx.2.2 t ht; omega⟩
  · exact e
theorem cS_le : ∀ l : Sels, SelsBd 1048576 l → cS l ≤ l.size * 8388611
  | .nil, _ => Nat.zero_le _
  | .cons h sub rest, ⟨hh, _, hs, hr⟩ => by
    have h1 := cS_le sub hs
    have h2 := cS_le rest hr
    have h3 := hh.2.2.1
    have h4 := hh.2.2.2.2.1
    simp only [cS, cHd, Sels.size]
    omega
theorem cnt_doc {ds : List De} (hb : DefsBd 1048576 ds) (h : ds = [] ∨ docB ds = true) : G.cnt cDe ds ≤ 1000000000 := by
  have key : ∀ l : List De, (∀ x ∈ l, DeBd 1048576 x) → G.cnt cDe l ≤ 3 * l.length + sizeL l * 8388611 := fun l => by
    induction l with
    | nil => intro _; exact Nat.zero_le _
    | cons x l ih =>
      intro hx
      have h1 := cS_le x.sels (hx x (List.mem_cons_self ..)).2.2.2
      have h2 := ih fun y hy => hx y (List.mem_cons_of_mem _ hy)
      simp only [G.cnt, cDe, List.length_cons, sizeL]
      omega
  rcases h with rfl | h
  · exact Nat.zero_le _
  · have := key ds hb.2
    unfold docB at h
    simp only [Bool.and_eq_true, decide_eq_true_eq] at h
    omega
theorem DpR.small {s : ByteArray} {ds : List De} {c : Int} (h : DpR (lexB s) ds c) : G.cnt cDe ds ≤ 1000000000 := by
  refine cnt_doc h.bd ?_
  rcases h with ⟨_, rfl, _⟩ | ⟨_, ⟨_, rfl, _⟩ | ⟨_, rfl, _⟩ | ⟨d, r, p, ⟨q, rfl, _⟩ | ⟨_, rfl, _⟩⟩⟩
  · exact .inl rfl
  · exact .inl rfl
  · exact .inl rfl
  · exact .inr q
  · exact .inl rfl
end Go.Proofs.YtlilfbcngncllaaGreatDoor
