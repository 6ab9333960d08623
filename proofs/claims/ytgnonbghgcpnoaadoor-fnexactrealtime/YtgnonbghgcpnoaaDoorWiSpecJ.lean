/- A number put into a list in order: the region that draws. -/
import Derived.Test.YtgnonbghgcpnoaaDoorWiSpecA
import Derived.Test.YtgnonbghgcpnoaaDoorGRegionSix
namespace Go.Proofs.YtgnonbghgcpnoaaDoor
open Go.ChangeShapes Go.WideShapes Go.ChangeAt Go.RowKit
set_option linter.unusedVariables false

theorem app_list (x y : List Int) (v : Value) (base : Nat) (ad : Addr) (c : Nat) (W : World) (ho : W.ownsRow base 3 1 v x.length (nuV x)) (hy : ∀ (j : Nat) (z : Int), y[j]? = some z → W.cell? (ad.add j) = some (.int .i64 z)) (hl : x.length + y.length ≤ 1048576) (hb : base ≤ W.heap.size) :
    ∃ v' W', (Builtin.append_ #[24, 24] 24 #[v, .slice (some ad) y.length c]).run Tryd.prog W = .ok v' W' ∧ W'.ownsRow base 3 1 v' (x ++ y).length (nuV (x ++ y)) ∧ W.grownBy W' v.ownBlock ∧ (v'.ownBlock = v.ownBlock ∨ v'.ownBlock = some W.heap.size) := by
  obtain ⟨i, hi, hz, hsz, hby⟩ := info_int
  obtain ⟨v', W', h1, h2, h3, _, h5⟩ := run_append_own_at (P := Tryd.prog) W base 24 24 3 i _ 1 8 Tryd.underlying24 hi hz hsz hby rfl (by decide) v x.length (nuV x) ho ad y.length c (nuV y) (by simp [nuV]) (fun j u hu => by
    simp only [nuV, List.getElem?_map, Option.map_eq_some_iff] at hu
    obtain ⟨z, hz, rfl⟩ := hu
    exact hy j z hz) (fun u hu => by
    simp only [nuV, List.mem_map] at hu
    obtain ⟨z, _, rfl⟩ := hu
    rfl) (by unfold maxLen; omega) (by omega) hb
  refine ⟨v', W', h1, ?_, h3, h5⟩
  rw [List.length_append, nuV, List.map_append]
  exact h2
/-- How far the statement's appends have come. -/
structure WJ (base : Nat) (t e : List Int) (z : Int) (w : World) (f0 f4 f9 f10 f14 : Bool) (v0 v4 v9 v10 v14 : Value) (W : World) : Prop where
  below : Below w.heap.size w W
  o4 : f4 = true → f0 = true
  o10 : f10 = true → f4 = true ∧ f9 = true
  o14 : f14 = true → f10 = true
  r0 : f0 = true → f4 = false → W.ownsRow w.heap.size 3 1 v0 0 (nuV [])
  r4 : f4 = true → f10 = false → W.ownsRow w.heap.size 3 1 v4 t.length (nuV t)
  r10 : f10 = true → f14 = false → W.ownsRow w.heap.size 3 1 v10 (t ++ [z]).length (nuV (t ++ [z]))
  r14 : f14 = true → W.ownsRow w.heap.size 3 1 v14 ((t ++ [z]) ++ e).length (nuV ((t ++ [z]) ++ e))
  r9 : f9 = true → f10 = false → ∃ h, v9 = .slice (some ⟨h, 0, none⟩) 1 1 ∧ W.heap[h]? = some (.cells #[.int .i64 z] 3 (0, 0)) ∧ (f0 = true → f4 = false → v0.ownBlock ≠ some h) ∧ (f4 = true → v4.ownBlock ≠ some h)
variable {base : Nat} {t e : List Int} {z : Int} {w W W' : World} {f0 f4 f9 f10 f14 : Bool} {v0 v4 v9 v10 v14 v : Value}
theorem own_ne {w : World} {base size n : Nat} {e : TypeId} {v : Value} {xs : List Value} (h : w.ownsRow base e size v n xs) : v.ownBlock ≠ some w.heap.size := fun q => by
  have := (own_in h _ q).2; omega
theorem WJ.a0 (h : WJ base t e z w f0 f4 f9 f10 f14 v0 v4 v9 v10 v14 W) (hf : f0 = false) : WJ base t e z w true f4 f9 f10 f14 (.slice (some ⟨W.heap.size, 0, none⟩) 0 0) v4 v9 v10 v14 (W.alloc (.cells #[] 3)) := by
  have e4 : f4 = false := by cases hq : f4; rfl; exact absurd (h.o4 hq) (by rw [hf]; decide)
  have e10 : f10 = false := by cases hq : f10; rfl; exact absurd (h.o10 hq).1 (by rw [e4]; decide)
  have e14 : f14 = false := by cases hq : f14; rfl; exact absurd (h.o14 hq) (by rw [e10]; decide)
  subst hf e4 e10 e14
  refine ⟨h.below.alloc h.below.size _, fun _ => rfl, fun q => (by cases q), fun q => (by cases q), fun _ _ => ?_, fun q => (by cases q), fun q => (by cases q), fun q => (by cases q), fun h9 _ => ?_⟩
  · exact ⟨rfl, .inr ⟨W.heap.size, 0, #[], rfl, h.below.size, heap_alloc_new _ _, by simp [nuV]⟩⟩
  · obtain ⟨g, e1, e2, _, _⟩ := h.r9 h9 rfl
    have hg := (Array.getElem?_eq_some_iff.1 e2).1
    refine ⟨g, e1, by rw [Below.heap_alloc _ _ _ hg]; exact e2, fun _ _ q => ?_, fun q => (by cases q)⟩
    simp only [Value.ownBlock, Option.some.injEq] at q
    omega
theorem WJ.a9 (h : WJ base t e z w f0 f4 f9 f10 f14 v0 v4 v9 v10 v14 W) (hf : f9 = false) : WJ base t e z w f0 f4 true f10 f14 v0 v4 (.slice (some ⟨W.heap.size, 0, none⟩) 1 1) v10 v14 (W.alloc (.cells #[.int .i64 z] 3)) := by
  have e10 : f10 = false := by cases hq : f10; rfl; exact absurd (h.o10 hq).2 (by rw [hf]; decide)
  have e14 : f14 = false := by cases hq : f14; rfl; exact absurd (h.o14 hq) (by rw [e10]; decide)
  subst hf e10 e14
  have hB : Below W.heap.size W (W.alloc (.cells #[.int .i64 z] 3)) := (Below.refl _ _).alloc (Nat.le_refl _) _
  refine ⟨h.below.alloc h.below.size _, h.o4, fun q => (by cases q), fun q => (by cases q), fun q1 q2 => own_up (h.r0 q1 q2) hB, fun q1 q2 => own_up (h.r4 q1 q2) hB, fun q => (by cases q), fun q => (by cases q), fun _ _ => ⟨_, rfl, heap_alloc_new _ _, fun q1 q2 => own_ne (h.r0 q1 q2), fun q1 => own_ne (h.r4 q1 rfl)⟩⟩
theorem WJ.a4 (h : WJ base t e z w f0 f4 f9 f10 f14 v0 v4 v9 v10 v14 W) (hf0 : f0 = true) (hf : f4 = false) (ho : W'.ownsRow w.heap.size 3 1 v t.length (nuV t)) (hg : W.grownBy W' v0.ownBlock) (hv : v.ownBlock = v0.ownBlock ∨ v.ownBlock = some W.heap.size) : WJ base t e z w f0 true f9 f10 f14 v0 v v9 v10 v14 W' := by
  have e10 : f10 = false := by cases hq : f10; rfl; exact absurd (h.o10 hq).1 (by rw [hf]; decide)
  have e14 : f14 = false := by cases hq : f14; rfl; exact absurd (h.o14 hq) (by rw [e10]; decide)
  subst hf0 hf e10 e14
  refine ⟨h.below.grown hg h.below.size (fun k hk => (own_in (h.r0 rfl rfl) k hk).1), fun _ => rfl, fun q => (by cases q), fun q => (by cases q), fun _ q => (by cases q), fun _ _ => ho, fun q => (by cases q), fun q => (by cases q), fun h9 _ => ?_⟩
  obtain ⟨g, e1, e2, e3, _⟩ := h.r9 h9 rfl
  have hlt := (Array.getElem?_eq_some_iff.1 e2).1
  refine ⟨g, e1, by rw [hg.block g hlt (fun q => e3 rfl rfl q.symm)]; exact e2, fun _ q => (by cases q), fun _ q => ?_⟩
  rcases hv with hv | hv
  · exact e3 rfl rfl (hv.symm.trans q)
  · rw [hv] at q; simp only [Option.some.injEq] at q; omega
theorem WJ.a10 (h : WJ base t e z w f0 f4 f9 f10 f14 v0 v4 v9 v10 v14 W) (hf4 : f4 = true) (hf9 : f9 = true) (hf : f10 = false) (ho : W'.ownsRow w.heap.size 3 1 v (t ++ [z]).length (nuV (t ++ [z]))) (hg : W.grownBy W' v4.ownBlock) : WJ base t e z w f0 f4 f9 true f14 v0 v4 v9 v v14 W' := by
  have e14 : f14 = false := by cases hq : f14; rfl; exact absurd (h.o14 hq) (by rw [hf]; decide)
  subst hf4 hf9 hf e14
  exact ⟨h.below.grown hg h.below.size (fun k hk => (own_in (h.r4 rfl rfl) k hk).1), h.o4, fun _ => ⟨rfl, rfl⟩, fun q => (by cases q), fun _ q => (by cases q), fun _ q => (by cases q), fun _ _ => ho, fun q => (by cases q), fun _ q => (by cases q)⟩
theorem WJ.a14 (h : WJ base t e z w f0 f4 f9 f10 f14 v0 v4 v9 v10 v14 W) (hf10 : f10 = true) (hf : f14 = false) (ho : W'.ownsRow w.heap.size 3 1 v ((t ++ [z]) ++ e).length (nuV ((t ++ [z]) ++ e))) (hg : W.grownBy W' v10.ownBlock) : WJ base t e z w f0 f4 f9 f10 true v0 v4 v9 v10 v W' := by
  subst hf10 hf
  refine ⟨h.below.grown hg h.below.size (fun k hk => (own_in (h.r10 rfl rfl) k hk).1), h.o4, h.o10, fun _ => rfl, fun q1 q2 => ?_, fun _ q => (by cases q), fun _ q => (by cases q), fun _ => ho, fun _ q => (by cases q)⟩
  have := h.o10 rfl
  rw [this.1] at q2; cases q2
/-- The same beside a set of what is done. -/
def WJL (base : Nat) (t e : List Int) (z : Int) (w : World) (L : Array Bool) (u : Nat → Value) (W : World) : Prop :=
  WJ base t e z w (L.getD 0 false) (L.getD 4 false) (L.getD 9 false) (L.getD 10 false) (L.getD 14 false) (u 35) (u 39) (u 44) (u 45) (u 49) W
theorem gd_ne {L : Array Bool} {i j : Nat} (h : i ≠ j) : (L.setIfInBounds i true).getD j false = L.getD j false := by
  simp [Array.getD_eq_getD_getElem?, h]
theorem gd_at {L : Array Bool} {i : Nat} (h : i < L.size) : (L.setIfInBounds i true).getD i false = true := by
  simp [Array.getD_eq_getD_getElem?, h]
theorem gd_no {L : Array Bool} {i : Nat} (h : L.getD i true = false) : L.getD i false = false := by
  cases h8 : L.getD i false
  · rfl
  · rw [G.getD_both (G.getD_lt h) h8] at h; cases h
theorem WJL.plain {L : Array Bool} {u : Nat → Value} {i s : Nat} {x : Value} (h : WJL base t e z w L u W) (h0 : i ≠ 0) (h4 : i ≠ 4) (h9 : i ≠ 9) (h10 : i ≠ 10) (h14 : i ≠ 14) (s0 : 35 ≠ s) (s4 : 39 ≠ s) (s9 : 44 ≠ s) (s10 : 45 ≠ s) (s14 : 49 ≠ s) : WJL base t e z w (L.setIfInBounds i true) (G.upd u s x) W := by
  unfold WJL
  rw [gd_ne h0, gd_ne h4, gd_ne h9, gd_ne h10, gd_ne h14, G.upd_ne _ _ s0, G.upd_ne _ _ s4, G.upd_ne _ _ s9, G.upd_ne _ _ s10, G.upd_ne _ _ s14]
  exact h
theorem WJL.at0 {L : Array Bool} {u : Nat → Value} (h : WJL base t e z w L u W) (hs : L.size = 16) (hl : L.getD 0 true = false) : WJL base t e z w (L.setIfInBounds 0 true) (G.upd u 35 (.slice (some ⟨W.heap.size, 0, none⟩) 0 0)) (W.alloc (.cells #[] 3)) := by
  have := WJ.a0 h (gd_no hl)
  unfold WJL
  rw [gd_at (by omega), gd_ne (by decide), gd_ne (by decide), gd_ne (by decide), gd_ne (by decide), G.upd_at, G.upd_ne _ _ (by decide), G.upd_ne _ _ (by decide), G.upd_ne _ _ (by decide), G.upd_ne _ _ (by decide)]
  exact this
theorem WJL.at9 {L : Array Bool} {u : Nat → Value} (h : WJL base t e z w L u W) (hs : L.size = 16) (hl : L.getD 9 true = false) : WJL base t e z w (L.setIfInBounds 9 true) (G.upd u 44 (.slice (some ⟨W.heap.size, 0, none⟩) 1 1)) (W.alloc (.cells #[.int .i64 z] 3)) := by
  have := WJ.a9 h (gd_no hl)
  unfold WJL
  rw [gd_at (by omega), gd_ne (by decide), gd_ne (by decide), gd_ne (by decide), gd_ne (by decide), G.upd_at, G.upd_ne _ _ (by decide), G.upd_ne _ _ (by decide), G.upd_ne _ _ (by decide), G.upd_ne _ _ (by decide)]
  exact this
theorem WJL.at4 {L : Array Bool} {u : Nat → Value} (h : WJL base t e z w L u W) (hs : L.size = 16) (hl : L.getD 4 true = false) (h0 : L.getD 0 false = true) (ho : W'.ownsRow w.heap.size 3 1 v t.length (nuV t)) (hg : W.grownBy W' (u 35).ownBlock) (hv : v.ownBlock = (u 35).ownBlock ∨ v.ownBlock = some W.heap.size) : WJL base t e z w (L.setIfInBounds 4 true) (G.upd u 39 v) W' := by
  have := WJ.a4 h h0 (gd_no hl) ho hg hv
  unfold WJL
  rw [gd_at (by omega), gd_ne (by decide), gd_ne (by decide), gd_ne (by decide), gd_ne (by decide), G.upd_at, G.upd_ne _ _ (by decide), G.upd_ne _ _ (by decide), G.upd_ne _ _ (by decide), G.upd_ne _ _ (by decide)]
  exact this
theorem WJL.at10 {L : Array Bool} {u : Nat → Value} (h : WJL base t e z w L u W) (hs : L.size = 16) (hl : L.getD 10 true = false) (h4 : L.getD 4 false = true) (h9 : L.getD 9 false = true) (ho : W'.ownsRow w.heap.size 3 1 v (t ++ [z]).length (nuV (t ++ [z]))) (hg : W.grownBy W' (u 39).ownBlock) : WJL base t e z w (L.setIfInBounds 10 true) (G.upd u 45 v) W' := by
  have := WJ.a10 h h4 h9 (gd_no hl) ho hg
  unfold WJL
  rw [gd_at (by omega), gd_ne (by decide), gd_ne (by decide), gd_ne (by decide), gd_ne (by decide), G.upd_at, G.upd_ne _ _ (by decide), G.upd_ne _ _ (by decide), G.upd_ne _ _ (by decide), G.upd_ne _ _ (by decide)]
  exact this
theorem WJL.at14 {L : Array Bool} {u : Nat → Value} (h : WJL base t e z w L u W) (hs : L.size = 16) (hl : L.getD 14 true = false) (h10 : L.getD 10 false = true) (ho : W'.ownsRow w.heap.size 3 1 v ((t ++ [z]) ++ e).length (nuV ((t ++ [z]) ++ e))) (hg : W.grownBy W' (u 45).ownBlock) : WJL base t e z w (L.setIfInBounds 14 true) (G.upd u 49 v) W' := by
  have := WJ.a14 h h10 (gd_no hl) ho hg
  unfold WJL
  rw [gd_at (by omega), gd_ne (by decide), gd_ne (by decide), gd_ne (by decide), gd_ne (by decide), G.upd_at, G.upd_ne _ _ (by decide), G.upd_ne _ _ (by decide), G.upd_ne _ _ (by decide), G.upd_ne _ _ (by decide)]
  exact this
end Go.Proofs.YtgnonbghgcpnoaaDoor
