/- A spread put behind the last definition's selections the other way: a place for it first, then it itself is written there. -/
import Derived.Test.YtajjaddlalbnmaaKdDoc
import Derived.Deep.AppendLies
import Derived.Test.YtajjaddlalbnmaaNdRoot
namespace Go.Proofs.Ytajjaddlalbnmaa
open Go.ChangeShapes Go.WideShapes Go.ChangeAt Go.RowKit
open Go.Proofs.Ytajjaddlalbnmaa.G (row_cell row_frozen row_set)
set_option linter.unusedVariables false

theorem DefK.last {W : World} {x : De} : ∀ (l : List De) {vs : List Value} {bs : List Nat}, DefK W (l ++ [x]) vs bs → ∃ vs1 V ws bk bs1, vs = vs1 ++ [.int .i64 x.k, .string x.nm, .string x.on, V] ∧ bs = bs1 ++ (blk V ++ bk) ∧ DefK W l vs1 bs1 ∧ W.ownsRow 0 63 6 V x.sels.len ws ∧ KidB W x.sels ws bk
  | [], _, _, ⟨V, vr, ws, bk, br, hv, hb, o, k, e1, e2⟩ => by
    subst e1; subst e2
    exact ⟨[], V, ws, bk, [], by rw [hv]; rfl, by rw [hb, List.append_nil]; rfl, ⟨rfl, rfl⟩, o, k⟩
  | y :: l, _, _, ⟨V, vr, ws, bk, br, hv, hb, o, k, kr⟩ => by
    obtain ⟨vs1, V', ws', bk', bs1, h1, h2, h3, h4, h5⟩ := DefK.last l kr
    subst h1; subst h2
    exact ⟨_, V', ws', bk', _, by rw [hv, ← List.append_assoc], by rw [hb, ← List.append_assoc], ⟨V, vs1, ws, bk, bs1, rfl, rfl, o, k, h3⟩, h4, h5⟩
theorem DefK.vlen {W : World} : ∀ {l : List De} {vs : List Value} {bs : List Nat}, DefK W l vs bs → vs.length = l.length * 4
  | [], _, _, ⟨h, _⟩ => by rw [h]; rfl
  | x :: r, _, _, ⟨V, vr, ws, bk, br, hv, _, _, _, kr⟩ => by
    rw [hv, List.length_append, DefK.vlen kr]
    simp only [List.length_cons, List.length_nil]
    omega
theorem own_setAt {w : World} {base n c z g i : Nat} {e : TypeId} {xs : List Value} (h : w.ownsRow base e z (.slice (some ⟨g, 0, none⟩) n c) n xs) (v : Value) : (w.setCell ⟨g, i, none⟩ v).ownsRow base e z (.slice (some ⟨g, 0, none⟩) n c) n (xs.set i v) := by
  rcases h.2 with ⟨h0, _⟩ | ⟨g', cap, cur, hv, h1, h2, h3, h4, h5, h6⟩
  · cases h0
  · simp only [Value.slice.injEq, Option.some.injEq, Addr.mk.injEq] at hv
    obtain ⟨⟨rfl, _⟩, _, rfl⟩ := hv
    refine ⟨by rw [List.length_set]; exact h.1, .inr ⟨g, c, cur.setIfInBounds i v, rfl, h1, row_set h2 i v, h3, h4, by rw [Array.size_setIfInBounds]; exact h5, ?_⟩⟩
    rw [← h6, Array.toList_setIfInBounds, List.take_set]
theorem DocK.swapLast {base n cap g : Nat} {W W' : World} {l : List De} {x : De} {vs1 ws' : List Value} {V V' : Value} {bk bk' bs1 : List Nat} {s' : Sels}
    (K : DocK base W (.slice (some ⟨g, 0, none⟩) n cap) (l ++ [x]) (vs1 ++ [.int .i64 x.k, .string x.nm, .string x.on, V]) (bs1 ++ (blk V ++ bk))) (kl : DefK W l vs1 bs1) (hz : W.heap.size ≤ W'.heap.size)
    (kp : ∀ q ∈ g :: bs1, W'.heap[q]? = W.heap[q]?) (R : RowK base W' V' s' ws' bk') (hnew : ∀ q ∈ blk V' ++ bk', q ∈ blk V ++ bk ∨ W.heap.size ≤ q) :
    DocK base (W'.setCell ⟨g, l.length * 4 + 3, none⟩ V') (.slice (some ⟨g, 0, none⟩) n cap) (l ++ [⟨x.k, x.nm, x.on, s'⟩]) (vs1 ++ [.int .i64 x.k, .string x.nm, .string x.on, V']) (bs1 ++ (blk V' ++ bk')) := by
  have hvl := kl.vlen
  have hg : blk (.slice (some ⟨g, 0, none⟩) n cap) = [g] := rfl
  have hnd := K.nd
  rw [hg, List.nodup_append] at hnd
  obtain ⟨_, hnd1, hnd2⟩ := hnd
  have hnd3 := List.nodup_append.1 hnd1
  have gin := K.all g (by rw [hg]; simp)
  have ng : ∀ q ∈ bs1, q ≠ g := fun q hq e => hnd2 g (by simp) q (List.mem_append_left _ hq) e.symm
  have nv : ∀ q ∈ blk V' ++ bk', q ≠ g := fun q hq e => by
    subst e
    rcases hnew q hq with h | h
    · exact hnd2 q (by simp) q (List.mem_append_right _ h) rfl
    · omega
  have nb : ∀ q ∈ bs1, ∀ p ∈ blk V' ++ bk', q ≠ p := fun q hq p hp e => by
    subst e
    rcases hnew q hp with h | h
    · exact hnd3.2.2 q hq q h rfl
    · have := (K.inn q (List.mem_append_left _ hq)).2; omega
  have hl : (l ++ [(⟨x.k, x.nm, x.on, s'⟩ : De)]).length = (l ++ [x]).length := by simp
  have zs : (W'.setCell ⟨g, l.length * 4 + 3, none⟩ V').heap.size = W'.heap.size := by simp [World.setCell]
  have R2 := R.keep (W' := W'.setCell ⟨g, l.length * 4 + 3, none⟩ V') (Nat.le_of_eq zs.symm) fun q hq => heap_setCell_other _ _ _ _ (by show q ≠ g; exact nv q hq)
  have kn : n = (l ++ [x]).length := by
    rcases K.own.2 with ⟨h0, _⟩ | ⟨g', cap', cur, hv, _⟩
    · cases h0
    · simp only [Value.slice.injEq] at hv; exact hv.2.1
  refine ⟨?_, DefK.snoc (x := ⟨x.k, x.nm, x.on, s'⟩) (owns_base R2.own fun q _ => Nat.zero_le _) R2.k l (kl.keep fun q hq => ?_), ?_, fun q hq => ?_⟩
  · have o1 := owns_same (w' := W') K.own (fun q hq => kp q (by
      have : q = g := by simpa [Value.ownBlock] using hq.symm
      rw [this]; simp))
    rw [← kn] at o1
    have o2 := own_setAt (i := l.length * 4 + 3) o1 V'
    rw [hl, ← kn]
    have e : (vs1 ++ [.int .i64 x.k, .string x.nm, .string x.on, V]).set (l.length * 4 + 3) V' = vs1 ++ [.int .i64 x.k, .string x.nm, .string x.on, V'] := by
      rw [List.set_append_right _ _ (by omega), hvl, show l.length * 4 + 3 - l.length * 4 = 3 by omega]
      rfl
    rw [e] at o2
    exact o2
  · rw [heap_setCell_other _ _ _ _ (by show q ≠ g; exact ng q hq)]
    exact kp q (List.mem_cons_of_mem _ hq)
  · rw [hg, List.nodup_append]
    refine ⟨by simp, ?_, fun p hp q hq e => ?_⟩
    · rw [List.nodup_append]
      exact ⟨hnd3.1, R.nd, nb⟩
    · subst e
      simp only [List.mem_singleton] at hp
      subst hp
      rcases List.mem_append.1 hq with hq | hq
      · exact ng _ hq rfl
      · exact nv _ hq rfl
  · rcases List.mem_append.1 hq with hq | hq
    · have := K.inn q (List.mem_append_left _ hq); exact ⟨this.1, by omega⟩
    · have := R.all q hq; exact ⟨this.1, by omega⟩
end Go.Proofs.Ytajjaddlalbnmaa
namespace Go.Proofs.Ytajjaddlalbnmaa
open Go.ChangeShapes Go.WideShapes Go.ChangeAt Go.RowKit
open Go.Proofs.Ytajjaddlalbnmaa.G (row_cell row_frozen row_set)
set_option linter.unusedVariables false

/-- What lies from B on stays. -/
def StB (B : Nat) (W W' : World) : Prop := W.heap.size ≤ W'.heap.size ∧ ∀ g, B ≤ g → g < W.heap.size → W'.heap[g]? = W.heap[g]?
theorem StB.refl (B : Nat) (W : World) : StB B W W := ⟨Nat.le_refl _, fun _ _ _ => rfl⟩
theorem StB.alloc (B : Nat) (W : World) (o : Obj) : StB B W (W.alloc o) := ⟨by simp, fun g _ h => Below.heap_alloc _ _ _ h⟩
theorem StB.grown {B : Nat} {W W' : World} {r : Option Nat} (h : W.grownBy W' r) (hr : ∀ g, r = some g → g < B) : StB B W W' :=
  ⟨h.size, fun g h1 h2 => h.block g h2 fun e => by have := hr g (by rw [e]); omega⟩
theorem StB.set {B g o : Nat} {W : World} {v : Value} (hg : g < B) : StB B W (W.setCell ⟨g, o, none⟩ v) := ⟨by simp [World.setCell], fun q h1 _ => heap_setCell_other _ _ _ _ (by show q ≠ g; omega)⟩
/-- A new empty list. -/
def EmB (B : Nat) (e : TypeId) (v : Value) (W : World) : Prop := ∃ g, v = .slice (some ⟨g, 0, none⟩) 0 0 ∧ B ≤ g ∧ W.heap[g]? = some (.cells #[] e (0, 0))
theorem EmB.up {B : Nat} {e : TypeId} {v : Value} {W W' : World} (h : EmB B e v W) (s : StB B W W') : EmB B e v W' := by
  obtain ⟨g, h1, h2, h3⟩ := h
  exact ⟨g, h1, h2, by rw [s.2 g h2 (Array.getElem?_eq_some_iff.1 h3).1]; exact h3⟩
theorem EmB.new (B : Nat) (e : TypeId) (W : World) (h : B ≤ W.heap.size) : EmB B e (.slice (some ⟨W.heap.size, 0, none⟩) 0 0) (W.alloc (.cells #[] e)) := ⟨_, rfl, h, heap_alloc_new _ _⟩
theorem EmB.own {B z : Nat} {e : TypeId} {v : Value} {W : World} (h : EmB B e v W) : W.ownsRow 0 e z v 0 [] := by
  obtain ⟨g, rfl, h2, h3⟩ := h
  exact ⟨by simp, .inr ⟨g, 0, #[], rfl, Nat.zero_le _, h3, Nat.le_refl _, Nat.zero_le _, by simp, by simp⟩⟩
theorem EmB.ne {B : Nat} {e e' : TypeId} {v v' : Value} {W : World} (h : EmB B e v W) (k : EmB B e' v' W) (he : e ≠ e') : ∀ x ∈ blk v, ∀ y ∈ blk v', x ≠ y := by
  obtain ⟨g, rfl, h2, h3⟩ := h
  obtain ⟨g', rfl, k2, k3⟩ := k
  intro x hx y hy e0
  have e1 : x = g := by simpa [blk, Value.ownBlock] using hx
  have e2 : y = g' := by simpa [blk, Value.ownBlock] using hy
  subst e1; subst e2; subst e0
  rw [h3] at k3
  simp only [Option.some.injEq, Obj.cells.injEq, true_and, and_true] at k3
  exact he k3
theorem EmB.inn {B : Nat} {e : TypeId} {v : Value} {W : World} (h : EmB B e v W) : ∀ x ∈ blk v, B ≤ x ∧ x < W.heap.size := by
  obtain ⟨g, rfl, h2, h3⟩ := h
  intro x hx
  have e1 : x = g := by simpa [blk, Value.ownBlock] using hx
  subst e1
  exact ⟨h2, (Array.getElem?_eq_some_iff.1 h3).1⟩
theorem one_of {B : Nat} {W : World} {va vd vs : Value} (k : Int) (al nm : ByteArray) (a : EmB B 81 va W) (d : EmB B 86 vd W) (s : EmB B 63 vs W) : OneK B W ⟨k, al, nm, [], []⟩ .nil va vd vs [] [] := by
  refine ⟨a.own, d.own, s.own, ⟨rfl, rfl⟩, ?_, fun g hg => ?_⟩
  · rw [List.append_nil, List.nodup_append]
    refine ⟨blk_nd _, ?_, fun x hx y hy e => ?_⟩
    · rw [List.nodup_append]
      exact ⟨blk_nd _, blk_nd _, d.ne s (by decide)⟩
    · rcases List.mem_append.1 hy with hy | hy
      · exact a.ne d (by decide) x hx y hy e
      · exact a.ne s (by decide) x hx y hy e
  · simp only [List.append_nil, List.mem_append] at hg
    rcases hg with hg | hg | hg
    · exact a.inn g hg
    · exact d.inn g hg
    · exact s.inn g hg
theorem RowK.up {B : Nat} {W W' : World} {V : Value} {l : Sels} {ws : List Value} {bk : List Nat} (h : RowK B W V l ws bk) (s : StB B W W') : RowK B W' V l ws bk :=
  h.keep s.1 fun g hg => s.2 g (h.all g hg).1 (h.all g hg).2
/-- A new list of one definition. -/
def DfB (B : Nat) (x : De) (v : Value) (W : World) : Prop := ∃ g V ws bk, v = .slice (some ⟨g, 0, none⟩) 1 1 ∧ B ≤ g ∧ W.heap[g]? = some (.cells #[.int .i64 x.k, .string x.nm, .string x.on, V] 30 (0, 0)) ∧ RowK B W V x.sels ws bk
theorem DfB.up {B : Nat} {x : De} {v : Value} {W W' : World} (h : DfB B x v W) (s : StB B W W') : DfB B x v W' := by
  obtain ⟨g, V, ws, bk, h1, h2, h3, h4⟩ := h
  exact ⟨g, V, ws, bk, h1, h2, by rw [s.2 g h2 (Array.getElem?_eq_some_iff.1 h3).1]; exact h3, h4.up s⟩
theorem DfB.new {B : Nat} {x : De} {V : Value} {ws : List Value} {bk : List Nat} {W : World} (h : RowK B W V x.sels ws bk) (hB : B ≤ W.heap.size) : DfB B x (.slice (some ⟨W.heap.size, 0, none⟩) 1 1) (W.alloc (.cells #[.int .i64 x.k, .string x.nm, .string x.on, V] 30)) :=
  ⟨_, V, ws, bk, rfl, hB, heap_alloc_new _ _, h.up (StB.alloc _ _ _)⟩
set_option maxRecDepth 100000 in
theorem info_defS : ∃ i, Try.prog.info? 30 = some i ∧ i.zero = some (.agg #[.int .i64 0, .string ⟨#[]⟩, .string ⟨#[]⟩, .slice none 0 0]) ∧ i.size = 4 ∧ i.bytes = 64 := by
  refine ⟨_, rfl, ?_, ?_, ?_⟩ <;> kernel_rfl
/-- The append of one definition. -/
theorem app_def {base B : Nat} {W : World} {VD v : Value} {l : List De} {x : De} {vs : List Value} {bs : List Nat} (D : DocK base W VD l vs bs) (hlt : ∀ g ∈ blk VD ++ bs, g < B) (hb : base ≤ B) (hl : l.length ≤ 100000) (h : DfB B x v W) :
    ∃ g8 c8 W' vs' bs', (Builtin.append_ #[23, 23] 23 #[VD, v]).run Try.prog W = .ok (.slice (some ⟨g8, 0, none⟩) (l.length + 1) c8) W' ∧ DocK base W' (.slice (some ⟨g8, 0, none⟩) (l.length + 1) c8) (l ++ [x]) vs' bs' ∧ W.grownBy W' VD.ownBlock ∧ ∀ q ∈ g8 :: bs', q ∈ blk VD ++ bs ∨ B ≤ q := by
  obtain ⟨g, V, ws, bk, rfl, h2, h3, h4⟩ := h
  have hlg := (Array.getElem?_eq_some_iff.1 h3).1
  obtain ⟨i, hi, hz, hsz, hby⟩ := info_defS
  obtain ⟨g8, c8, W', hrun, o1, o2, o3, o4⟩ := run_append_lies (P := Try.prog) W 23 23 base 30 i _ 4 64 Try.underlying23 hi hz hsz hby rfl (by decide) VD l.length vs D.own ⟨g, 0, none⟩ 1 1 [.int .i64 x.k, .string x.nm, .string x.on, V] rfl (fun j y hx => by
    have hj := (List.getElem?_eq_some_iff.1 hx).1
    have hv := h4.own
    rw [add_plain, Nat.zero_add, row_cell h3 j]
    simpa using hx) (fun y hy => by
    obtain ⟨a0, c0, rfl⟩ := owns_slice h4.own
    simp only [List.mem_cons, List.not_mem_nil, or_false] at hy
    rcases hy with rfl | rfl | rfl | rfl <;> rfl) (by omega) (by unfold maxLen; omega) (by omega) (by omega) W.heap.size rfl
  refine ⟨g8, c8, W', _, _, hrun, D.push hlt hb h4 (Below.refl _ _) o2 o3 (by simpa using o1), o2, fun q hq => ?_⟩
  simp only [List.mem_cons, List.mem_append] at hq
  rcases hq with rfl | hq | hq | hq
  · rcases o3 with o3 | o3
    · exact .inl (List.mem_append_left _ (mem_blk o3))
    · right; omega
  · exact .inl (List.mem_append_right _ hq)
  · exact .inr (h4.all q (List.mem_append_left _ hq)).1
  · exact .inr (h4.all q (List.mem_append_right _ hq)).1
def idS : Sels := app [(⟨1, ⟨#[]⟩, ⟨#[105, 100]⟩, [], []⟩, .nil)] .nil
/-- A fragment that asks for an id alone, behind a row of definitions: what its making has come to. -/
def CyJ (base : Nat) (w9 : World) (VD : Value) (l : List De) (x : De) (vs : List Value) (bs : List Nat) (L : Array Bool) (y : Nat → Value) (W : World) : Prop :=
  w9.grownBy W VD.ownBlock ∧ (L.getD 13 false = false → DocK base W VD l vs bs) ∧ (L.getD 13 false = true → ∃ g8 c8 vs' bs', y 29 = .slice (some ⟨g8, 0, none⟩) (l.length + 1) c8 ∧ DocK base W (.slice (some ⟨g8, 0, none⟩) (l.length + 1) c8) (l ++ [x]) vs' bs' ∧ ∀ q ∈ g8 :: bs', q ∈ blk VD ++ bs ∨ w9.heap.size ≤ q)
theorem gdK_ne {L : Array Bool} {i j : Nat} (h : i ≠ j) : (L.setIfInBounds i true).getD j false = L.getD j false := by
  simp [Array.getD_eq_getD_getElem?, h]
theorem gdK_at {L : Array Bool} {i : Nat} (h : i < L.size) : (L.setIfInBounds i true).getD i false = true := by
  simp [Array.getD_eq_getD_getElem?, h]
theorem CyJ.plain {base : Nat} {w9 W W' : World} {VD : Value} {l : List De} {x : De} {vs : List Value} {bs : List Nat} {L : Array Bool} {y : Nat → Value} {i s : Nat} {v : Value} (h : CyJ base w9 VD l x vs bs L y W) (hb : Below W.heap.size W W') (hi : i ≠ 13) (hs : 29 ≠ s) : CyJ base w9 VD l x vs bs (L.setIfInBounds i true) (fun k => if k = s then v else y k) W' := by
  refine ⟨grown_below h.1 hb, fun q => ?_, fun q => ?_⟩
  · rw [gdK_ne hi] at q
    exact (h.2.1 q).keep hb.size fun g hg => hb.block g ((h.2.1 q).all g hg).2
  · rw [gdK_ne hi] at q
    obtain ⟨g8, c8, vs', bs', e, k, hq⟩ := h.2.2 q
    exact ⟨g8, c8, vs', bs', by simp only [hs, if_false]; exact e, k.keep hb.size fun g hg => hb.block g (k.all g hg).2, hq⟩
theorem CyJ.put {base : Nat} {w9 W W' : World} {VD v : Value} {l : List De} {x : De} {vs vs' : List Value} {bs bs' : List Nat} {L : Array Bool} {y : Nat → Value} {g8 c8 : Nat} (h : CyJ base w9 VD l x vs bs L y W) (hL : 13 < L.size) (hr : ∀ g, VD.ownBlock = some g → g < w9.heap.size) (hv : v = .slice (some ⟨g8, 0, none⟩) (l.length + 1) c8)
    (D : DocK base W' (.slice (some ⟨g8, 0, none⟩) (l.length + 1) c8) (l ++ [x]) vs' bs') (hg : W.grownBy W' VD.ownBlock) (hq : ∀ q ∈ g8 :: bs', q ∈ blk VD ++ bs ∨ w9.heap.size ≤ q) : CyJ base w9 VD l x vs bs (L.setIfInBounds 13 true) (fun k => if k = 29 then v else y k) W' := by
  have hz := h.1.size
  refine ⟨⟨hg.os.trans h.1.os, hg.tape.trans h.1.tape, hg.output.trans h.1.output, Nat.le_trans hz hg.size, fun g h1 h2 => (hg.block g (by omega) h2).trans (h.1.block g h1 h2)⟩, fun q => (by rw [gdK_at hL] at q; cases q), fun _ => ⟨g8, c8, vs', bs', by simp only [if_true]; exact hv, D, hq⟩⟩
def CyPv (B N3 NB i : Nat) (VD : Value) (x : De) (iz : Nat) (v : Value) (W : World) : Prop := match iz with
  | 0 => v = .pointer (some ⟨N3, 0, none⟩)
  | 1 => v = VD
  | 2 => v = .slice (some ⟨NB, 0, none⟩) 3 3
  | 3 => v = .int .i64 (i : Int)
  | 4 => v = .pointer (some ⟨NB, i, none⟩)
  | 5 => v = .string x.nm
  | 6 => EmB B 81 v W
  | 7 => EmB B 86 v W
  | 8 => EmB B 63 v W
  | 9 => ∃ va vd vs, v = .agg #[.int .i64 1, .string ⟨#[]⟩, .string ⟨#[105, 100]⟩, va, vd, vs] ∧ EmB B 81 va W ∧ EmB B 86 vd W ∧ EmB B 63 vs W
  | 10 => ∃ ws bk, RowK B W v idS ws bk
  | 11 => ∃ V ws bk, v = .agg #[.int .i64 x.k, .string x.nm, .string x.on, V] ∧ RowK B W V idS ws bk
  | 12 => DfB B x v W
  | 14 => v = .pointer (some ⟨N3, 0, none⟩)
  | _ => True
theorem CyPv.up {B N3 NB i : Nat} {VD : Value} {x : De} {W W' : World} (s : StB B W W') (iz : Nat) (v : Value) (h : CyPv B N3 NB i VD x iz v W) : CyPv B N3 NB i VD x iz v W' := by
  unfold CyPv at h ⊢
  split
  all_goals first | exact h | exact EmB.up h s | trivial | skip
  · obtain ⟨va, vd, vs, h1, h2, h3, h4⟩ := h
    exact ⟨va, vd, vs, h1, h2.up s, h3.up s, h4.up s⟩
  · obtain ⟨ws, bk, h1⟩ := h
    exact ⟨ws, bk, h1.up s⟩
  · obtain ⟨V, ws, bk, h1, h2⟩ := h
    exact ⟨V, ws, bk, h1, h2.up s⟩
  · exact DfB.up h s
theorem id_row {B : Nat} {W : World} {va vd vs : Value} (a : EmB B 81 va W) (d : EmB B 86 vd W) (s : EmB B 63 vs W) (hb : B ≤ W.heap.size) : ∃ ws bk, RowK B (W.alloc (.cells #[.int .i64 1, .string ⟨#[]⟩, .string ⟨#[105, 100]⟩, va, vd, vs] 63)) (.slice (some ⟨W.heap.size, 0, none⟩) 1 1) idS ws bk :=
  ⟨_, _, RowK.first (one_of 1 ⟨#[]⟩ ⟨#[105, 100]⟩ a d s) hb⟩
end Go.Proofs.Ytajjaddlalbnmaa
namespace Go.Proofs.Ytajjaddlalbnmaa
open Go.ChangeShapes Go.WideShapes Go.ChangeAt Go.RowKit
open Go.Proofs.Ytajjaddlalbnmaa.G (row_cell row_frozen row_set)
set_option linter.unusedVariables false

def cycN (j : Nat) : ByteArray := if j = 0 then ⟨#[102]⟩ else if j = 1 then ⟨#[103]⟩ else ⟨#[104]⟩
def sprH (v : Nat) : Hd := ⟨2, ⟨#[]⟩, cycN v, [], []⟩
def sprS (v : Nat) : Sels := app ([(⟨1, ⟨#[]⟩, ⟨#[105, 100]⟩, [], []⟩, .nil)] ++ [(sprH v, .nil)]) .nil
structure SpJ (base L n q : Nat) (a : Option Addr) (w w8 : World) (V : Value) (ws : List Value) (bk : List Nat) (f13 f21 : Bool) (y82 : Value) (W : World) : Prop where
  g : w.grownBy W (some L)
  zs : w8.heap.size ≤ W.heap.size
  el : ∀ g, g < w8.heap.size → g ≠ L → V.ownBlock ≠ some g → W.heap[g]? = w8.heap[g]?
  s0 : f13 = false → SrcSt W L a n q
  s1 : f13 = true → SrcSt W L a n (q + 1)
  r0 : f21 = false → w8.grownBy W (some L)
  r1 : f21 = true → ∃ v g9 c9 ws' bk', v < 3 ∧ y82 = .slice (some ⟨g9, 0, none⟩) 2 c9 ∧ RowK base W (.slice (some ⟨g9, 0, none⟩) 2 c9) (sprS v) ws' bk' ∧ ∀ p ∈ g9 :: bk', p ∈ blk V ++ bk ∨ w8.heap.size ≤ p
section
variable {base L n q : Nat} {a : Option Addr} {w w8 W W' : World} {V y82 : Value} {ws : List Value} {bk : List Nat} {f13 f21 : Bool}
theorem SpJ.below (h : SpJ base L n q a w w8 V ws bk f13 f21 y82 W) (hb : Below W.heap.size W W') : SpJ base L n q a w w8 V ws bk f13 f21 y82 W' := by
  have hL : L < W.heap.size := by cases hf : f13 with | false => exact (h.s0 hf).lt | true => exact (h.s1 hf).lt
  refine ⟨grown_below h.g hb, Nat.le_trans h.zs hb.size, fun g h1 h2 h3 => (hb.block g (by have := h.zs; omega)).trans (h.el g h1 h2 h3), fun q => (h.s0 q).move (hb.block L hL), fun q => (h.s1 q).move (hb.block L hL), fun q => grown_below (h.r0 q) hb, fun q => ?_⟩
  obtain ⟨v, g9, c9, ws', bk', e1, e2, e3, e4⟩ := h.r1 q
  exact ⟨v, g9, c9, ws', bk', e1, e2, e3.keep hb.size fun g hg => hb.block g (e3.all g hg).2, e4⟩
theorem SpJ.call (h : SpJ base L n q a w w8 V ws bk false f21 y82 W) (hg : W.grownBy W' (some L)) (hL : L < base) (hs : SrcSt W' L a n (q + 1)) : SpJ base L n q a w w8 V ws bk true f21 y82 W' := by
  refine ⟨grown_trans h.g hg, Nat.le_trans h.zs hg.size, fun g h1 h2 h3 => (grown_sameK hg (by have := h.zs; omega) h2).trans (h.el g h1 h2 h3), fun q => (by cases q), fun _ => hs, fun q => grown_trans (h.r0 q) hg, fun q => ?_⟩
  obtain ⟨v, g9, c9, ws', bk', e1, e2, e3, e4⟩ := h.r1 q
  exact ⟨v, g9, c9, ws', bk', e1, e2, e3.grow hg hL, e4⟩
theorem SpJ.put {v g9 c9 : Nat} {ws' : List Value} {bk' : List Nat} {y' : Value} (h : SpJ base L n q a w w8 V ws bk f13 false y82 W) (hg : W.grownBy W' V.ownBlock) (hV : ∀ g, V.ownBlock = some g → base ≤ g) (hw : w.heap.size ≤ base) (hL : L < base) (hv : v < 3) (hy : y' = .slice (some ⟨g9, 0, none⟩) 2 c9)
    (R : RowK base W' (.slice (some ⟨g9, 0, none⟩) 2 c9) (sprS v) ws' bk') (hq : ∀ p ∈ g9 :: bk', p ∈ blk V ++ bk ∨ w8.heap.size ≤ p) : SpJ base L n q a w w8 V ws bk f13 true y' W' := by
  have hLs : L < W.heap.size := by cases hf : f13 with | false => exact (h.s0 hf).lt | true => exact (h.s1 hf).lt
  have eL : W'.heap[L]? = W.heap[L]? := hg.block L hLs fun e => by have := hV L e.symm; omega
  exact ⟨grown_append h.g hg fun g e => (by have := hV g e; omega), Nat.le_trans h.zs hg.size, fun g h1 h2 h3 => (hg.block g (by have := h.zs; omega) fun e => h3 e.symm).trans (h.el g h1 h2 h3), fun q => (h.s0 q).move eL, fun q => (h.s1 q).move eL, fun q => (by cases q), fun _ => ⟨v, g9, c9, ws', bk', hv, hy, R, hq⟩⟩
end
/-- A new list of one spread. -/
def SpB (B : Nat) (v : Value) (W : World) : Prop := ∃ m g va vd vs, m < 3 ∧ v = .slice (some ⟨g, 0, none⟩) 1 1 ∧ B ≤ g ∧ W.heap[g]? = some (.cells #[.int .i64 2, .string ⟨#[]⟩, .string (cycN m), va, vd, vs] 63 (0, 0)) ∧ EmB B 81 va W ∧ EmB B 86 vd W ∧ EmB B 63 vs W
theorem SpB.up {B : Nat} {v : Value} {W W' : World} (h : SpB B v W) (s : StB B W W') : SpB B v W' := by
  obtain ⟨m, g, va, vd, vs, h0, h1, h2, h3, h4, h5, h6⟩ := h
  exact ⟨m, g, va, vd, vs, h0, h1, h2, by rw [s.2 g h2 (Array.getElem?_eq_some_iff.1 h3).1]; exact h3, h4.up s, h5.up s, h6.up s⟩
/-- The append of the spread. -/
theorem app_spr {base L : Nat} {w8 W : World} {V v : Value} {ws : List Value} {bk : List Nat} (R : RowK base w8 V idS ws bk) (G : w8.grownBy W (some L)) (hL : L < base) (hb : base ≤ w8.heap.size) (h : SpB w8.heap.size v W) :
    ∃ m g9 c9 W' ws' bk', m < 3 ∧ (Builtin.append_ #[28, 28] 28 #[V, v]).run Try.prog W = .ok (.slice (some ⟨g9, 0, none⟩) 2 c9) W' ∧ RowK base W' (.slice (some ⟨g9, 0, none⟩) 2 c9) (sprS m) ws' bk' ∧ W.grownBy W' V.ownBlock ∧ ∀ p ∈ g9 :: bk', p ∈ blk V ++ bk ∨ w8.heap.size ≤ p := by
  obtain ⟨m, g, va, vd, vs, hm, rfl, h2, h3, h4, h5, h6⟩ := h
  have hlg := (Array.getElem?_eq_some_iff.1 h3).1
  have hz := G.size
  obtain ⟨i, hi, hz0, hsz, hby⟩ := info_selS
  have RW := R.grow G hL
  obtain ⟨g9, c9, W', hrun, o1, o2, o3, o4⟩ := run_append_lies (P := Try.prog) W 28 28 base 63 i _ 6 112 Try.underlying28 hi hz0 hsz hby rfl (by decide) V 1 ws RW.own ⟨g, 0, none⟩ 1 1 [.int .i64 2, .string ⟨#[]⟩, .string (cycN m), va, vd, vs] rfl (fun j y hx => by
    rw [add_plain, Nat.zero_add, row_cell h3 j]
    simpa using hx) (fun y hy => by
    obtain ⟨g1, rfl, _, _⟩ := h4
    obtain ⟨g2, rfl, _, _⟩ := h5
    obtain ⟨g3, rfl, _, _⟩ := h6
    simp only [List.mem_cons, List.not_mem_nil, or_false] at hy
    rcases hy with rfl | rfl | rfl | rfl | rfl | rfl <;> rfl) (by omega) (by unfold maxLen; omega) (by omega) (by omega) W.heap.size rfl
  have O := one_of 2 ⟨#[]⟩ (cycN m) h4 h5 h6
  refine ⟨m, g9, c9, W', _, _, hm, hrun, RowK.push (pre := [(⟨1, ⟨#[]⟩, ⟨#[105, 100]⟩, [], []⟩, .nil)]) (h := sprH m) (sub := .nil) R G hL hb O (Below.refl _ _) o2 o3 (by simpa [app, Sels.len, sprH] using o1), o2, fun p hp => ?_⟩
  simp only [List.mem_cons, List.mem_append] at hp
  rcases hp with rfl | hp | hp
  · rcases o3 with o3 | o3
    · exact .inl (List.mem_append_left _ (mem_blk o3))
    · right; omega
  · exact .inl (List.mem_append_right _ hp)
  · exact .inr (O.inn p (by simpa only [List.mem_append] using hp)).1
def SpPv (B N3 NB L g8 i j : Nat) (VD V : Value) (iz : Nat) (v : Value) (W : World) : Prop := match iz with
  | 0 => v = .pointer (some ⟨N3, 0, none⟩)
  | 1 => v = VD
  | 2 => v = .int .i64 (i : Int)
  | 3 => v = .int .i64 (j : Int)
  | 4 => v = .pointer (some ⟨N3, 0, none⟩)
  | 5 => v = VD
  | 6 => v = .int .i64 (i : Int)
  | 7 => v = .int .i64 (j : Int)
  | 8 => v = .pointer (some ⟨g8, j * 4, none⟩)
  | 9 => v = .pointer (some ⟨g8, j * 4 + 3, none⟩)
  | 10 => v = V
  | 11 => v = .slice (some ⟨NB, 0, none⟩) 3 3
  | 12 => v = .pointer (some ⟨L, 0, none⟩)
  | 13 => ∃ m : Nat, m < 3 ∧ v = .int .i64 (m : Int)
  | 14 => ∃ m : Nat, m < 3 ∧ v = .pointer (some ⟨NB, m, none⟩)
  | 15 => ∃ m : Nat, m < 3 ∧ v = .string (cycN m)
  | 16 => EmB B 81 v W
  | 17 => EmB B 86 v W
  | 18 => EmB B 63 v W
  | 19 => ∃ (m : Nat) (va vd vs : Value), m < 3 ∧ v = .agg #[.int .i64 2, .string ⟨#[]⟩, .string (cycN m), va, vd, vs] ∧ EmB B 81 va W ∧ EmB B 86 vd W ∧ EmB B 63 vs W
  | 20 => SpB B v W
  | 22 => v = .pointer (some ⟨g8, j * 4, none⟩)
  | 23 => v = .pointer (some ⟨g8, j * 4 + 3, none⟩)
  | _ => True
theorem SpPv.up {B N3 NB L g8 i j : Nat} {VD V : Value} {W W' : World} (s : StB B W W') (iz : Nat) (v : Value) (h : SpPv B N3 NB L g8 i j VD V iz v W) : SpPv B N3 NB L g8 i j VD V iz v W' := by
  unfold SpPv at h ⊢
  split
  all_goals first | exact h | exact EmB.up h s | exact SpB.up h s | trivial | skip
  · obtain ⟨m, va, vd, vs, h0, h1, h2, h3, h4⟩ := h
    exact ⟨m, va, vd, vs, h0, h1, h2.up s, h3.up s, h4.up s⟩
def SpL (base L n q : Nat) (a : Option Addr) (w w8 : World) (V : Value) (ws : List Value) (bk : List Nat) (D : Array Bool) (y : Nat → Value) (W : World) : Prop :=
  SpJ base L n q a w w8 V ws bk (D.getD 13 false) (D.getD 21 false) (y 82) W
section
variable {base L n q : Nat} {a : Option Addr} {w w8 W W' : World} {V : Value} {ws : List Value} {bk : List Nat} {D : Array Bool} {y : Nat → Value}
theorem SpL.plain {i s : Nat} {v : Value} (h : SpL base L n q a w w8 V ws bk D y W) (hb : Below W.heap.size W W') (h1 : i ≠ 13) (h2 : i ≠ 21) (hs : 82 ≠ s) : SpL base L n q a w w8 V ws bk (D.setIfInBounds i true) (fun k => if k = s then v else y k) W' := by
  unfold SpL
  rw [gdK_ne h1, gdK_ne h2]
  simp only [hs, if_false]
  exact SpJ.below h hb
theorem SpL.call {v : Value} (h : SpL base L n q a w w8 V ws bk D y W) (hD : 13 < D.size) (h1 : D.getD 13 false = false) (hg : W.grownBy W' (some L)) (hL : L < base) (hs : SrcSt W' L a n (q + 1)) : SpL base L n q a w w8 V ws bk (D.setIfInBounds 13 true) (fun k => if k = 74 then v else y k) W' := by
  unfold SpL at h ⊢
  rw [gdK_at hD, gdK_ne (by decide)]
  rw [h1] at h
  simp only [show (82 : Nat) ≠ 74 by decide, if_false]
  exact SpJ.call h hg hL hs
theorem SpL.put {v g9 c9 : Nat} {ws' : List Value} {bk' : List Nat} {y' : Value} (h : SpL base L n q a w w8 V ws bk D y W) (hD : 21 < D.size) (h1 : D.getD 21 false = false) (hg : W.grownBy W' V.ownBlock) (hV : ∀ g, V.ownBlock = some g → base ≤ g) (hw : w.heap.size ≤ base) (hL : L < base) (hv : v < 3) (hy : y' = .slice (some ⟨g9, 0, none⟩) 2 c9)
    (R : RowK base W' (.slice (some ⟨g9, 0, none⟩) 2 c9) (sprS v) ws' bk') (hq : ∀ p ∈ g9 :: bk', p ∈ blk V ++ bk ∨ w8.heap.size ≤ p) : SpL base L n q a w w8 V ws bk (D.setIfInBounds 21 true) (fun k => if k = 82 then y' else y k) W' := by
  unfold SpL at h ⊢
  rw [gdK_at hD, gdK_ne (by decide)]
  rw [h1] at h
  simp only [if_true]
  exact SpJ.put h hg hV hw hL hv hy R hq
theorem SpL.lt (h : SpL base L n q a w w8 V ws bk D y W) : L < W.heap.size := by
  unfold SpL at h
  cases hf : D.getD 13 false with | false => exact (h.s0 hf).lt | true => exact (h.s1 hf).lt
end
/-- With the store at the end: its index may only come ahead of it. -/
def SpF (Fin : World → Prop) (J : Array Bool → (Nat → Value) → World → Prop) (D : Array Bool) (y : Nat → Value) (W : World) : Prop :=
  (D.getD 23 false = true → D.getD 22 false = true) ∧ (D.getD 24 false = false → J D y W) ∧ (D.getD 24 false = true → (∀ i, i < 24 → D.getD i false = true) ∧ Fin W)
theorem SpF.get {Fin : World → Prop} {J : Array Bool → (Nat → Value) → World → Prop} {D : Array Bool} {y : Nat → Value} {W : World} (h : SpF Fin J D y W) {i : Nat} (hi : i < 24) (hD : D.getD i false = false) : J D y W := by
  refine h.2.1 ?_
  cases q : D.getD 24 false
  · rfl
  · have := (h.2.2 q).1 i hi; rw [hD] at this; cases this
theorem SpF.set {Fin : World → Prop} {J : Array Bool → (Nat → Value) → World → Prop} {D : Array Bool} {y y' : Nat → Value} {W W' : World} (h : SpF Fin J D y W) {i : Nat} (hi : i < 24) (hs : i < D.size) (hD : D.getD i false = false) (h22 : i = 23 → D.getD 22 false = true) (hj : J (D.setIfInBounds i true) y' W') : SpF Fin J (D.setIfInBounds i true) y' W' := by
  refine ⟨fun q => ?_, fun _ => hj, fun q => ?_⟩
  · by_cases e : i = 22
    · subst e; exact gdK_at hs
    · rw [gdK_ne e]
      by_cases e3 : i = 23
      · exact h22 e3
      · rw [gdK_ne e3] at q; exact h.1 q
  · rw [gdK_ne (by omega)] at q
    have := (h.2.2 q).1 i hi; rw [hD] at this; cases this
theorem SpF.store {Fin : World → Prop} {J : Array Bool → (Nat → Value) → World → Prop} {D : Array Bool} {y y' : Nat → Value} {W W' : World} (h : SpF Fin J D y W) (hs : 24 < D.size) (hall : ∀ i, i < 24 → i ≠ 22 → D.getD i false = true) (hf : Fin W') : SpF Fin J (D.setIfInBounds 24 true) y' W' := by
  have h22 := h.1 (hall 23 (by decide) (by decide))
  refine ⟨fun _ => by rw [gdK_ne (by decide)]; exact h22, fun q => ?_, fun _ => ⟨fun i hi => ?_, hf⟩⟩
  · rw [gdK_at hs] at q; cases q
  · rw [gdK_ne (by omega)]
    by_cases e : i = 22
    · subst e; exact h22
    · exact hall i hi e
end Go.Proofs.Ytajjaddlalbnmaa
namespace Go.Proofs.Ytajjaddlalbnmaa
open Go.ChangeShapes Go.WideShapes Go.ChangeAt Go.RowKit
open Go.Proofs.Ytajjaddlalbnmaa.G (row_cell row_frozen row_set)
set_option linter.unusedVariables false

def zeS : List Value := [.int .i64 0, .string ⟨#[]⟩, .string ⟨#[]⟩, .slice none 0 0, .slice none 0 0, .slice none 0 0]
/-- A new list of one zero selection. -/
def ZsB (B : Nat) (v : Value) (W : World) : Prop := ∃ g, v = .slice (some ⟨g, 0, none⟩) 1 1 ∧ B ≤ g ∧ W.heap[g]? = some (.cells #[.int .i64 0, .string ⟨#[]⟩, .string ⟨#[]⟩, .slice none 0 0, .slice none 0 0, .slice none 0 0] 63 (0, 0))
theorem ZsB.up {B : Nat} {v : Value} {W W' : World} (h : ZsB B v W) (s : StB B W W') : ZsB B v W' := by
  obtain ⟨g, h1, h2, h3⟩ := h
  exact ⟨g, h1, h2, by rw [s.2 g h2 (Array.getElem?_eq_some_iff.1 h3).1]; exact h3⟩
structure SqM (base L n q : Nat) (a : Option Addr) (w w8 : World) (V : Value) (ws : List Value) (y57 : Value) (W : World) : Prop where
  g : w.grownBy W (some L)
  zs : w8.heap.size ≤ W.heap.size
  el : ∀ g, g < w8.heap.size → g ≠ L → V.ownBlock ≠ some g → W.heap[g]? = w8.heap[g]?
  s : SrcSt W L a n (q + 1)
  r : ∃ g9 c9, y57 = .slice (some ⟨g9, 0, none⟩) 2 c9 ∧ W.ownsRow base 63 6 (.slice (some ⟨g9, 0, none⟩) 2 c9) 2 (ws ++ zeS) ∧ (V.ownBlock = some g9 ∨ w8.heap.size ≤ g9)
/-- The append of the place. -/
theorem app_zero {base L n q : Nat} {a : Option Addr} {w w8 W : World} {V v y : Value} {ws : List Value} {bk : List Nat} (R : RowK base w8 V idS ws bk) (J : SpJ base L n q a w w8 V ws bk true false y W) (hL : L < base) (hb : base ≤ w8.heap.size) (hw : w.heap.size ≤ base) (h : ZsB w8.heap.size v W) :
    ∃ g9 c9 W', (Builtin.append_ #[28, 28] 28 #[V, v]).run Try.prog W = .ok (.slice (some ⟨g9, 0, none⟩) 2 c9) W' ∧ SqM base L n q a w w8 V ws (.slice (some ⟨g9, 0, none⟩) 2 c9) W' ∧ W.grownBy W' V.ownBlock := by
  obtain ⟨g, rfl, h2, h3⟩ := h
  have hlg := (Array.getElem?_eq_some_iff.1 h3).1
  have G := J.r0 rfl
  have hz := G.size
  obtain ⟨i, hi, hz0, hsz, hby⟩ := info_selS
  have RW := R.grow G hL
  obtain ⟨g9, c9, W', hrun, o1, o2, o3, o4⟩ := run_append_lies (P := Try.prog) W 28 28 base 63 i _ 6 112 Try.underlying28 hi hz0 hsz hby rfl (by decide) V 1 ws RW.own ⟨g, 0, none⟩ 1 1 zeS rfl (fun j y hx => by
    rw [add_plain, Nat.zero_add, row_cell h3 j]
    simpa [zeS] using hx) (fun y hy => by
    simp only [zeS, List.mem_cons, List.not_mem_nil, or_false] at hy
    rcases hy with rfl | rfl | rfl | rfl | rfl | rfl <;> rfl) (by omega) (by unfold maxLen; omega) (by omega) (by omega) W.heap.size rfl
  have hVb : ∀ g, V.ownBlock = some g → base ≤ g ∧ g < w8.heap.size := fun g hg => World.ownsRow.lt R.own g hg
  have s1 := J.s1 rfl
  have eL : W'.heap[L]? = W.heap[L]? := o2.block L s1.lt fun e => by have := hVb L e.symm; omega
  refine ⟨g9, c9, W', hrun, ⟨grown_append J.g o2 fun g e => (by have := hVb g e; omega), Nat.le_trans J.zs o2.size, fun g h1 h2 h3 => (o2.block g (by omega) fun e => h3 e.symm).trans (J.el g h1 h2 h3), s1.move eL, g9, c9, rfl, o1, ?_⟩, o2⟩
  rcases o3 with o3 | o3
  · exact .inl o3
  · right; omega
def SqPv (B N3 NB L g8 i j : Nat) (VD V : Value) (iz : Nat) (v : Value) (W : World) : Prop := match iz with
  | 20 => v = .int .i64 1
  | 21 => ZsB B v W
  | 22 => True
  | 23 => v = .pointer (some ⟨g8, j * 4, none⟩)
  | 24 => v = .pointer (some ⟨g8, j * 4 + 3, none⟩)
  | 0 => SpPv B N3 NB L g8 i j VD V 0 v W
  | 1 => SpPv B N3 NB L g8 i j VD V 1 v W
  | 2 => SpPv B N3 NB L g8 i j VD V 2 v W
  | 3 => SpPv B N3 NB L g8 i j VD V 3 v W
  | 4 => SpPv B N3 NB L g8 i j VD V 4 v W
  | 5 => SpPv B N3 NB L g8 i j VD V 5 v W
  | 6 => SpPv B N3 NB L g8 i j VD V 6 v W
  | 7 => SpPv B N3 NB L g8 i j VD V 7 v W
  | 8 => SpPv B N3 NB L g8 i j VD V 8 v W
  | 9 => SpPv B N3 NB L g8 i j VD V 9 v W
  | 10 => SpPv B N3 NB L g8 i j VD V 10 v W
  | 11 => SpPv B N3 NB L g8 i j VD V 11 v W
  | 12 => SpPv B N3 NB L g8 i j VD V 12 v W
  | 13 => SpPv B N3 NB L g8 i j VD V 13 v W
  | 14 => SpPv B N3 NB L g8 i j VD V 14 v W
  | 15 => SpPv B N3 NB L g8 i j VD V 15 v W
  | 16 => SpPv B N3 NB L g8 i j VD V 16 v W
  | 17 => SpPv B N3 NB L g8 i j VD V 17 v W
  | 18 => SpPv B N3 NB L g8 i j VD V 18 v W
  | 19 => SpPv B N3 NB L g8 i j VD V 19 v W
  | _ => True
theorem SqPv.up {B N3 NB L g8 i j : Nat} {VD V : Value} {W W' : World} (s : StB B W W') (iz : Nat) (v : Value) (h : SqPv B N3 NB L g8 i j VD V iz v W) : SqPv B N3 NB L g8 i j VD V iz v W' := by
  unfold SqPv at h ⊢
  split
  all_goals first | exact h | exact ZsB.up h s | trivial | exact SpPv.up s _ _ h
/-- How far it has come. -/
def SqF (base L n q : Nat) (a : Option Addr) (w w8 : World) (V : Value) (ws : List Value) (bk : List Nat) (Fin : Value → World → Prop) (D : Array Bool) (y : Nat → Value) (W : World) : Prop :=
  (D.getD 22 false = false → D.getD 25 false = false ∧ SpJ base L n q a w w8 V ws bk (D.getD 13 false) false undef W) ∧
  (D.getD 22 false = true → (∀ i, i < 22 → D.getD i false = true) ∧ (D.getD 25 false = false → SqM base L n q a w w8 V ws (y 57) W) ∧ (D.getD 25 false = true → D.getD 23 false = true ∧ D.getD 24 false = true ∧ Fin (y 57) W)) ∧
  (D.getD 24 false = true → D.getD 23 false = true)
section
variable {base L n q : Nat} {a : Option Addr} {w w8 W W' : World} {V : Value} {ws : List Value} {bk : List Nat} {Fin : Value → World → Prop} {D : Array Bool} {y : Nat → Value}
theorem SqF.get {i : Nat} (h : SqF base L n q a w w8 V ws bk Fin D y W) (hi : i < 23) (hD : D.getD i false = false) : D.getD 22 false = false ∧ D.getD 25 false = false ∧ SpJ base L n q a w w8 V ws bk (D.getD 13 false) false undef W := by
  have h22 : D.getD 22 false = false := by
    cases q : D.getD 22 false
    · rfl
    · by_cases e : i = 22
      · subst e; rw [q] at hD; cases hD
      · have := (h.2.1 q).1 i (by omega); rw [hD] at this; cases this
  exact ⟨h22, h.1 h22⟩
theorem SqF.set {i s : Nat} {v : Value} (h : SqF base L n q a w w8 V ws bk Fin D y W) (hi : i < 22) (hD : D.getD i false = false) (hj : SpJ base L n q a w w8 V ws bk ((D.setIfInBounds i true).getD 13 false) false undef W') : SqF base L n q a w w8 V ws bk Fin (D.setIfInBounds i true) (fun k => if k = s then v else y k) W' := by
  obtain ⟨h22, h25, h1⟩ := h.get (i := i) (by omega) hD
  refine ⟨fun _ => ⟨?_, hj⟩, fun q => ?_, fun q => ?_⟩
  · rw [gdK_ne (by omega)]; exact h25
  · rw [gdK_ne (by omega), h22] at q; cases q
  · rw [gdK_ne (by omega)] at q ⊢; exact h.2.2 q
theorem SqF.plain {i s : Nat} {v : Value} (h : SqF base L n q a w w8 V ws bk Fin D y W) (hb : Below W.heap.size W W') (hi : i < 22) (h13 : i ≠ 13) (hD : D.getD i false = false) : SqF base L n q a w w8 V ws bk Fin (D.setIfInBounds i true) (fun k => if k = s then v else y k) W' :=
  h.set hi hD (by rw [gdK_ne h13]; exact SpJ.below (h.get (i := i) (by omega) hD).2.2 hb)
theorem SqF.call {v : Value} {s : Nat} (h : SqF base L n q a w w8 V ws bk Fin D y W) (hs0 : 13 < D.size) (hD : D.getD 13 false = false) (hg : W.grownBy W' (some L)) (hL : L < base) (hs : SrcSt W' L a n (q + 1)) : SqF base L n q a w w8 V ws bk Fin (D.setIfInBounds 13 true) (fun k => if k = s then v else y k) W' := by
  refine h.set (by decide) hD ?_
  have := (h.get (i := 13) (by decide) hD).2.2
  rw [hD] at this
  rw [gdK_at hs0]
  exact SpJ.call this hg hL hs
theorem SqF.mid {v : Value} (h : SqF base L n q a w w8 V ws bk Fin D y W) (hs0 : 22 < D.size) (hD : D.getD 22 false = false) (hall : ∀ i, i < 22 → D.getD i false = true) (hm : SqM base L n q a w w8 V ws v W') : SqF base L n q a w w8 V ws bk Fin (D.setIfInBounds 22 true) (fun k => if k = 57 then v else y k) W' := by
  obtain ⟨h25, h1⟩ := h.1 hD
  refine ⟨fun q => ?_, fun _ => ⟨fun i hi => ?_, fun _ => by simpa using hm, fun q => ?_⟩, fun q => ?_⟩
  · rw [gdK_at hs0] at q; cases q
  · rw [gdK_ne (by omega)]; exact hall i hi
  · rw [gdK_ne (by decide), h25] at q; cases q
  · rw [gdK_ne (by decide)] at q ⊢; exact h.2.2 q
theorem SqF.keep {i s : Nat} {v : Value} (h : SqF base L n q a w w8 V ws bk Fin D y W) (h22 : D.getD 22 false = true) (hi : i = 23 ∨ i = 24) (hs0 : 24 < D.size) (hD : D.getD i false = false) (h23 : i = 24 → D.getD 23 false = true) (hs : 57 ≠ s) : SqF base L n q a w w8 V ws bk Fin (D.setIfInBounds i true) (fun k => if k = s then v else y k) W := by
  obtain ⟨k1, k2, k3⟩ := h.2.1 h22
  refine ⟨fun q => ?_, fun _ => ⟨fun ii h2 => ?_, fun q => ?_, fun q => ?_⟩, fun q => ?_⟩
  · rw [gdK_ne (by omega), h22] at q; cases q
  · rw [gdK_ne (by omega)]; exact k1 ii h2
  · rw [gdK_ne (by omega)] at q; simp only [hs, if_false]; exact k2 q
  · rw [gdK_ne (by omega)] at q
    obtain ⟨a1, a2, -⟩ := k3 q
    rcases hi with rfl | rfl
    · rw [hD] at a1; cases a1
    · rw [hD] at a2; cases a2
  · rcases hi with rfl | rfl
    · exact gdK_at (by omega)
    · rw [gdK_ne (by decide)]; exact h23 rfl
theorem SqF.store {s : Nat} {v : Value} (h : SqF base L n q a w w8 V ws bk Fin D y W) (h22 : D.getD 22 false = true) (h24 : D.getD 24 false = true) (hs0 : 25 < D.size) (hs : 57 ≠ s) (hf : Fin (y 57) W') : SqF base L n q a w w8 V ws bk Fin (D.setIfInBounds 25 true) (fun k => if k = s then v else y k) W' := by
  obtain ⟨k1, k2, k3⟩ := h.2.1 h22
  have h23 := h.2.2 h24
  refine ⟨fun q => ?_, fun _ => ⟨fun ii h2 => ?_, fun q => ?_, fun q => ?_⟩, fun q => ?_⟩
  · rw [gdK_ne (by decide), h22] at q; cases q
  · rw [gdK_ne (by omega)]; exact k1 ii h2
  · rw [gdK_at hs0] at q; cases q
  · rw [gdK_ne (by decide), gdK_ne (by decide)]
    refine ⟨h23, h24, ?_⟩
    simp only [hs, if_false]; exact hf
  · rw [gdK_ne (by decide)]; exact h23
end
/-- A selection of new empty lists behind a row, in a world that has it. -/
theorem RowK.pushAt {base g9 c9 : Nat} {w8 Z : World} {V va vd vs : Value} {h : Hd} {pre : List (Hd × Sels)} {ws : List Value} {bk : List Nat} {n9 : Nat} (R : RowK base w8 V (app pre .nil) ws bk) (hz : w8.heap.size ≤ Z.heap.size) (hb : base ≤ w8.heap.size) (kp : ∀ g ∈ bk, Z.heap[g]? = w8.heap[g]?)
    (O : OneK w8.heap.size Z h .nil va vd vs [] []) (hat : V.ownBlock = some g9 ∨ w8.heap.size ≤ g9) (hne : ∀ g ∈ blk va ++ (blk vd ++ (blk vs ++ [])), g ≠ g9)
    (ho : Z.ownsRow base 63 6 (.slice (some ⟨g9, 0, none⟩) n9 c9) (app (pre ++ [(h, .nil)]) .nil).len (ws ++ [.int .i64 h.k, .string h.al, .string h.nm, va, vd, vs])) :
    RowK base Z (.slice (some ⟨g9, 0, none⟩) n9 c9) (app (pre ++ [(h, .nil)]) .nil) (ws ++ [.int .i64 h.k, .string h.al, .string h.nm, va, vd, vs]) (bk ++ (blk va ++ (blk vd ++ (blk vs ++ [])))) := by
  have hnd := List.nodup_append.1 R.nd
  have kid : ∀ g ∈ bk, g ≠ g9 := fun g hg e => by
    subst e
    rcases hat with h | h
    · exact hnd.2.2 g (mem_blk h) g hg rfl
    · have := (R.inn g hg).2; omega
  refine ⟨ho, KidB.snoc O.a O.d O.s O.k pre (R.k.keep kp), ?_, fun g hg => ?_⟩
  · have e : blk (.slice (some ⟨g9, 0, none⟩) n9 c9) = [g9] := rfl
    rw [e, List.nodup_append]
    refine ⟨by simp, ?_, fun x hx y hy e => ?_⟩
    · rw [List.nodup_append]
      refine ⟨hnd.2.1, O.nd, fun x hx y hy e => ?_⟩
      subst e
      have := (R.inn x hx).2
      have := (O.inn x hy).1
      omega
    · simp only [List.mem_singleton] at hx
      rcases List.mem_append.1 hy with hy | hy
      · exact kid _ hy (by omega)
      · exact hne _ hy (by omega)
  · rcases List.mem_append.1 hg with hg | hg
    · have := R.inn g hg; exact ⟨this.1, by omega⟩
    · have := O.inn g hg; exact ⟨by omega, by omega⟩
/-- The last definition's selections are others since: what the world says of them. -/
theorem DocK.swapAt {base n cap g : Nat} {W Z : World} {l : List De} {x : De} {vs1 ws' : List Value} {V V' : Value} {bk bk' bs1 : List Nat} {s' : Sels}
    (K : DocK base W (.slice (some ⟨g, 0, none⟩) n cap) (l ++ [x]) (vs1 ++ [.int .i64 x.k, .string x.nm, .string x.on, V]) (bs1 ++ (blk V ++ bk))) (kl : DefK W l vs1 bs1) (hz : W.heap.size ≤ Z.heap.size)
    (kp : ∀ q ∈ bs1, Z.heap[q]? = W.heap[q]?) (ho : Z.ownsRow base 30 4 (.slice (some ⟨g, 0, none⟩) n cap) (l ++ [x]).length (vs1 ++ [.int .i64 x.k, .string x.nm, .string x.on, V'])) (R : RowK base Z V' s' ws' bk') (hnew : ∀ q ∈ blk V' ++ bk', q ∈ blk V ++ bk ∨ W.heap.size ≤ q) :
    DocK base Z (.slice (some ⟨g, 0, none⟩) n cap) (l ++ [⟨x.k, x.nm, x.on, s'⟩]) (vs1 ++ [.int .i64 x.k, .string x.nm, .string x.on, V']) (bs1 ++ (blk V' ++ bk')) := by
  have hg : blk (.slice (some ⟨g, 0, none⟩) n cap) = [g] := rfl
  have hnd := K.nd
  rw [hg, List.nodup_append] at hnd
  obtain ⟨_, hnd1, hnd2⟩ := hnd
  have hnd3 := List.nodup_append.1 hnd1
  have gin := K.all g (by rw [hg]; simp)
  have ng : ∀ q ∈ bs1, q ≠ g := fun q hq e => hnd2 g (by simp) q (List.mem_append_left _ hq) e.symm
  have nv : ∀ q ∈ blk V' ++ bk', q ≠ g := fun q hq e => by
    subst e
    rcases hnew q hq with h | h
    · exact hnd2 q (by simp) q (List.mem_append_right _ h) rfl
    · omega
  have nb : ∀ q ∈ bs1, ∀ p ∈ blk V' ++ bk', q ≠ p := fun q hq p hp e => by
    subst e
    rcases hnew q hp with h | h
    · exact hnd3.2.2 q hq q h rfl
    · have := (K.inn q (List.mem_append_left _ hq)).2; omega
  have hl : (l ++ [(⟨x.k, x.nm, x.on, s'⟩ : De)]).length = (l ++ [x]).length := by simp
  refine ⟨by rw [hl]; exact ho, DefK.snoc (x := ⟨x.k, x.nm, x.on, s'⟩) (owns_base R.own fun q _ => Nat.zero_le _) R.k l (kl.keep kp), ?_, fun q hq => ?_⟩
  · rw [hg, List.nodup_append]
    refine ⟨by simp, ?_, fun p hp q hq e => ?_⟩
    · rw [List.nodup_append]
      exact ⟨hnd3.1, R.nd, nb⟩
    · subst e
      simp only [List.mem_singleton] at hp
      subst hp
      rcases List.mem_append.1 hq with hq | hq
      · exact ng _ hq rfl
      · exact nv _ hq rfl
  · rcases List.mem_append.1 hq with hq | hq
    · have := K.inn q (List.mem_append_left _ hq); exact ⟨this.1, by omega⟩
    · have := R.all q hq; exact ⟨this.1, by omega⟩
/-- Six cells written, one selection's. -/
def set6 (W : World) (g : Nat) (vs : List Value) : World := (((((W.setCell ⟨g, 6, none⟩ (vs.getD 0 undef)).setCell ⟨g, 7, none⟩ (vs.getD 1 undef)).setCell ⟨g, 8, none⟩ (vs.getD 2 undef)).setCell ⟨g, 9, none⟩ (vs.getD 3 undef)).setCell ⟨g, 10, none⟩ (vs.getD 4 undef)).setCell ⟨g, 11, none⟩ (vs.getD 5 undef)
theorem own_set6 {W : World} {base n c g : Nat} {e : TypeId} {ws : List Value} (hw : ws.length = 6) (h : W.ownsRow base e 6 (.slice (some ⟨g, 0, none⟩) n c) n (ws ++ zeS)) (a1 a2 a3 a4 a5 a6 : Value) :
    (set6 W g [a1, a2, a3, a4, a5, a6]).ownsRow base e 6 (.slice (some ⟨g, 0, none⟩) n c) n (ws ++ [a1, a2, a3, a4, a5, a6]) := by
  have h6 := own_setAt (i := 11) (own_setAt (i := 10) (own_setAt (i := 9) (own_setAt (i := 8) (own_setAt (i := 7) (own_setAt (i := 6) h a1) a2) a3) a4) a5) a6
  match ws, hw with
  | [b1, b2, b3, b4, b5, b6], _ => exact h6
theorem set6_size (W : World) (g : Nat) (vs : List Value) : (set6 W g vs).heap.size = W.heap.size := by simp [set6, World.setCell]
theorem set6_other {W : World} {g q : Nat} {vs : List Value} (h : q ≠ g) : (set6 W g vs).heap[q]? = W.heap[q]? := by
  unfold set6
  rw [heap_setCell_other _ _ _ _ (by show q ≠ g; exact h), heap_setCell_other _ _ _ _ (by show q ≠ g; exact h), heap_setCell_other _ _ _ _ (by show q ≠ g; exact h), heap_setCell_other _ _ _ _ (by show q ≠ g; exact h), heap_setCell_other _ _ _ _ (by show q ≠ g; exact h), heap_setCell_other _ _ _ _ (by show q ≠ g; exact h)]
/-- Cells that are there, and may be written. -/
theorem own_at {W : World} {base z n c g o : Nat} {e : TypeId} {xs : List Value} (h : W.ownsRow base e z (.slice (some ⟨g, 0, none⟩) n c) n xs) (ho : o < xs.length) : (∃ x, W.cell? ⟨g, o, none⟩ = some x) ∧ W.frozen? ⟨g, o, none⟩ = false := by
  refine ⟨⟨xs[o], ?_⟩, ?_⟩
  · rw [h.cellAt o (by rw [← h.1]; exact ho)]
    exact List.getElem?_eq_getElem ho
  · rcases h.2 with ⟨e0, _⟩ | ⟨g', cap', cur, e0, h1, h2, _⟩
    · cases e0
    · simp only [Value.slice.injEq, Option.some.injEq, Addr.mk.injEq, and_true] at e0
      rw [e0.1]; exact row_frozen h2 o
theorem own_ne {W : World} {base z n c g B : Nat} {e e' : TypeId} {xs : List Value} {v : Value} (h : W.ownsRow base e z (.slice (some ⟨g, 0, none⟩) n c) n xs) (hx : 0 < xs.length) (k : EmB B e' v W) : ∀ q ∈ blk v, q ≠ g := by
  obtain ⟨g1, rfl, h2, h3⟩ := k
  intro q hq e0
  have e1 : q = g1 := by simpa [blk, Value.ownBlock] using hq
  subst e1; subst e0
  obtain ⟨⟨x, hc⟩, -⟩ := own_at h hx
  rw [row_cell h3 0] at hc
  simp at hc
theorem EmB.to {B : Nat} {e : TypeId} {v : Value} {W W' : World} (h : EmB B e v W) (k : ∀ q ∈ blk v, W'.heap[q]? = W.heap[q]?) : EmB B e v W' := by
  obtain ⟨g, h1, h2, h3⟩ := h
  exact ⟨g, h1, h2, by rw [k g (by rw [h1]; exact mem_blk rfl)]; exact h3⟩
/-- The row behind the six stores. -/
theorem sq_row {base L n q m g8 g9 c9 o : Nat} {a : Option Addr} {w w8 W1 W : World} {V va vd vs y57 : Value} {ws : List Value} {bk : List Nat} (R : RowK base w8 V idS ws bk) (M : SqM base L n q a w w8 V ws y57 W1) (hy : y57 = .slice (some ⟨g9, 0, none⟩) 2 c9) (hW : W = W1.setCell ⟨g8, o, none⟩ y57) (hL : L < base) (hb : base ≤ w8.heap.size) (h8 : g8 < w8.heap.size) (hV : V.ownBlock ≠ some g8)
    (e1 : EmB w8.heap.size 81 va W) (e2 : EmB w8.heap.size 86 vd W) (e3 : EmB w8.heap.size 63 vs W) (h8b : base ≤ g8) (hbk : g8 ∉ bk) :
    W.ownsRow base 63 6 (.slice (some ⟨g9, 0, none⟩) 2 c9) 2 (ws ++ zeS) ∧ ws.length = 6 ∧ g9 ≠ g8 ∧ base ≤ g9 ∧ (V.ownBlock = some g9 ∨ w8.heap.size ≤ g9) ∧ RowK base (set6 W g9 [.int .i64 2, .string ⟨#[]⟩, .string (cycN m), va, vd, vs]) (.slice (some ⟨g9, 0, none⟩) 2 c9) (sprS m) (ws ++ [.int .i64 2, .string ⟨#[]⟩, .string (cycN m), va, vd, vs]) (bk ++ (blk va ++ (blk vd ++ (blk vs ++ [])))) ∧
      ∀ p ∈ blk (.slice (some ⟨g9, 0, none⟩) 2 c9) ++ (bk ++ (blk va ++ (blk vd ++ (blk vs ++ [])))), p ∈ blk V ++ bk ∨ w8.heap.size ≤ p := by
  subst hy
  obtain ⟨g9', c9', ee, o9, hat⟩ := M.r
  simp only [Value.slice.injEq, Option.some.injEq, Addr.mk.injEq, and_true, true_and] at ee
  obtain ⟨rfl, rfl⟩ := ee
  have hne : g9 ≠ g8 := fun e => by
    subst e
    rcases hat with h | h
    · exact hV h
    · omega
  have ho : ∀ p, p ≠ g8 → W.heap[p]? = W1.heap[p]? := fun p hp => by rw [hW]; exact heap_setCell_other _ _ _ _ (by show p ≠ g8; exact hp)
  have o9W : W.ownsRow base 63 6 (.slice (some ⟨g9, 0, none⟩) 2 c9) 2 (ws ++ zeS) := owns_same o9 fun p hp => ho p (by
    have : g9 = p := by simpa [Value.ownBlock] using hp
    omega)
  have hws : ws.length = 6 := R.own.1
  have hx : 0 < (ws ++ zeS).length := by simp [hws]; omega
  have z : (set6 W g9 [.int .i64 2, .string ⟨#[]⟩, .string (cycN m), va, vd, vs]).heap.size = W1.heap.size := by rw [set6_size, hW]; simp [World.setCell]
  have hb9 := (World.ownsRow.lt o9W g9 rfl).1
  have n1 := own_ne o9W hx e1
  have n2 := own_ne o9W hx e2
  have n3 := own_ne o9W hx e3
  have O := one_of (k := 2) (al := ⟨#[]⟩) (nm := cycN m) (e1.to (W' := set6 W g9 [.int .i64 2, .string ⟨#[]⟩, .string (cycN m), va, vd, vs]) fun p hp => set6_other (n1 p hp)) (e2.to fun p hp => set6_other (n2 p hp)) (e3.to fun p hp => set6_other (n3 p hp))
  have hnd := List.nodup_append.1 R.nd
  have kid : ∀ p ∈ bk, p ≠ g9 := fun p hp e => by
    subst e
    rcases hat with h | h
    · exact hnd.2.2 p (mem_blk h) p hp rfl
    · have := (R.inn p hp).2; omega
  refine ⟨o9W, hws, hne, hb9, hat, RowK.pushAt (pre := [(⟨1, ⟨#[]⟩, ⟨#[105, 100]⟩, [], []⟩, .nil)]) (h := sprH m) R (by rw [z]; exact M.zs) hb (fun p hp => ?_) O hat (fun p hp => ?_) (own_set6 hws o9W _ _ _ _ _ _), fun p hp => ?_⟩
  · have hp1 := R.inn p hp
    rw [set6_other (kid p hp), ho p (fun e => hbk (e ▸ hp))]
    exact M.el p hp1.2 (by omega) (fun e => hnd.2.2 p (mem_blk e) p hp rfl)
  · simp only [List.append_nil, List.mem_append] at hp
    rcases hp with hp | hp | hp
    · exact n1 p hp
    · exact n2 p hp
    · exact n3 p hp
  · rcases List.mem_append.1 hp with hp | hp
    · have : p = g9 := by simpa [blk, Value.ownBlock] using hp
      subst this
      rcases hat with h | h
      · exact .inl (List.mem_append_left _ (mem_blk h))
      · exact .inr h
    · rcases List.mem_append.1 hp with hp | hp
      · exact .inl (List.mem_append_right _ hp)
      · exact .inr (O.inn p hp).1
end Go.Proofs.Ytajjaddlalbnmaa
