/- Rows of drawn definitions, each with a row of selections of its own; rows of their own are rows that can be read. (Out of PdDefs, PdOwn, without the reader.) -/
import Derived.Test.YtajjaddlalbnmaaKdRows
import Derived.Test.YtajjaddlalbnmaaGBase
namespace Go.Proofs.Ytajjaddlalbnmaa
open Go.ChangeShapes Go.WideShapes Go.ChangeAt Go.RowKit
set_option linter.unusedVariables false

def DefK (W : World) : List De → List Value → List Nat → Prop
  | [], vs, bs => vs = [] ∧ bs = []
  | x :: r, vs, bs => ∃ V vr ws bk br, vs = [.int .i64 x.k, .string x.nm, .string x.on, V] ++ vr ∧ bs = (blk V ++ bk) ++ br ∧ W.ownsRow 0 63 6 V x.sels.len ws ∧ KidB W x.sels ws bk ∧ DefK W r vr br
theorem DefK.lt {W : World} : ∀ {l : List De} {vs : List Value} {bs : List Nat}, DefK W l vs bs → ∀ g ∈ bs, g < W.heap.size
  | [], _, _, ⟨_, h⟩, g, hg => by rw [h] at hg; simp at hg
  | x :: r, _, _, ⟨V, vr, ws, bk, br, _, hb, o, k, kr⟩, g, hg => by
    rw [hb] at hg
    simp only [List.mem_append] at hg
    rcases hg with (hg | hg) | hg
    · exact (World.ownsRow.lt o g (blk_mem hg)).2
    · exact KidB.lt k g hg
    · exact DefK.lt kr g hg
theorem DefK.keep {W W' : World} : ∀ {l : List De} {vs : List Value} {bs : List Nat}, DefK W l vs bs → (∀ g ∈ bs, W'.heap[g]? = W.heap[g]?) → DefK W' l vs bs
  | [], _, _, h, _ => h
  | x :: r, _, _, ⟨V, vr, ws, bk, br, hv, hb, o, k, kr⟩, hk => by
    refine ⟨V, vr, ws, bk, br, hv, hb, owns_same o fun g hg => hk g ?_, KidB.keep k fun g hg => hk g ?_, DefK.keep kr fun g hg => hk g ?_⟩
    all_goals rw [hb]; simp only [List.mem_append]
    · exact .inl (.inl (mem_blk hg))
    · exact .inl (.inr hg)
    · exact .inr hg
theorem DefK.snoc {W : World} {x : De} {V : Value} {ws : List Value} {bk : List Nat} (o : W.ownsRow 0 63 6 V x.sels.len ws) (k : KidB W x.sels ws bk) :
    ∀ (l : List De) {vs : List Value} {bs : List Nat}, DefK W l vs bs → DefK W (l ++ [x]) (vs ++ [.int .i64 x.k, .string x.nm, .string x.on, V]) (bs ++ (blk V ++ bk))
  | [], vs, bs, ⟨h1, h2⟩ => by
    subst h1; subst h2
    exact ⟨V, [], ws, bk, [], by simp, by simp, o, k, rfl, rfl⟩
  | y :: l, _, _, ⟨V', vr, ws', bk', br, hv, hb, o', k', kr⟩ => by
    subst hv; subst hb
    exact ⟨V', _, ws', bk', _, List.append_assoc _ _ _, List.append_assoc _ _ _, o', k', DefK.snoc o k l kr⟩
/-- A row of definitions. -/
structure DocK (base : Nat) (W : World) (V : Value) (l : List De) (vs : List Value) (bs : List Nat) : Prop where
  own : W.ownsRow base 30 4 V l.length vs
  k : DefK W l vs bs
  nd : (blk V ++ bs).Nodup
  inn : ∀ g ∈ bs, base ≤ g ∧ g < W.heap.size
theorem DocK.all {base : Nat} {W : World} {V : Value} {l : List De} {vs : List Value} {bs : List Nat} (h : DocK base W V l vs bs) : ∀ g ∈ blk V ++ bs, base ≤ g ∧ g < W.heap.size := fun g hg => by
  rcases List.mem_append.1 hg with hg | hg
  · exact World.ownsRow.lt h.own g (blk_mem hg)
  · exact h.inn g hg
theorem DocK.keep {base : Nat} {W W' : World} {V : Value} {l : List De} {vs : List Value} {bs : List Nat} (h : DocK base W V l vs bs) (hz : W.heap.size ≤ W'.heap.size) (hk : ∀ g ∈ blk V ++ bs, W'.heap[g]? = W.heap[g]?) : DocK base W' V l vs bs :=
  ⟨owns_same h.own fun g hg => hk g (List.mem_append_left _ (mem_blk hg)), h.k.keep fun g hg => hk g (List.mem_append_right _ hg), h.nd, fun g hg => ⟨(h.inn g hg).1, by have := (h.inn g hg).2; omega⟩⟩
theorem DocK.grow {base L : Nat} {W W' : World} {V : Value} {l : List De} {vs : List Value} {bs : List Nat} (h : DocK base W V l vs bs) (hg : W.grownBy W' (some L)) (hL : L < base) : DocK base W' V l vs bs :=
  h.keep hg.size fun g hm => grown_sameK hg (h.all g hm).2 (by have := (h.all g hm).1; omega)
theorem DocK.set {base N k : Nat} {W : World} {V : Value} {l : List De} {vs : List Value} {bs : List Nat} (h : DocK base W V l vs bs) (v : Value) (hN : ∀ g ∈ blk V ++ bs, g ≠ N) : DocK base (W.setCell ⟨N, k, none⟩ v) V l vs bs :=
  h.keep (((Below.refl N W).setCell (p := ⟨N, k, none⟩) (Nat.le_refl _) v).size) fun g hg => heap_setCell_other _ _ _ _ (hN g hg)
/-- A definition more. -/
theorem DocK.push {base N g8 n8 c8 : Nat} {W U W8 : World} {V Vn : Value} {l : List De} {x : De} {vs ws : List Value} {bs bk : List Nat} (R : DocK base W V l vs bs) (hlt : ∀ g ∈ blk V ++ bs, g < N) (hb : base ≤ N)
    (O : RowK N W Vn x.sels ws bk) (BU : Below W.heap.size W U) (gr : U.grownBy W8 V.ownBlock) (hat : V.ownBlock = some g8 ∨ g8 = U.heap.size)
    (ho : W8.ownsRow base 30 4 (.slice (some ⟨g8, 0, none⟩) n8 c8) (l ++ [x]).length (vs ++ [.int .i64 x.k, .string x.nm, .string x.on, Vn])) :
    DocK base W8 (.slice (some ⟨g8, 0, none⟩) n8 c8) (l ++ [x]) (vs ++ [.int .i64 x.k, .string x.nm, .string x.on, Vn]) (bs ++ (blk Vn ++ bk)) := by
  have hz := BU.size
  have hz8 := gr.size
  have kp : ∀ g, g < W.heap.size → V.ownBlock ≠ some g → W8.heap[g]? = W.heap[g]? := fun g h1 h2 => (gr.block g (by omega) (fun e => h2 e.symm)).trans (BU.block g h1)
  have hV : ∀ g, V.ownBlock = some g → g < N := fun g hg => hlt g (List.mem_append_left _ (mem_blk hg))
  have hnd := List.nodup_append.1 R.nd
  have kid : ∀ g ∈ bs, V.ownBlock ≠ some g := fun g hg e => hnd.2.2 g (mem_blk e) g hg rfl
  have new : ∀ g ∈ blk Vn ++ bk, V.ownBlock ≠ some g := fun g hg e => by have := hV g e; have := (O.all g hg).1; omega
  have O8 := O.keep (W' := W8) (by omega) fun g hg => kp g (O.all g hg).2 (new g hg)
  refine ⟨ho, DefK.snoc (owns_base O8.own fun g _ => Nat.zero_le _) O8.k l (R.k.keep fun g hg => kp g (R.inn g hg).2 (kid g hg)), ?_, fun g hg => ?_⟩
  · have e : blk (.slice (some ⟨g8, 0, none⟩) n8 c8) = [g8] := rfl
    rw [e, List.nodup_append]
    refine ⟨by simp, ?_, fun x hx y hy e => ?_⟩
    · rw [List.nodup_append]
      refine ⟨hnd.2.1, O.nd, fun x hx y hy e => ?_⟩
      subst e
      have := hlt x (List.mem_append_right _ hx)
      have := (O.all x hy).1
      omega
    · subst e
      simp only [List.mem_singleton] at hx
      subst hx
      rcases List.mem_append.1 hy with hy | hy
      · rcases hat with hat | hat
        · exact kid x hy hat
        · have := (R.inn x hy).2; omega
      · rcases hat with hat | hat
        · exact new x hy hat
        · have := (O.all x hy).2; omega
  · rcases List.mem_append.1 hg with hg | hg
    · have := R.inn g hg; exact ⟨this.1, by omega⟩
    · have := O.all g hg; exact ⟨by omega, by omega⟩
/-- The first definition of a row. -/
theorem DocK.first {base : Nat} {W : World} {x : De} {Vn : Value} {ws : List Value} {bk : List Nat} (O : RowK base W Vn x.sels ws bk) (hb : base ≤ W.heap.size) :
    DocK base (W.alloc (.cells #[.int .i64 x.k, .string x.nm, .string x.on, Vn] 30)) (.slice (some ⟨W.heap.size, 0, none⟩) 1 1) [x] [.int .i64 x.k, .string x.nm, .string x.on, Vn] (blk Vn ++ bk) := by
  have hB : Below W.heap.size W (W.alloc (.cells #[.int .i64 x.k, .string x.nm, .string x.on, Vn] 30)) := (Below.refl _ _).alloc (Nat.le_refl _) _
  have O8 := O.keep hB.size fun g hg => hB.block g (O.all g hg).2
  refine ⟨⟨rfl, .inr ⟨W.heap.size, 1, _, rfl, hb, heap_alloc_new _ _, Nat.le_refl _, by unfold maxLen; omega, rfl, rfl⟩⟩, ?_, ?_, fun g hg => O8.all g hg⟩
  · have := DefK.snoc (x := x) (owns_base O8.own fun g _ => Nat.zero_le _) O8.k [] (vs := []) (bs := []) ⟨rfl, rfl⟩
    simpa using this
  · have e : blk (.slice (some ⟨W.heap.size, 0, none⟩) 1 1) = [W.heap.size] := rfl
    rw [e, List.nodup_append]
    refine ⟨by simp, O.nd, fun x hx y hy e => ?_⟩
    subst e
    simp only [List.mem_singleton] at hx
    have := (O.all x hy).2
    omega
theorem own_rowP {α : Type} {f : α → List Value} {z : Nat} (hz : ∀ x, (f x).length = z) {at_ : (Nat → Option Value) → Nat → α → Prop} {W : World} {base c : Nat} {e : TypeId} {a : Option Addr} {l : List α} (ho : W.ownsRow base e z (.slice a l.length c) l.length (l.flatMap f))
    (hat : ∀ (rd : Nat → Option Value) o x, x ∈ l → (∀ j, j < z → rd (o + j) = (f x)[j]?) → at_ rd o x) : G.Row at_ z base W.heap.size W a l := by
  rcases ho.2 with ⟨_, h0⟩ | ⟨g, cap, cur, hv, hb, hc, _, _, _, _⟩
  · exact .inl (List.length_eq_zero_iff.1 h0)
  · simp only [Value.slice.injEq] at hv
    obtain ⟨rfl, _, rfl⟩ := hv
    refine .inr ⟨g, 0, rfl, hb, (Array.getElem?_eq_some_iff.1 hc).1, fun i x hx => hat _ _ x (List.mem_of_getElem? hx) fun j hj => ?_⟩
    have hi : i < l.length := (List.getElem?_eq_some_iff.1 hx).1
    rw [Nat.zero_add, ← flat_at hz l i x hx j hj]
    have hlt : i * z + j < l.length * z := by
      have : (i + 1) * z ≤ l.length * z := Nat.mul_le_mul_right _ hi
      rw [Nat.succ_mul] at this
      omega
    exact ho.cellAt (i * z + j) hlt
theorem own_capC {w : World} {base z n c : Nat} {e : TypeId} {a : Option Addr} {xs : List Value} (h : w.ownsRow base e z (.slice a n c) n xs) : n ≤ c := by
  rcases h.2 with ⟨e0, h0⟩ | ⟨g', cap', cur, e0, h1, h2, h3, h4, h5, h6⟩
  · simp only [Value.slice.injEq] at e0
    omega
  · simp only [Value.slice.injEq, true_and] at e0
    omega
theorem ar_row {lo : Nat} {W : World} {v : Value} {l : List Ar} (ho : W.ownsRow 0 81 4 v l.length (arVs l)) (hb : ∀ g, v.ownBlock = some g → lo ≤ g) : ∃ a c, v = .slice a l.length c ∧ l.length ≤ c ∧ ArRow lo W.heap.size W a l := by
  obtain ⟨a, c, rfl⟩ := owns_slice ho
  exact ⟨a, c, rfl, own_capC ho, own_rowP (f := arC) (fun x => rfl) (owns_base ho hb) fun rd o x _ h => ⟨h 0 (by omega), h 1 (by omega), h 2 (by omega), h 3 (by omega)⟩⟩
theorem di_row {lo : Nat} {W : World} {v : Value} {l : List Di} (ho : W.ownsRow 0 86 4 v l.length (diVs l)) (hb : ∀ g, v.ownBlock = some g → lo ≤ g) : ∃ a c, v = .slice a l.length c ∧ DiRow lo W.heap.size W a l := by
  obtain ⟨a, c, rfl⟩ := owns_slice ho
  exact ⟨a, c, rfl, own_rowP (f := diC) (fun x => rfl) (owns_base ho hb) fun rd o x _ h => ⟨h 0 (by omega), h 1 (by omega), h 2 (by omega), h 3 (by omega)⟩⟩
theorem kid_pre {lo : Nat} {W : World} : ∀ {l : Sels} {vs : List Value} {bs : List Nat} {rd : Nat → Option Value} {o : Nat}, KidB W l vs bs → (∀ g ∈ bs, lo ≤ g) → (∀ j, j < vs.length → rd (o + j) = vs[j]?) → SelPre lo W.heap.size W l rd o l.len
  | .nil, _, _, _, _, _, _, _ => trivial
  | .cons h sub rest, vs, bs, rd, o, ⟨va, vd, vsub, vr, ws, bk, br, hv, hb, o1, o2, o3, k1, k2⟩, hg, hr => by
    have hm : ∀ g, (g ∈ blk va ∨ g ∈ blk vd ∨ g ∈ blk vsub ∨ g ∈ bk) ∨ g ∈ br → lo ≤ g := fun g hx => hg g (by rw [hb]; simpa only [List.mem_append] using hx)
    obtain ⟨a3, c3, rfl, r3⟩ := ar_row (lo := lo) o1 fun g e => hm g (.inl (.inl (mem_blk e)))
    obtain ⟨a4, c4, rfl, r4⟩ := di_row (lo := lo) o2 fun g e => hm g (.inl (.inr (.inl (mem_blk e))))
    obtain ⟨a5, c5, rfl⟩ := owns_slice o3
    have hlen : vs.length = 6 + vr.length := by rw [hv, List.length_append]; rfl
    have at_ : ∀ j, j < 6 → rd (o + j) = ([.int .i64 h.k, .string h.al, .string h.nm, .slice a3 h.args.length c3, .slice a4 h.dirs.length c4, .slice a5 sub.len c5] : List Value)[j]? := fun j hj => by
      rw [hr j (by omega), hv, List.getElem?_append_left (by simpa using hj)]
    refine .inr ⟨⟨at_ 0 (by omega), at_ 1 (by omega), at_ 2 (by omega), ⟨a3, c3, at_ 3 (by omega), r3⟩, ⟨a4, c4, at_ 4 (by omega), r4⟩⟩, ⟨a5, c5, at_ 5 (by omega), ?_⟩, ?_⟩
    · rcases o3.2 with ⟨_, h0⟩ | ⟨g, cap, cur, hv5, _, hc, _, _, _, _⟩
      · left
        cases sub with
        | nil => rfl
        | cons x y z => simp only [Sels.len] at h0; omega
      · simp only [Value.slice.injEq] at hv5
        obtain ⟨rfl, _, rfl⟩ := hv5
        refine .inr ⟨g, 0, rfl, hm g (.inl (.inr (.inr (.inl (mem_blk rfl))))), (Array.getElem?_eq_some_iff.1 hc).1, kid_pre k1 (fun g hx => hm g (.inl (.inr (.inr (.inr hx))))) fun j hj => ?_⟩
        rw [Nat.zero_add]
        exact o3.cellAt j (by rw [← owns_len o3]; exact hj)
    · simp only [Sels.len, Nat.add_sub_cancel]
      refine kid_pre k2 (fun g hx => hm g (.inr hx)) fun j hj => ?_
      have := hr (6 + j) (by omega)
      rw [hv, List.getElem?_append_right (by simp)] at this
      rw [show o + 6 + j = o + (6 + j) by omega, this]
      congr 1
      simp
theorem RowK.row {base : Nat} {W : World} {a : Option Addr} {n c : Nat} {l : Sels} {ws : List Value} {bk : List Nat} (h : RowK base W (.slice a n c) l ws bk) : SelRow base W.heap.size W a l := by
  rcases h.own.2 with ⟨_, h0⟩ | ⟨g, cap, cur, hv, hb, hc, _, _, _, _⟩
  · left
    cases l with
    | nil => rfl
    | cons x y z => simp only [Sels.len] at h0; omega
  · simp only [Value.slice.injEq] at hv
    obtain ⟨rfl, rfl, rfl⟩ := hv
    refine .inr ⟨g, 0, rfl, hb, (Array.getElem?_eq_some_iff.1 hc).1, kid_pre h.k (fun g hg => (h.inn g hg).1) fun j hj => ?_⟩
    rw [Nat.zero_add]
    exact h.own.cellAt j (by rw [← owns_len h.own]; exact hj)
theorem DefK.at_ {W : World} {lo : Nat} : ∀ {l : List De} {vs : List Value} {bs : List Nat}, DefK W l vs bs → (∀ g ∈ bs, lo ≤ g) → ∀ i x, l[i]? = some x → ∃ a c, (∀ j, j < 4 → vs[i * 4 + j]? = ([.int .i64 x.k, .string x.nm, .string x.on, .slice a x.sels.len c] : List Value)[j]?) ∧ SelRow lo W.heap.size W a x.sels
  | [], _, _, _, _, i, x, hx => by simp at hx
  | y :: r, vs, bs, ⟨V, vr, ws, bk, br, hv, hb, o, k, kr⟩, hg, 0, x, hx => by
    simp only [List.getElem?_cons_zero, Option.some.injEq] at hx
    subst hx
    obtain ⟨a, c, rfl⟩ := owns_slice o
    have hm : ∀ g, (g ∈ blk (.slice a y.sels.len c) ∨ g ∈ bk) ∨ g ∈ br → lo ≤ g := fun g hx => hg g (by rw [hb]; simpa only [List.mem_append] using hx)
    refine ⟨a, c, fun j hj => by rw [hv, List.getElem?_append_left (by simp; omega)]; congr 1; omega, ?_⟩
    rcases o.2 with ⟨_, h0⟩ | ⟨g, cap, cur, hv5, _, hc, _, _, _, _⟩
    · left
      cases hs : y.sels with
      | nil => rfl
      | cons p q z => rw [hs] at h0; simp only [Sels.len] at h0; omega
    · simp only [Value.slice.injEq] at hv5
      obtain ⟨rfl, _, rfl⟩ := hv5
      refine .inr ⟨g, 0, rfl, hm g (.inl (.inl (mem_blk rfl))), (Array.getElem?_eq_some_iff.1 hc).1, kid_pre k (fun g hx => hm g (.inl (.inr hx))) fun j hj => ?_⟩
      rw [Nat.zero_add]
      exact o.cellAt j (by rw [← owns_len o]; exact hj)
  | y :: r, vs, bs, ⟨V, vr, ws, bk, br, hv, hb, o, k, kr⟩, hg, i + 1, x, hx => by
    obtain ⟨a, c, h1, h2⟩ := DefK.at_ kr (fun g hx => hg g (by rw [hb]; exact List.mem_append_right _ hx)) i x (by simpa using hx)
    refine ⟨a, c, fun j hj => ?_, h2⟩
    rw [← h1 j hj, hv, List.getElem?_append_right (by simp; omega)]
    congr 1
    simp
    omega
/-- The answer is rows that can be read. -/
theorem DocK.row {base : Nat} {W : World} {a : Option Addr} {n c : Nat} {l : List De} {vs : List Value} {bs : List Nat} (h : DocK base W (.slice a n c) l vs bs) : DeRow base W.heap.size W a l := by
  rcases h.own.2 with ⟨_, h0⟩ | ⟨g, cap, cur, hv, hb, hc, _, _, _, _⟩
  · exact .inl (List.length_eq_zero_iff.1 h0)
  · simp only [Value.slice.injEq] at hv
    obtain ⟨rfl, rfl, rfl⟩ := hv
    refine .inr ⟨g, 0, rfl, hb, (Array.getElem?_eq_some_iff.1 hc).1, fun i x hx => ?_⟩
    obtain ⟨a5, c5, h1, h2⟩ := h.k.at_ (fun g hg => (h.inn g hg).1) i x hx
    have hi : i < l.length := (List.getElem?_eq_some_iff.1 hx).1
    have at_ : ∀ j, j < 4 → W.cell? ⟨g, 0 + i * 4 + j, none⟩ = ([.int .i64 x.k, .string x.nm, .string x.on, .slice a5 x.sels.len c5] : List Value)[j]? := fun j hj => by
      rw [Nat.zero_add, ← h1 j hj]
      exact h.own.cellAt _ (by omega)
    exact ⟨at_ 0 (by omega), at_ 1 (by omega), at_ 2 (by omega), a5, c5, at_ 3 (by omega), h2⟩
end Go.Proofs.Ytajjaddlalbnmaa
