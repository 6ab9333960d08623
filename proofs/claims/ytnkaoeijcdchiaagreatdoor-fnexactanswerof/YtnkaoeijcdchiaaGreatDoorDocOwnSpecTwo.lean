/- The specification's own copy of selections and of a definition: the walk. -/
import Derived.Test.YtnkaoeijcdchiaaGreatDoorDocToOwn
import Derived.Test.YtnkaoeijcdchiaaGreatDoorShelf
import Derived.Deep.RegionWith
import Derived.Test.YtnkaoeijcdchiaaGreatDoorDocOwn
import Derived.Deep.Upon
import Derived.Deep.AppendLies
namespace Go.Proofs.YtnkaoeijcdchiaaGreatDoor
open Go.ChangeShapes Go.WideShapes Go.ChangeAt Go.RowKit
set_option linter.unusedVariables false

end Go.Proofs.YtnkaoeijcdchiaaGreatDoor
namespace Go.Proofs.YtnkaoeijcdchiaaGreatDoor
open Go.ChangeShapes Go.WideShapes Go.ChangeAt Go.RowKit
set_option linter.unusedVariables false

end Go.Proofs.YtnkaoeijcdchiaaGreatDoor
namespace Go.Proofs.YtnkaoeijcdchiaaGreatDoor
open Go.ChangeShapes Go.WideShapes Go.ChangeAt Go.RowKit
set_option linter.unusedVariables false

theorem fm_len {α : Type} {f : α → List Value} {z : Nat} (hz : ∀ x, (f x).length = z) : ∀ l : List α, (l.flatMap f).length = l.length * z
  | [] => by simp
  | x :: l => by rw [List.flatMap_cons, List.length_append, hz, fm_len hz l, List.length_cons, Nat.add_mul]; omega
theorem fm_get {α : Type} {f : α → List Value} {z : Nat} (hz : ∀ x, (f x).length = z) : ∀ {l : List α} {i : Nat} {x : α}, l[i]? = some x → ∀ j, j < z → (l.flatMap f)[i * z + j]? = (f x)[j]?
  | [], i, x, h, _, _ => by simp at h
  | y :: l, 0, x, h, j, hj => by
    simp only [List.getElem?_cons_zero, Option.some.injEq] at h
    subst h
    rw [List.flatMap_cons, List.getElem?_append_left (by rw [hz]; omega)]
    simp
  | y :: l, i + 1, x, h, j, hj => by
    have q := fm_get hz (l := l) (i := i) (x := x) (by simpa using h) j hj
    rw [List.flatMap_cons, List.getElem?_append_right (by rw [hz, Nat.add_mul]; omega), hz, show (i + 1) * z + j - z = i * z + j by rw [Nat.add_mul]; omega]
    exact q
theorem fm_at {α : Type} {f : α → List Value} {z : Nat} (hz : ∀ x, (f x).length = z) (h0 : 0 < z) {l : List α} {k : Nat} {u : Value} (h : (l.flatMap f)[k]? = some u) : ∃ i x j, l[i]? = some x ∧ j < z ∧ k = i * z + j ∧ (f x)[j]? = some u := by
  have hk := (List.getElem?_eq_some_iff.1 h).1
  rw [fm_len hz] at hk
  have hi : k / z < l.length := (Nat.div_lt_iff_lt_mul h0).2 hk
  have hkz : k = k / z * z + k % z := (Nat.div_add_mod' k z).symm
  have hm := Nat.mod_lt k h0
  refine ⟨k / z, l[k / z], k % z, List.getElem?_eq_getElem hi, hm, hkz, ?_⟩
  have q := fm_get hz (List.getElem?_eq_getElem hi) (k % z) hm
  rw [← hkz] at q
  rw [← q]; exact h

def arV (x : Ar) : List Value := [.string x.nm, .int .i64 x.v.k, .int .i64 x.v.n, .string x.v.t]
def diV (x : Di) : List Value := [.bool x.sk, .int .i64 x.v.k, .int .i64 x.v.n, .string x.v.t]
theorem arV_one (l : List Ar) : ∀ u ∈ l.flatMap arV, u.oneCell' = true := by
  intro u hu
  rw [List.mem_flatMap] at hu
  obtain ⟨x, _, hx⟩ := hu
  simp only [arV, List.mem_cons, List.not_mem_nil, or_false] at hx
  rcases hx with rfl | rfl | rfl | rfl <;> rfl
theorem diV_one (l : List Di) : ∀ u ∈ l.flatMap diV, u.oneCell' = true := by
  intro u hu
  rw [List.mem_flatMap] at hu
  obtain ⟨x, _, hx⟩ := hu
  simp only [diV, List.mem_cons, List.not_mem_nil, or_false] at hx
  rcases hx with rfl | rfl | rfl | rfl <;> rfl
theorem arV_src {lo hi : Nat} {w : World} {a : Option Addr} {l : List Ar} (h : ArRow lo hi w a l) : l.length = 0 ∨ ∃ ad, a = some ad ∧ ∀ j u, (l.flatMap arV)[j]? = some u → w.cell? (ad.add j) = some u := by
  rcases h with rfl | ⟨b, o, rfl, _, _, h⟩
  · exact .inl rfl
  · refine .inr ⟨_, rfl, fun k u hu => ?_⟩
    obtain ⟨i, x, j, hx, hj, rfl, hv⟩ := fm_at (f := arV) (z := 4) (fun _ => rfl) (by omega) hu
    obtain ⟨c0, c1, c2, c3⟩ := h i x hx
    rw [add_plain]
    match j, hj, hv with
    | 0, _, hu => exact Eq.trans c0 hu
    | 1, _, hu => exact Eq.trans c1 hu
    | 2, _, hu => exact Eq.trans c2 hu
    | 3, _, hu => exact Eq.trans c3 hu
theorem diV_src {lo hi : Nat} {w : World} {a : Option Addr} {l : List Di} (h : DiRow lo hi w a l) : l.length = 0 ∨ ∃ ad, a = some ad ∧ ∀ j u, (l.flatMap diV)[j]? = some u → w.cell? (ad.add j) = some u := by
  rcases h with rfl | ⟨b, o, rfl, _, _, h⟩
  · exact .inl rfl
  · refine .inr ⟨_, rfl, fun k u hu => ?_⟩
    obtain ⟨i, x, j, hx, hj, rfl, hv⟩ := fm_at (f := diV) (z := 4) (fun _ => rfl) (by omega) hu
    obtain ⟨c0, c1, c2, c3⟩ := h i x hx
    rw [add_plain]
    match j, hj, hv with
    | 0, _, hu => exact Eq.trans c0 hu
    | 1, _, hu => exact Eq.trans c1 hu
    | 2, _, hu => exact Eq.trans c2 hu
    | 3, _, hu => exact Eq.trans c3 hu
/-- What a copy by append leaves. -/
def Copied (e : TypeId) (size g0 : Nat) (w : World) (a : Option Addr) (m : Nat) (news : List Value) : Prop := m = 0 ∨ ∃ g cur, a = some ⟨g, 0, none⟩ ∧ g0 ≤ g ∧ g < w.heap.size ∧ w.heap[g]? = some (.cells cur e (0, 0)) ∧ cur.toList.take (m * size) = news
theorem Copied.ar {e : TypeId} {g0 : Nat} {w : World} {a : Option Addr} {l : List Ar} (h : Copied e 4 g0 w a l.length (l.flatMap arV)) : ArRow g0 w.heap.size w a l := by
  rcases h with h | ⟨g, cur, rfl, h1, h2, h3, h4⟩
  · exact .inl (List.length_eq_zero_iff.1 h)
  · refine .inr ⟨g, 0, rfl, h1, h2, fun i x hx => ?_⟩
    have hi := (List.getElem?_eq_some_iff.1 hx).1
    have q : ∀ j, j < 4 → cur[i * 4 + j]? = (arV x)[j]? := fun j hj => by
      have := fm_get (f := arV) (z := 4) (fun _ => rfl) hx j hj
      rw [← h4, List.getElem?_take, if_pos (by omega)] at this
      rw [← this]; simp
    rw [row_rd h3, Nat.zero_add]
    exact ⟨q 0 (by omega), q 1 (by omega), q 2 (by omega), q 3 (by omega)⟩
theorem Copied.di {e : TypeId} {g0 : Nat} {w : World} {a : Option Addr} {l : List Di} (h : Copied e 4 g0 w a l.length (l.flatMap diV)) : DiRow g0 w.heap.size w a l := by
  rcases h with h | ⟨g, cur, rfl, h1, h2, h3, h4⟩
  · exact .inl (List.length_eq_zero_iff.1 h)
  · refine .inr ⟨g, 0, rfl, h1, h2, fun i x hx => ?_⟩
    have hi := (List.getElem?_eq_some_iff.1 hx).1
    have q : ∀ j, j < 4 → cur[i * 4 + j]? = (diV x)[j]? := fun j hj => by
      have := fm_get (f := diV) (z := 4) (fun _ => rfl) hx j hj
      rw [← h4, List.getElem?_take, if_pos (by omega)] at this
      rw [← this]; simp
    rw [row_rd h3, Nat.zero_add]
    exact ⟨q 0 (by omega), q 1 (by omega), q 2 (by omega), q 3 (by omega)⟩

theorem wpList_append_no {P : Program} {w : World} {ops : Array Oper} {rest : List Oper} {o : Oper} {a : Act} {Q : Exit → Act → World → Prop} (hgd : o.guard = none) (s x : Operand) (t : TypeId)
    (ho : o.op = .call { callee := .builtin .append, args := #[s, x], argTypes := #[t, t] }) (e : TypeId) (i : TypeInfo) (ht : P.underlying t = some (.slice e)) (hi : P.info? e = some i)
    (p p4 : Option Addr) (c4 : Nat) (hs : a.eval s = .slice p 0 0) (hx : a.eval x = .slice p4 0 c4) (h : wpList P ops Q rest (a.put o.dst (.slice p 0 0)) w) : wpList P ops Q (o :: rest) a w := by
  have hsrc : Src P i.size t (.slice p4 0 c4) 0 [] w := by
    cases p4
    · exact Src.ofNil w ht c4
    · exact Src.ofSlice w ht _ 0 c4 [] (by simp) (by simp) (by simp)
  have hr := run_append_nothing (P := P) w t t o.type e i ht hi p 0 0 (Nat.le_refl _) _ hsrc
  refine wpList_plain hgd fun K hK => ?_
  unfold Oper.wp execOp
  simp only [ho, resolve, invoke, builtin, Sem.run_bind, Sem.run_pure, Result.andThen_ok, List.map_toArray, List.map_cons, List.map_nil, hs, hx, hr]
  exact hK _ _ h
theorem wpList_append_copy {P : Program} {w : World} {ops : Array Oper} {rest : List Oper} {o : Oper} {a : Act} {Q : Exit → Act → World → Prop} (hgd : o.guard = none) (s x : Operand) (t : TypeId)
    (ho : o.op = .call { callee := .builtin .append, args := #[s, x], argTypes := #[t, t] }) (e : TypeId) (i : TypeInfo) (z : Value) (size bytes : Nat) (ht : P.underlying t = some (.slice e)) (hi : P.info? e = some i) (hz : i.zero = some z)
    (hsize : i.size = size) (hby : i.bytes = bytes) (hzs : z.cells.size = size) (hsz : 0 < size) (g0 : Nat) (hs : a.eval s = .slice (some ⟨g0, 0, none⟩) 0 0) (hg : w.heap[g0]? = some (.cells #[] e (0, 0)))
    (p : Option Addr) (m c : Nat) (news : List Value) (hx : a.eval x = .slice p m c) (hl : news.length = m * size) (hsrc : m = 0 ∨ ∃ ad, p = some ad ∧ ∀ j u, news[j]? = some u → w.cell? (ad.add j) = some u) (h1 : ∀ u ∈ news, u.oneCell' = true)
    (h63 : m ≤ maxLen) (hbytes : m * bytes ≤ 140737488355328)
    (h : ∀ a' c' w', Hid (Copied e size g0 w' a' m news) → Below g0 w w' → wpList P ops Q rest (a.put o.dst (.slice a' m c')) w') : wpList P ops Q (o :: rest) a w := by
  have hlt : g0 < w.heap.size := (Array.getElem?_eq_some_iff.1 hg).1
  by_cases hm : m = 0
  · subst hm
    exact wpList_append_no hgd s x t ho e i ht hi _ p c hs hx (h _ _ _ (.inl rfl) (Below.refl _ _))
  · obtain ⟨ad, rfl, hn⟩ : ∃ ad, p = some ad ∧ ∀ j u, news[j]? = some u → w.cell? (ad.add j) = some u := by
      rcases hsrc with h | h
      · exact absurd h hm
      · exact h
    have hown : w.ownsRow g0 e size (.slice (some ⟨g0, 0, none⟩) 0 0) 0 [] := ⟨by simp, .inr ⟨g0, 0, #[], rfl, Nat.le_refl _, hg, Nat.le_refl _, Nat.zero_le _, by simp, by simp⟩⟩
    refine wpList_append_lies w hgd s x t ho g0 e i z size bytes ht hi hz hsize hby hzs hsz _ 0 [] hs hown ad m c news hx hl hn h1 (by omega) (by omega) (by simpa using hbytes) (by omega) w.heap.size rfl ?_
    intro g cap w' hown' hgrow hat hlt'
    have e0 : 0 + m = m := by omega
    rw [e0] at hown' ⊢
    refine h _ _ _ (.inr ?_) ((Below.refl _ _).grown hgrow (by omega) (fun k hk => ?_))
    · rcases hown'.2 with ⟨hh, _⟩ | ⟨g', cap', cur, hv, q1, q2, q3, q4, q5, q6⟩
      · cases hh
      · simp only [Value.slice.injEq, Option.some.injEq, Addr.mk.injEq, and_true] at hv
        obtain ⟨rfl, _⟩ := hv
        exact ⟨g, cur, rfl, q1, hlt', q2, by rw [q6]; rfl⟩
    · simp only [Value.ownBlock, Option.some.injEq] at hk
      omega

/-- All old blocks but one are as they were. -/
def Except (row : Option Nat) (w W' : World) : Prop := w.heap.size ≤ W'.heap.size ∧ ∀ k, k < w.heap.size → some k ≠ row → W'.heap[k]? = w.heap[k]?
theorem Except.trans {row : Option Nat} {a b c : World} (h : Except row a b) (k : Except row b c) : Except row a c := ⟨Nat.le_trans h.1 k.1, fun i hi hne => (k.2 i (Nat.lt_of_lt_of_le hi h.1) hne).trans (h.2 i hi hne)⟩
/-- The selections whose cells are listed, their lists outside of one block. -/
def Kids (lo : Nat) (row : Option Nat) (w : World) (pre : List (Hd × Sels)) (vs : List Value) : Prop := ∀ W', Except row w W' → SelPre lo W'.heap.size W' (app pre .nil) (fun j => vs[j]?) 0 pre.length
theorem Kids.step {lo : Nat} {row : Option Nat} {w w1 : World} {pre : List (Hd × Sels)} {vs : List Value} (h : Kids lo row w pre vs) (he : Except row w w1) : Kids lo row w1 pre vs := fun W' hW => h W' (he.trans hW)
theorem Kids.appended {lo : Nat} {row row' : Option Nat} {w w1 : World} {pre : List (Hd × Sels)} {vs : List Value} (h : Kids lo row w pre vs) (hg : w.grownBy w1 row) (hat : row' = row ∨ row' = some w.heap.size) : Kids lo row' w1 pre vs := fun W' hW => by
  refine h W' ⟨Nat.le_trans hg.size hW.1, fun k hk hne => (hW.2 k (Nat.lt_of_lt_of_le hk hg.size) ?_).trans (hg.block k hk hne)⟩
  rcases hat with rfl | rfl
  · exact hne
  · simp; omega
theorem Kids.more {lo m : Nat} {row : Option Nat} {w : World} {pre : List (Hd × Sels)} {vs : List Value} {h : Hd} {sub : Sels} {b1 b2 b3 : Option Addr} {f1 f2 f3 : Nat} (H : Kids lo row w pre vs) (hlen : vs.length = pre.length * 6) (hlo : lo ≤ m) (hrow : ∀ g, row = some g → g < m)
    (A1 : ArRow m w.heap.size w b1 h.args) (A2 : DiRow m w.heap.size w b2 h.dirs) (A3 : SelRow m w.heap.size w b3 sub) :
    Kids lo row w (pre ++ [(h, sub)]) (vs ++ [.int .i64 h.k, .string h.al, .string h.nm, .slice b1 h.args.length f1, .slice b2 h.dirs.length f2, .slice b3 sub.len f3]) := by
  intro W' hW
  have hA : Agree m w.heap.size w W' := fun g h1 h2 => hW.2 g h2 (fun e => by have := hrow g e.symm; omega)
  have P1 := SelPre.cells (rd' := fun j => (vs ++ [.int .i64 h.k, .string h.al, .string h.nm, .slice b1 h.args.length f1, .slice b2 h.dirs.length f2, .slice b3 sub.len f3])[j]?) (H W' hW) (fun j _ hj => by
    rw [List.getElem?_append_left (by omega)])
  have q : ∀ j, (vs ++ [.int .i64 h.k, .string h.al, .string h.nm, .slice b1 h.args.length f1, .slice b2 h.dirs.length f2, .slice b3 sub.len f3])[0 + 6 * pre.length + j]? = ([.int .i64 h.k, .string h.al, .string h.nm, .slice b1 h.args.length f1, .slice b2 h.dirs.length f2, .slice b3 sub.len f3] : List Value)[j]? := fun j => by
    rw [List.getElem?_append_right (by omega)]
    congr 1; omega
  have R1 : ArRow lo W'.heap.size W' b1 h.args := Row.wide (Row.keep A1 hA) hlo hW.1
  have R2 : DiRow lo W'.heap.size W' b2 h.dirs := Row.wide (Row.keep A2 hA) hlo hW.1
  have R3 : SelRow lo W'.heap.size W' b3 sub := SelRow.wide (SelRow.keep A3 hA) hlo hW.1
  have key : ∀ (pre : List (Hd × Sels)) (rd : Nat → Option Value) (o : Nat), SelPre lo W'.heap.size W' (app pre .nil) rd o pre.length → HdAt lo W'.heap.size W' rd (o + 6 * pre.length) h → (∃ a c, rd (o + 6 * pre.length + 5) = some (.slice a sub.len c) ∧ SelRow lo W'.heap.size W' a sub) → SelPre lo W'.heap.size W' (app (pre ++ [(h, sub)]) .nil) rd o (pre.length + 1) := by
    intro pre
    induction pre with
    | nil => intro rd o _ hh hs; exact .inr ⟨by simpa using hh, by simpa [SelRow] using hs, trivial⟩
    | cons x pre ih =>
      intro rd o hp hh hs
      rcases hp with hp | ⟨p1, p2, p3⟩
      · simp at hp
      · refine .inr ⟨p1, p2, ?_⟩
        simp only [List.length_cons] at hh hs ⊢
        exact ih rd (o + 6) (by simpa using p3) (by rw [show o + 6 + 6 * pre.length = o + 6 * (pre.length + 1) by omega]; exact hh) (by rw [show o + 6 + 6 * pre.length + 5 = o + 6 * (pre.length + 1) + 5 by omega]; exact hs)
  have := key pre _ 0 P1 ⟨q 0, q 1, q 2, ⟨b1, f1, q 3, R1⟩, ⟨b2, f2, q 4, R2⟩⟩ ⟨b3, f3, q 5, R3⟩
  simpa using this
theorem Kids.row {lo : Nat} {w : World} {base : Nat} {e : TypeId} {v : Value} {n : Nat} {pre : List (Hd × Sels)} {vs : List Value} (hown : w.ownsRow base e 6 v n vs) (hn : pre.length = n) (hlo : lo ≤ base) (H : Kids lo v.ownBlock w pre vs) : ∃ a c, v = .slice a n c ∧ SelRow lo w.heap.size w a (app pre .nil) := by
  have hp := H w ⟨Nat.le_refl _, fun _ _ _ => rfl⟩
  subst hn
  rcases hown.2 with ⟨rfl, h0⟩ | ⟨g, cap, cur, rfl, q1, q2, q3, q4, q5, q6⟩
  · refine ⟨none, 0, by rw [h0], .inl ?_⟩
    rw [List.length_eq_zero_iff.1 h0]; rfl
  · refine ⟨_, _, rfl, .inr ⟨g, 0, rfl, by omega, (Array.getElem?_eq_some_iff.1 q2).1, ?_⟩⟩
    rw [row_rd q2, app_len]
    simp only [Sels.len, Nat.add_zero]
    refine SelPre.cells hp fun j _ hj => ?_
    rw [← q6, List.getElem?_take, if_pos (by omega)]
    simp
end Go.Proofs.YtnkaoeijcdchiaaGreatDoor
namespace Go.Proofs.YtnkaoeijcdchiaaGreatDoor
open Go.ChangeShapes Go.WideShapes Go.ChangeAt Go.RowKit
set_option linter.unusedVariables false

theorem arV_len (l : List Ar) : (l.flatMap arV).length = l.length * 4 := fm_len (f := arV) (z := 4) (fun _ => rfl) l
theorem diV_len (l : List Di) : (l.flatMap diV).length = l.length * 4 := fm_len (f := diV) (z := 4) (fun _ => rfl) l
theorem owns_same {w w' : World} {base : Nat} {e : TypeId} {size : Nat} {v : Value} {n : Nat} {xs : List Value} (h : w.ownsRow base e size v n xs) (hs : ∀ g, v.ownBlock = some g → w'.heap[g]? = w.heap[g]?) : w'.ownsRow base e size v n xs := by
  refine ⟨h.1, ?_⟩
  rcases h.2 with h0 | ⟨g, cap, cur, rfl, q1, q2, q3⟩
  · exact .inl h0
  · exact .inr ⟨g, cap, cur, rfl, q1, (hs g rfl).trans q2, q3⟩
theorem six_one {k : Int} {al nm : ByteArray} {b1 b2 b3 : Option Addr} {n1 n2 n3 f1 f2 f3 : Nat} : ∀ u ∈ ([.int .i64 k, .string al, .string nm, .slice b1 n1 f1, .slice b2 n2 f2, .slice b3 n3 f3] : List Value), u.oneCell' = true := by
  intro u hu
  simp only [List.mem_cons, List.not_mem_nil, or_false] at hu
  rcases hu with rfl | rfl | rfl | rfl | rfl | rfl <;> rfl
theorem cell_six_new (w : World) (x0 x1 x2 x3 x4 x5 : Value) (t : TypeId) : ∀ j u, [x0, x1, x2, x3, x4, x5][j]? = some u → (w.alloc (.cells #[x0, x1, x2, x3, x4, x5] t)).cell? ((⟨w.heap.size, 0, none⟩ : Addr).add j) = some u := by
  intro j u hj
  rw [add_plain, Nat.zero_add, row_cell (heap_alloc_new _ _) j, ← hj]
  simp
end Go.Proofs.YtnkaoeijcdchiaaGreatDoor
