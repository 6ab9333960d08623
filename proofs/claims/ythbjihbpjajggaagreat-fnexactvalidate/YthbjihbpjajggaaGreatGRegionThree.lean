/- A region that draws its order, as region_rel, where operations may also write what the region made: each says by itself what stays. -/
import Derived.Test.YthbjihbpjajggaaGreatVaCycMap
import Derived.Deep.CutBlock
import Derived.Deep.AppendSrc
import Derived.Test.YthbjihbpjajggaaGreatNameOK
import Derived.Below
import Derived.Deep.Slices
import Derived.Deep.Strs
import Derived.Lib.SmallJoins
import Derived.Deep.QuietTactic
import Derived.BigQuiet
import Derived.Deep.RegionWith
import Derived.RegionTactic
namespace Go.Proofs.YthbjihbpjajggaaGreat
open Go.ChangeShapes Go.WideShapes Go.ChangeAt Go.RowKit
set_option linter.unusedVariables false

theorem ownsRow_as {w : World} {base : Nat} {e : TypeId} {size : Nat} {v : Value} {n : Nat} {xs : List Value} (h : w.ownsRow base e size v n xs) : ∃ a c, v = .slice a n c ∧ n ≤ c := by
  rcases h.2 with ⟨rfl, h0⟩ | ⟨g, cap, cur, rfl, _, _, h3, _⟩
  · exact ⟨none, 0, by rw [h0], by omega⟩
  · exact ⟨_, _, rfl, h3⟩
theorem grown_same (w : World) (row : Option Nat) : w.grownBy w row := ⟨rfl, rfl, rfl, Nat.le_refl _, fun _ _ _ => rfl⟩
theorem wpList_append_any {P : Program} {w : World} {ops : Array Oper} {rest : List Oper} {o : Oper} {a : Act} {Q : Exit → Act → World → Prop} (hgd : o.guard = none) (s x : Operand) (t : TypeId)
    (ho : o.op = .call { callee := .builtin .append, args := #[s, x], argTypes := #[t, t] })
    (base : Nat) (e : TypeId) (i : TypeInfo) (z : Value) (size bytes : Nat) (ht : P.underlying t = some (.slice e)) (hi : P.info? e = some i) (hz : i.zero = some z)
    (hsize : i.size = size) (hby : i.bytes = bytes) (hzs : z.cells.size = size) (hsz : 0 < size)
    (v : Value) (n : Nat) (xs : List Value) (hs : a.eval s = v) (hown : w.ownsRow base e size v n xs)
    (p : Option Addr) (m c : Nat) (news : List Value) (hx : a.eval x = .slice p m c) (hl : news.length = m * size) (hsrc : m = 0 ∨ ∃ ad, p = some ad ∧ ∀ j u, news[j]? = some u → w.cell? (ad.add j) = some u) (h1 : ∀ u ∈ news, u.oneCell' = true)
    (h63 : n + m ≤ maxLen) (hbytes : (n + m) * bytes ≤ 140737488355328) (hbase : base ≤ w.heap.size)
    (h : ∀ a' c' w', w'.ownsRow base e size (.slice a' (n + m) c') (n + m) (xs ++ news) → w.grownBy w' v.ownBlock → ((Value.slice a' (n + m) c').ownBlock = v.ownBlock ∨ (Value.slice a' (n + m) c').ownBlock = some w.heap.size) → wpList P ops Q rest (a.put o.dst (.slice a' (n + m) c')) w') : wpList P ops Q (o :: rest) a w := by
  by_cases hm : m = 0
  · subst hm
    obtain rfl : news = [] := List.length_eq_zero_iff.1 (by omega)
    obtain ⟨a1, c1, rfl, hc⟩ := ownsRow_as hown
    have hsr : Src P i.size t (.slice p 0 c) 0 [] w := by
      cases p
      · exact Src.ofNil w ht c
      · exact Src.ofSlice w ht _ 0 c [] (by simp) (by simp) (by simp)
    have hr := run_append_nothing (P := P) w t t o.type e i ht hi a1 n c1 hc _ hsr
    refine wpList_plain hgd fun K hK => ?_
    unfold Oper.wp execOp
    simp only [ho, resolve, invoke, builtin, Sem.run_bind, Sem.run_pure, Result.andThen_ok, List.map_toArray, List.map_cons, List.map_nil, hs, hx, hr]
    refine hK _ _ (h a1 c1 w (by simpa using hown) (grown_same _ _) (.inl rfl))
  · obtain ⟨ad, rfl, hn⟩ : ∃ ad, p = some ad ∧ ∀ j u, news[j]? = some u → w.cell? (ad.add j) = some u := by
      rcases hsrc with h | h
      · exact absurd h hm
      · exact h
    refine wpList_append_lies w hgd s x t ho base e i z size bytes ht hi hz hsize hby hzs hsz v n xs hs hown ad m c news hx hl hn h1 (by omega) h63 hbytes hbase w.heap.size rfl ?_
    intro g cap w' hown' hgrow hat hlt'
    exact h _ _ _ hown' hgrow (by rcases hat with h | h; exact .inl h.symm; exact .inr (by rw [h]; rfl))

/-- A list of names in a block of its own. -/
def NOwn (base : Nat) (w : World) (v : Value) (ms : List ByteArray) : Prop := w.ownsRow base 9 1 v ms.length (ms.map Value.string)
def NmAt (rd : Nat → Option Value) (o : Nat) (s : ByteArray) : Prop := rd o = some (.string s)
abbrev NRow := Row NmAt 1
theorem NOwn.none (w : World) (base : Nat) : NOwn base w (.slice none 0 0) [] := ⟨rfl, .inl ⟨rfl, rfl⟩⟩
theorem NOwn.made (w : World) {base : Nat} (hb : base ≤ w.heap.size) : NOwn base (w.alloc (.cells #[] 9)) (.slice (some ⟨w.heap.size, 0, Option.none⟩) 0 0) [] := World.ownsRow_made w #[] 0 hb (Nat.zero_le _) (by simp)
theorem NOwn.row {w : World} {base : Nat} {v : Value} {ms : List ByteArray} (h : NOwn base w v ms) : ∃ a c, v = .slice a ms.length c ∧ ms.length ≤ c ∧ NRow 0 w.heap.size w a ms := by
  rcases h.2 with ⟨rfl, h0⟩ | ⟨g, cap, cur, rfl, q1, q2, q3, q4, q5, q6⟩
  · refine ⟨Option.none, 0, by rw [h0], by omega, .inl (List.length_eq_zero_iff.1 h0)⟩
  · refine ⟨_, _, rfl, q3, .inr ⟨g, 0, rfl, Nat.zero_le _, (Array.getElem?_eq_some_iff.1 q2).1, fun i x hx => ?_⟩⟩
    have hi := (List.getElem?_eq_some_iff.1 hx).1
    show rdOf _ _ (0 + i * 1) = _
    have : (ms.map Value.string)[i]? = some (.string x) := by rw [List.getElem?_map, hx]; rfl
    rw [← q6, List.getElem?_take, if_pos (by omega)] at this
    rw [row_rd q2, ← this]
    simp
theorem NOwn.keep {w w' : World} {base : Nat} {v : Value} {ms : List ByteArray} (h : NOwn base w v ms) (hs : ∀ g, v.ownBlock = some g → w'.heap[g]? = w.heap[g]?) : NOwn base w' v ms := owns_sameV h hs
theorem NOwn.lt {w : World} {base : Nat} {v : Value} {ms : List ByteArray} (h : NOwn base w v ms) : ∀ g, v.ownBlock = some g → base ≤ g ∧ g < w.heap.size := World.ownsRow.lt h
theorem NOwn.up {w w' : World} {base : Nat} {v : Value} {ms : List ByteArray} (h : NOwn base w v ms) (hb : Below w.heap.size w w') : NOwn base w' v ms := h.keep fun g hg => hb.block g (h.lt g hg).2
theorem NOwn.wide {w : World} {base base' : Nat} {v : Value} {ms : List ByteArray} (h : NOwn base w v ms) (hb : base' ≤ base) : NOwn base' w v ms := by
  refine ⟨h.1, ?_⟩
  rcases h.2 with h0 | ⟨g, cap, cur, h1, h2, h3⟩
  · exact .inl h0
  · exact .inr ⟨g, cap, cur, h1, by omega, h3⟩
theorem NRow.at_ {w : World} {a : Option Addr} {ms : List ByteArray} (h : NRow 0 w.heap.size w a ms) (k : Nat) (hk : k < ms.length) : ∃ b o, a = some ⟨b, o, none⟩ ∧ b < w.heap.size ∧ w.cell? ⟨b, o + k, none⟩ = some (.string ms[k]) := by
  obtain ⟨b, o, h1, _, h3, h4⟩ := Row.at_ h k hk
  exact ⟨b, o, h1, h3, by have h4 : w.cell? ⟨b, o + k * 1, none⟩ = _ := h4; rwa [Nat.mul_one] at h4⟩
theorem NRow.src {w : World} {a : Option Addr} {ms : List ByteArray} (h : NRow 0 w.heap.size w a ms) : ms.length = 0 ∨ ∃ ad, a = some ad ∧ ∀ j u, (ms.map Value.string)[j]? = some u → w.cell? (ad.add j) = some u := by
  rcases h with rfl | ⟨b, o, rfl, _, h2, h3⟩
  · exact .inl rfl
  · refine .inr ⟨_, rfl, fun j u hj => ?_⟩
    rw [List.getElem?_map] at hj
    cases hx : ms[j]? with
    | none => rw [hx] at hj; cases hj
    | some s =>
      rw [hx] at hj
      cases hj
      have := h3 j s hx
      rw [add_plain]
      have h4 : w.cell? ⟨b, o + j * 1, none⟩ = some (.string s) := this
      rwa [Nat.mul_one] at h4
theorem names_cells (ms : List ByteArray) : ∀ u ∈ ms.map Value.string, u.oneCell' = true := by
  intro u hu
  obtain ⟨s, _, rfl⟩ := List.mem_map.1 hu
  rfl
theorem info_strN : ∃ i, Tryz.prog.info? 9 = some i ∧ i.zero = some (.string ⟨#[]⟩) ∧ i.size = 1 ∧ i.bytes = 16 := by
  exact info_parts (by kernel_rfl)
/-- Names appended to a list of one's own. -/
theorem wpList_append_names {w : World} {ops : Array Oper} {rest : List Oper} {o : Oper} {a : Act} {Q : Exit → Act → World → Prop} (hgd : o.guard = none) (s x : Operand)
    (ho : o.op = .call { callee := .builtin .append, args := #[s, x], argTypes := #[121, 121] })
    (base : Nat) (v : Value) (ms ns : List ByteArray) (hs : a.eval s = v) (hown : NOwn base w v ms) (p : Option Addr) (c : Nat) (hx : a.eval x = .slice p ns.length c) (hr : NRow 0 w.heap.size w p ns)
    (h63 : ms.length + ns.length ≤ 1048576) (hbase : base ≤ w.heap.size)
    (h : ∀ a' c' w', NOwn base w' (.slice a' (ms.length + ns.length) c') (ms ++ ns) → w.grownBy w' v.ownBlock → ((Value.slice a' (ms.length + ns.length) c').ownBlock = v.ownBlock ∨ (Value.slice a' (ms.length + ns.length) c').ownBlock = some w.heap.size) → wpList Tryz.prog ops Q rest (a.put o.dst (.slice a' (ms.length + ns.length) c')) w') : wpList Tryz.prog ops Q (o :: rest) a w := by
  obtain ⟨i, hi, hz, hsz, hby⟩ := info_strN
  refine wpList_append_any hgd s x 121 ho base 9 i _ 1 16 Tryz.underlying121 hi hz hsz hby rfl (by decide) v ms.length _ hs hown p ns.length c (ns.map Value.string) hx (by simp) hr.src (names_cells _) (by unfold maxLen; omega) (by omega) hbase ?_
  intro a' c' w' ho' hg hat
  refine h a' c' w' ?_ hg hat
  unfold NOwn
  rw [List.length_append, List.map_append]
  exact ho'
theorem one_name (w : World) (s : ByteArray) : NRow 0 (w.alloc (.cells #[.string s] 9)).heap.size (w.alloc (.cells #[.string s] 9)) (some ⟨w.heap.size, 0, none⟩) [s] := by
  refine .inr ⟨w.heap.size, 0, rfl, Nat.zero_le _, by simp, fun i x hx => ?_⟩
  cases i with
  | zero =>
    simp only [List.getElem?_cons_zero, Option.some.injEq] at hx
    subst hx
    exact row_cell (heap_alloc_new _ _) 0
  | succ i => simp at hx
theorem info_selV : ∃ i, Tryz.prog.info? 119 = some i ∧ i.zero = some (.agg #[.int .i64 0, .string ⟨#[]⟩, .string ⟨#[]⟩, .slice none 0 0, .slice none 0 0, .slice none 0 0]) ∧ i.size = 6 ∧ i.bytes = 112 := by
  exact info_parts (by kernel_rfl)
/-- Selections appended to a list of one's own. -/
theorem wpList_append_sels {w0 w : World} {ops : Array Oper} {rest : List Oper} {o : Oper} {a : Act} {Q : Exit → Act → World → Prop} (hgd : o.guard = none) (s x : Operand)
    (ho : o.op = .call { callee := .builtin .append, args := #[s, x], argTypes := #[75, 75] })
    (base : Nat) (v : Value) (f g : List (Hd × Sels)) (hs : a.eval s = v) (hown : FOwn w0 base 119 w v f) (p : Option Addr) (c : Nat) (hx : a.eval x = .slice p g.length c) (hr : FRow w0 0 w.heap.size w p g)
    (h63 : f.length + g.length ≤ 1048576) (hbase : base ≤ w.heap.size)
    (h : ∀ a' c' w', FOwn w0 base 119 w' (.slice a' (f.length + g.length) c') (f ++ g) → w.grownBy w' v.ownBlock → ((Value.slice a' (f.length + g.length) c').ownBlock = v.ownBlock ∨ (Value.slice a' (f.length + g.length) c').ownBlock = some w.heap.size) → wpList Tryz.prog ops Q rest (a.put o.dst (.slice a' (f.length + g.length) c')) w') : wpList Tryz.prog ops Q (o :: rest) a w := by
  obtain ⟨i, hi, hz, hsz, hby⟩ := info_selV
  obtain ⟨vs, hown, hv⟩ := hown
  obtain ⟨us, hu, hsrc⟩ : ∃ us, VsOf w0 g us ∧ (g.length = 0 ∨ ∃ ad, p = some ad ∧ ∀ j u, us[j]? = some u → w.cell? (ad.add j) = some u) := by
    by_cases h0 : 0 < g.length
    · obtain ⟨ad, us, h1, h2, h3⟩ := FRow.vals hr h0
      exact ⟨us, h2, .inr ⟨ad, h1, h3⟩⟩
    · obtain rfl : g = [] := List.length_eq_zero_iff.1 (by omega)
      exact ⟨[], VsOf.nil w0, .inl rfl⟩
  refine wpList_append_any hgd s x 75 ho base 119 i _ 6 112 Tryz.underlying75 hi hz hsz hby rfl (by decide) v f.length _ hs hown p g.length c us hx hu.1 hsrc hu.2.1 (by unfold maxLen; omega) (by omega) hbase ?_
  intro a' c' w' ho' hg hat
  refine h a' c' w' ⟨vs ++ us, ?_, hv.append hu⟩ hg hat
  rw [List.length_append]
  exact ho'
theorem wp_append_anyO {P : Program} {w : World} {o : Oper} {a : Act} {K : Act → World → Prop} {Q : Exit → Act → World → Prop} (s x : Operand) (t : TypeId)
    (ho : o.op = .call { callee := .builtin .append, args := #[s, x], argTypes := #[t, t] })
    (base : Nat) (e : TypeId) (i : TypeInfo) (z : Value) (size bytes : Nat) (ht : P.underlying t = some (.slice e)) (hi : P.info? e = some i) (hz : i.zero = some z)
    (hsize : i.size = size) (hby : i.bytes = bytes) (hzs : z.cells.size = size) (hsz : 0 < size)
    (v : Value) (n : Nat) (xs : List Value) (hs : a.eval s = v) (hown : w.ownsRow base e size v n xs)
    (p : Option Addr) (m c : Nat) (news : List Value) (hx : a.eval x = .slice p m c) (hl : news.length = m * size) (hsrc : m = 0 ∨ ∃ ad, p = some ad ∧ ∀ j u, news[j]? = some u → w.cell? (ad.add j) = some u) (h1 : ∀ u ∈ news, u.oneCell' = true)
    (h63 : n + m ≤ maxLen) (hbytes : (n + m) * bytes ≤ 140737488355328) (hbase : base ≤ w.heap.size)
    (h : ∀ a' c' w', w'.ownsRow base e size (.slice a' (n + m) c') (n + m) (xs ++ news) → w.grownBy w' v.ownBlock → ((Value.slice a' (n + m) c').ownBlock = v.ownBlock ∨ (Value.slice a' (n + m) c').ownBlock = some w.heap.size) → K (a.put o.dst (.slice a' (n + m) c')) w') : o.wp P a w K Q := by
  by_cases hm : m = 0
  · subst hm
    obtain rfl : news = [] := List.length_eq_zero_iff.1 (by omega)
    obtain ⟨a1, c1, rfl, hc⟩ := ownsRow_as hown
    have hsr : Src P i.size t (.slice p 0 c) 0 [] w := by
      cases p
      · exact Src.ofNil w ht c
      · exact Src.ofSlice w ht _ 0 c [] (by simp) (by simp) (by simp)
    have hr := run_append_nothing (P := P) w t t o.type e i ht hi a1 n c1 hc _ hsr
    unfold Oper.wp execOp
    simp only [ho, resolve, invoke, builtin, Sem.run_bind, Sem.run_pure, Result.andThen_ok, List.map_toArray, List.map_cons, List.map_nil, hs, hx, hr]
    exact h a1 c1 w (by simpa using hown) (grown_same _ _) (.inl rfl)
  · obtain ⟨ad, rfl, hn⟩ : ∃ ad, p = some ad ∧ ∀ j u, news[j]? = some u → w.cell? (ad.add j) = some u := by
      rcases hsrc with h | h
      · exact absurd h hm
      · exact h
    refine wp_append_lies w s x t ho base e i z size bytes ht hi hz hsize hby hzs hsz v n xs hs hown ad m c news hx hl hn h1 (by omega) h63 hbytes hbase w.heap.size rfl ?_
    intro g cap w' hown' hgrow hat hlt'
    exact h _ _ _ hown' hgrow (by rcases hat with h | h; exact .inl h.symm; exact .inr (by rw [h]; rfl))
theorem wp_append_selsO {w0 w : World} {o : Oper} {a : Act} {K : Act → World → Prop} {Q : Exit → Act → World → Prop} (s x : Operand)
    (ho : o.op = .call { callee := .builtin .append, args := #[s, x], argTypes := #[75, 75] })
    (base : Nat) (v : Value) (f g : List (Hd × Sels)) (hs : a.eval s = v) (hown : FOwn w0 base 119 w v f) (p : Option Addr) (c : Nat) (hx : a.eval x = .slice p g.length c) (hr : FRow w0 0 w.heap.size w p g)
    (h63 : f.length + g.length ≤ 1048576) (hbase : base ≤ w.heap.size)
    (h : ∀ a' c' w', FOwn w0 base 119 w' (.slice a' (f.length + g.length) c') (f ++ g) → w.grownBy w' v.ownBlock → K (a.put o.dst (.slice a' (f.length + g.length) c')) w') : o.wp Tryz.prog a w K Q := by
  obtain ⟨i, hi, hz, hsz, hby⟩ := info_selV
  obtain ⟨vs, hown, hv⟩ := hown
  obtain ⟨us, hu, hsrc⟩ : ∃ us, VsOf w0 g us ∧ (g.length = 0 ∨ ∃ ad, p = some ad ∧ ∀ j u, us[j]? = some u → w.cell? (ad.add j) = some u) := by
    by_cases h0 : 0 < g.length
    · obtain ⟨ad, us, h1, h2, h3⟩ := FRow.vals hr h0
      exact ⟨us, h2, .inr ⟨ad, h1, h3⟩⟩
    · obtain rfl : g = [] := List.length_eq_zero_iff.1 (by omega)
      exact ⟨[], VsOf.nil w0, .inl rfl⟩
  refine wp_append_anyO s x 75 ho base 119 i _ 6 112 Tryz.underlying75 hi hz hsz hby rfl (by decide) v f.length _ hs hown p g.length c us hx hu.1 hsrc hu.2.1 (by unfold maxLen; omega) (by omega) hbase ?_
  intro a' c' w' ho' hg _
  refine h a' c' w' ⟨vs ++ us, ?_, hv.append hu⟩ hg
  rw [List.length_append]
  exact ho'
theorem one_sel {w0 : World} (w : World) (x : Hd × Sels) {a1 a2 a3 : Option Addr} {c1 c2 c3 : Nat} (r1 : ArRow 0 w0.heap.size w0 a1 x.1.args) (hq : x.1.args.length ≤ c1) (r2 : DiRow 0 w0.heap.size w0 a2 x.1.dirs) (r3 : SelRow 0 w0.heap.size w0 a3 x.2) :
    FRow w0 0 (w.alloc (.cells #[.int .i64 x.1.k, .string x.1.al, .string x.1.nm, .slice a1 x.1.args.length c1, .slice a2 x.1.dirs.length c2, .slice a3 x.2.len c3] 119)).heap.size (w.alloc (.cells #[.int .i64 x.1.k, .string x.1.al, .string x.1.nm, .slice a1 x.1.args.length c1, .slice a2 x.1.dirs.length c2, .slice a3 x.2.len c3] 119)) (some ⟨w.heap.size, 0, none⟩) [x] := by
  refine .inr ⟨w.heap.size, 0, rfl, Nat.zero_le _, by simp, fun i y hy => ?_⟩
  cases i with
  | zero =>
    simp only [List.getElem?_cons_zero, Option.some.injEq] at hy
    subst hy
    have q := fun o => row_cell (heap_alloc_new w (.cells #[.int .i64 x.1.k, .string x.1.al, .string x.1.nm, .slice a1 x.1.args.length c1, .slice a2 x.1.dirs.length c2, .slice a3 x.2.len c3] 119)) o
    exact FAt.of (a1 := a1) (c1 := c1) (a2 := a2) (c2 := c2) (a3 := a3) (c3 := c3) (q 0) (q 1) (q 2) (q 3) (q 4) (q 5) r1 hq r2 r3
  | succ i => simp at hy
end Go.Proofs.YthbjihbpjajggaaGreat
namespace Go.Proofs.YthbjihbpjajggaaGreat.G
open Go.ChangeShapes Go.WideShapes Go.ChangeAt Go.RowKit
set_option linter.unusedVariables false

def rdOf (w : World) (b : Nat) : Nat → Option Value := fun j => w.cell? ⟨b, j, none⟩
/-- A row of elements of some cells each, in a block from lo up and below hi; any place where there is none. -/
def Row {α : Type} (at_ : (Nat → Option Value) → Nat → α → Prop) (z : Nat) (lo hi : Nat) (w : World) (a : Option Addr) (l : List α) : Prop :=
  l = [] ∨ ∃ b o, a = some ⟨b, o, none⟩ ∧ lo ≤ b ∧ b < hi ∧ ∀ i x, l[i]? = some x → at_ (rdOf w b) (o + i * z) x
/-- Two worlds agree on the blocks from lo up and below hi. -/
def Agree (lo hi : Nat) (w w' : World) : Prop := ∀ g, lo ≤ g → g < hi → w'.heap[g]? = w.heap[g]?
theorem Agree.rd {lo hi : Nat} {w w' : World} (h : Agree lo hi w w') {b : Nat} (h1 : lo ≤ b) (h2 : b < hi) : rdOf w' b = rdOf w b := by
  funext j; simp only [rdOf, World.cell?, h b h1 h2]
theorem agree {B : Nat} {w w' : World} (h : Below B w w') {lo hi : Nat} (hh : hi ≤ B) : Agree lo hi w w' := fun g _ h2 => h.block g (by omega)
theorem Row.at_ {α : Type} {at_ : (Nat → Option Value) → Nat → α → Prop} {z lo hi : Nat} {w : World} {a : Option Addr} {l : List α} (h : Row at_ z lo hi w a l) (k : Nat) (hk : k < l.length) :
    ∃ b o, a = some ⟨b, o, none⟩ ∧ lo ≤ b ∧ b < hi ∧ at_ (rdOf w b) (o + k * z) l[k] := by
  rcases h with rfl | ⟨b, o, rfl, h1, h2, h3⟩
  · simp at hk
  · exact ⟨b, o, rfl, h1, h2, h3 k l[k] (List.getElem?_eq_getElem hk)⟩
theorem Row.of {α : Type} {at1 at2 : (Nat → Option Value) → Nat → α → Prop} {z lo hi : Nat} {w w' : World} {a : Option Addr} {l : List α} (h : Row at1 z lo hi w a l) (hk : Agree lo hi w w') (hi' : ∀ rd o x, at1 rd o x → at2 rd o x) : Row at2 z lo hi w' a l := by
  rcases h with h | ⟨b, o, rfl, h1, h2, h3⟩
  · exact .inl h
  · exact .inr ⟨b, o, rfl, h1, h2, fun i x hx => by rw [hk.rd h1 h2]; exact hi' _ _ _ (h3 i x hx)⟩
theorem Row.out {α : Type} {at1 at2 : (Nat → Option Value) → Nat → α → Prop} {z lo hi lo' hi' : Nat} {w : World} {a : Option Addr} {l : List α} (h : Row at1 z lo hi w a l) (e1 : lo' ≤ lo) (e2 : hi ≤ hi') (hx : ∀ rd o x, at1 rd o x → at2 rd o x) : Row at2 z lo' hi' w a l := by
  rcases h with h | ⟨b, o, rfl, h1, h2, h3⟩
  · exact .inl h
  · exact .inr ⟨b, o, rfl, by omega, by omega, fun i x h => hx _ _ _ (h3 i x h)⟩

theorem cell_lt {W : World} {a : Addr} {v : Value} (h : W.cell? a = some v) : a.block < W.heap.size := by
  refine Nat.lt_of_not_le fun hle => ?_
  simp [World.cell?, Array.getElem?_eq_none hle] at h
theorem list_of {α : Type} {len : Nat} {p : Nat → α → Prop} (h : ∀ i, i < len → ∃ x, p i x) : ∃ l : List α, l.length = len ∧ ∀ i x, l[i]? = some x → p i x := by
  induction len with
  | zero => exact ⟨[], rfl, by simp⟩
  | succ n ih =>
    obtain ⟨l, hl, hp⟩ := ih fun i hi => h i (by omega)
    obtain ⟨y, hy⟩ := h n (by omega)
    refine ⟨l ++ [y], by simp [hl], fun i x hx => ?_⟩
    by_cases hi : i < n
    · rw [List.getElem?_append_left (by omega)] at hx; exact hp i x hx
    · rw [List.getElem?_append_right (by omega)] at hx
      have : i - l.length < 1 := by have := (List.getElem?_eq_some_iff.1 hx).1; simpa using this
      obtain rfl : i = n := by omega
      rw [hl, Nat.sub_self] at hx
      simp at hx; subst hx; exact hy
section
variable {H : Type} {enc : TypeId × Value → H} {W : World}
/-- A slice's cell opened: its elements' cells, each with its own reading. -/
theorem sl_open {t e : TypeId} {z : Nat} {fuel : Nat} {cs : List Value} {x : DataW H × List MemPlace} (ht : Tryz.prog.underlying t = some (.slice e)) (hz : Tryz.prog.cellsOf e = z) (hz0 : 0 < z) (h : DataW.trod enc Tryz.prog W 0 (fun _ => true) true fuel t cs = some x) :
    ∃ a len cap, cs = [.slice a len cap] ∧ len ≤ maxLen ∧ (len = 0 ∨ ∃ n b o, fuel = n + 1 ∧ a = some ⟨b, o, none⟩ ∧ b < W.heap.size ∧
      ∀ i, i < len → ∃ cs' y, cs'.length = z ∧ (∀ j, j < z → rdOf W b (o + i * z + j) = cs'[j]?) ∧ DataW.trod enc Tryz.prog W 0 (fun _ => true) true n e cs' = some y) := by
  rcases DataW.trod_slice ht h with ⟨rfl, _⟩ | ⟨a, len, cap, elems, rest, n, rfl, rfl, _, hb, hl, hm, hlen, hel, _, _⟩
  · exact ⟨none, 0, 0, rfl, Nat.zero_le _, .inl rfl⟩
  · refine ⟨some a, len, cap, rfl, by omega, ?_⟩
    by_cases h0 : len = 0
    · exact .inl h0
    rw [hz] at hel
    have key : ∀ i, i < len → ∃ cs' y, cs'.length = z ∧ (∀ j, j < z → W.cell? ((a.add (i * z)).add j) = cs'[j]?) ∧ DataW.trod enc Tryz.prog W 0 (fun _ => true) true n e cs' = some y := by
      intro i hi
      have := hel i hi
      rw [List.getElem?_eq_getElem (by omega), Option.bind_eq_some_iff] at this
      obtain ⟨cs', h1, h2⟩ := this
      obtain ⟨_, hcl, hc⟩ := World.cells?_some h1
      exact ⟨cs', _, hcl, hc, h2⟩
    obtain ⟨b, o, spot⟩ := a
    obtain ⟨cs', y, hcl, hc, _⟩ := key 0 (by omega)
    have hc0 := hc 0 hz0
    rw [List.getElem?_eq_getElem (by omega)] at hc0
    have hspot : spot = none := by
      have := World.cell?_spot hc0
      simpa [Addr.add] using this
    subst hspot
    refine .inr ⟨n, b, o, rfl, rfl, (by have := cell_lt hc0; simpa [Addr.add] using this), fun i hi => ?_⟩
    obtain ⟨cs', y, hcl, hc, hd⟩ := key i hi
    refine ⟨cs', y, hcl, fun j hj => ?_, hd⟩
    have := hc j hj
    simp only [add_plain] at this
    exact this
end
def Sz (n m : Int) (p : Prop) : Prop := m ≤ n ∧ -1 ≤ m ∧ (0 ≤ m → p)
theorem Sz.mono {n n' m : Int} {p q : Prop} (h : Sz n m p) (hn : n ≤ n') (hp : p → q) : Sz n' m q := ⟨by have := h.1; omega, h.2.1, fun h0 => hp (h.2.2 h0)⟩
theorem Sz.neg {n : Int} {p : Prop} (h : 0 ≤ n) : Sz n (-1) p := ⟨by omega, by omega, fun h => by omega⟩
theorem all_take {α : Type} {p : α → Prop} {l : List α} {k : Nat} (hk : k < l.length) (h : ∀ x ∈ l.take k, p x) (h2 : p l[k]) : ∀ x ∈ l.take (k + 1), p x := by
  rw [List.take_succ_eq_append_getElem hk]
  intro x hx
  rcases List.mem_append.1 hx with hx | hx
  · exact h x hx
  · simp only [List.mem_singleton] at hx; subst hx; exact h2
theorem all_take_b {α : Type} {p : α → Bool} {l : List α} {k : Nat} (hk : k < l.length) (h : (l.take k).all p = true) (h2 : p l[k] = true) : (l.take (k + 1)).all p = true := by
  rw [List.take_succ_eq_append_getElem hk, List.all_append, h]; simp [h2]
theorem all_no_b {α : Type} {p : α → Bool} {l : List α} {k : Nat} (hk : k < l.length) (h2 : p l[k] = false) : l.all p = false := by
  rw [List.all_eq_false]
  exact ⟨l[k], List.getElem_mem hk, by simp [h2]⟩
theorem size_one {w w' : World} {o : Obj} {B : Nat} (hb : Below B (w.alloc o) w') : w.heap.size + 1 ≤ w'.heap.size := by have := hb.size; simpa using this
theorem below_one {w w1 : World} {o : Obj} (h : Below (w.alloc o).heap.size (w.alloc o) w1) : Below w.heap.size w w1 := ((Below.refl _ _).alloc (Nat.le_refl _) _).trans (h.mono (by simp))
theorem ret_ints {a b c d : Int} (h1 : a = b) (h2 : c = d) : Ending.returned (.tuple #[.int .i64 a, .int .i64 c]) = .returned (.tuple #[.int .i64 b, .int .i64 d]) := by rw [h1, h2]
theorem ret_int {a b : Int} (h1 : a = b) : Ending.returned (.int .i64 a) = .returned (.int .i64 b) := by rw [h1]
theorem row_cell {w : World} {N : Nat} {e : TypeId} {cs : Array Value} (h : w.heap[N]? = some (.cells cs e (0, 0))) (j : Nat) : w.cell? ⟨N, j, none⟩ = cs[j]? := cell_of_row w N j cs e _ h
theorem row_frozen {w : World} {N : Nat} {e : TypeId} {cs : Array Value} (h : w.heap[N]? = some (.cells cs e (0, 0))) (j : Nat) : w.frozen? ⟨N, j, none⟩ = false := by
  simp [World.frozen?, h]
theorem row_set {w : World} {N : Nat} {e : TypeId} {cs : Array Value} (h : w.heap[N]? = some (.cells cs e (0, 0))) (j : Nat) (v : Value) : (w.setCell ⟨N, j, none⟩ v).heap[N]? = some (.cells (cs.setIfInBounds j v) e (0, 0)) := by
  rw [setCell_eq_setRow w N j cs e _ v h]; exact setRow_heap w N cs _ e _ h
theorem row_rd {w : World} {N : Nat} {e : TypeId} {cs : Array Value} (h : w.heap[N]? = some (.cells cs e (0, 0))) : rdOf w N = fun j => cs[j]? := by
  funext j; exact row_cell h j
theorem heap_set (w : World) (b o : Nat) (v : Value) (g : Nat) (h : g ≠ b) : (w.setCell ⟨b, o, none⟩ v).heap[g]? = w.heap[g]? := Below.heap_setCell _ _ _ _ h
/-- The first k of a row are laid. -/
def LaidR {α : Type} (at_ : (Nat → Option Value) → Nat → α → Prop) (z : Nat) (cs : Array Value) (l : List α) (k : Nat) : Prop := ∀ i x, i < k → l[i]? = some x → at_ (fun j => cs[j]?) (i * z) x
end Go.Proofs.YthbjihbpjajggaaGreat.G
namespace Go.Proofs.YthbjihbpjajggaaGreat.G
open Go.ChangeShapes Go.WideShapes Go.ChangeAt Go.RowKit
set_option linter.unusedVariables false

/-- One slot written. -/
def upd (u : Nat → Value) (d : Nat) (v : Value) : Nat → Value := fun n => if n = d then v else u n
theorem upd_at (u : Nat → Value) (d : Nat) (v : Value) : upd u d v d = v := by simp [upd]
theorem upd_ne (u : Nat → Value) {d n : Nat} (v : Value) (h : n ≠ d) : upd u d v n = u n := by simp [upd, h]
/-- Every edge goes back. -/
def backB (ops : Array Oper) : Bool := (List.range ops.size).all fun i => match ops[i]? with
  | some o => o.after.all fun e => decide (e.on < i)
  | none => true
/-- Operation n is the last, and waits for all. -/
def lastB (ops : Array Oper) (n : Nat) : Bool := decide (ops.size = n + 1) && (List.range n).all fun i => match ops[n]? with
  | some o => o.after.toList.any fun e => decide (e.on = i) && Region.binds .any e
  | none => false
theorem cntF : ∀ (l : List Bool) (i : Nat), l[i]? = some false → (l.set i true).count false + 1 = l.count false
  | [], i, h => by simp at h
  | b :: l, 0, h => by
    simp only [List.getElem?_cons_zero, Option.some.injEq] at h
    subst h
    simp
  | b :: l, i + 1, h => by
    have := cntF l i (by simpa using h)
    simp only [List.set_cons_succ, List.count_cons]
    omega
theorem getD_lt {L : Array Bool} {i : Nat} (h : L.getD i true = false) : i < L.size := by
  rcases Nat.lt_or_ge i L.size with h' | h'
  · exact h'
  · simp [Array.getElem?_eq_none h'] at h
theorem getD_get {L : Array Bool} {i : Nat} (h : L.getD i true = false) : L.toList[i]? = some false := by
  have hi := getD_lt h
  simp only [Array.getD_eq_getD_getElem?, Array.getElem?_eq_getElem hi, Option.getD_some] at h
  simp [hi, h]
theorem getD_other {L : Array Bool} {i : Nat} (hi : i < L.size) (h : ¬ L.getD i false = true) : L.getD i true = false := by
  simp only [Array.getD_eq_getD_getElem?, Array.getElem?_eq_getElem hi, Option.getD_some] at h ⊢
  simpa using h
theorem getD_both {L : Array Bool} {i : Nat} (hi : i < L.size) (h : L.getD i false = true) : L.getD i true = true := by
  simp only [Array.getD_eq_getD_getElem?, Array.getElem?_eq_getElem hi, Option.getD_some] at h ⊢
  exact h
theorem some_ready {ops : Array Oper} (hback : backB ops = true) {L : Array Bool} (hs : L.size = ops.size) : ∀ (k i : Nat), i < k → L.getD i true = false → ∃ j, j ∈ Region.ready .any ops L
  | 0, i, hk, _ => by omega
  | k + 1, i, hk, hi => by
    have hlt := getD_lt hi
    have ho : ops[i]? = some (ops[i]'(by omega)) := Array.getElem?_eq_getElem (by omega)
    by_cases hr : i ∈ Region.ready .any ops L
    · exact ⟨i, hr⟩
    · rw [mem_ready] at hr
      have : ¬ ∀ e ∈ (ops[i]'(by omega)).after, Region.binds .any e = true → L.getD e.on false = true := fun hh => hr ⟨hi, _, ho, hh⟩
      simp only [Classical.not_forall] at this
      obtain ⟨e, he, hb, hne⟩ := this
      have hbk := hback
      unfold backB at hbk
      rw [List.all_eq_true] at hbk
      have h2 := hbk i (by rw [List.mem_range]; omega)
      rw [ho] at h2
      simp only [Array.all_eq_true_iff_forall_mem, decide_eq_true_eq] at h2
      have h3 := h2 e he
      exact some_ready hback hs k e.on (by omega) (getD_other (by omega) hne)

theorem region_rel {P : Program} {ops : Array Oper} {Q : Exit → Act → World → Prop} {id : Nat} {W0 : World} {n : Nat} (hm : P.follows .mixedOrders = true) (hback : backB ops = true) (hlast : lastB ops n = true)
    (fr : (Nat → Value) → Act) (u0 : Nat → Value) (dst : Nat → Nat) (hdst : ∀ i j, i < n → j < n → dst i = dst j → i = j)
    (Pv : Nat → Value → World → Prop) (J : (Nat → Value) → World → Prop)
    (hP : ∀ i v w w', Pv i v w → Below w.heap.size w w' → Pv i v w') (hJ0 : J u0 W0.drew)
    (hstep : ∀ u w i, i < n → Below W0.heap.size W0 w → J u w → (∀ o, ops[i]? = some o → ∀ e ∈ o.after, Region.binds .any e = true → Pv e.on (u (dst e.on)) w) →
      wpOp P ops Q i (fun a' w' => ∃ v, a' = fr (upd u (dst i) v) ∧ Below w.heap.size w w' ∧ Pv i v w' ∧ J (upd u (dst i) v) w') (fr u) w)
    (hend : ∀ u w, Below W0.heap.size W0 w → J u w → (∀ i, i < n → Pv i (u (dst i)) w) → wpOp P ops Q n (fun a' w' => Q .normal a' w') (fr u) w) :
    (Code.region id ops true).wp P Q (fr u0) W0 := by
  unfold lastB at hlast
  rw [Bool.and_eq_true, decide_eq_true_eq] at hlast
  obtain ⟨hsz, hall⟩ := hlast
  refine wp_region_any hm ?_
  have key : ∀ (fuel : Nat) (L : Array Bool) (u : Nat → Value) (w : World), L.size = n + 1 → L.toList.count false ≤ fuel → L.getD n true = false → Below W0.heap.size W0 w → J u w →
      (∀ i, i < n → L.getD i false = true → Pv i (u (dst i)) w) → wpAny P .any ops Q fuel L (fr u) w := by
    intro fuel
    induction fuel with
    | zero =>
      intro L u w hs hc hn hb hj hp
      have h1 := cntF L.toList n (getD_get hn)
      omega
    | succ fuel ih =>
      intro L u w hs hc hn hb hj hp
      refine ⟨fun h0 => ?_, fun i hi => ?_⟩
      · obtain ⟨j, hj'⟩ := some_ready hback (hs.trans hsz.symm) (n + 1) n (by omega) hn
        rw [h0] at hj'
        cases hj'
      · rw [mem_ready] at hi
        obtain ⟨hL, o, ho, hdep⟩ := hi
        have hlt := getD_lt hL
        by_cases hin : i = n
        · subst hin
          have hdone : ∀ j, j < i → L.getD j false = true := by
            intro j hj2
            rw [List.all_eq_true] at hall
            have h2 := hall j (by rw [List.mem_range]; exact hj2)
            rw [ho] at h2
            simp only [List.any_eq_true, Bool.and_eq_true, decide_eq_true_eq] at h2
            obtain ⟨e, he, he1, he2⟩ := h2
            have := hdep e (Array.mem_toList_iff.1 he) he2
            rwa [he1] at this
          refine wpOp_mono (fun a' w' hq => wpAny_done ?_ hq fuel) (hend u w hb hj (fun j hj2 => hp j hj2 (hdone j hj2)))
          rw [List.eq_nil_iff_forall_not_mem]
          intro j hj2
          rw [mem_ready] at hj2
          obtain ⟨h1, -⟩ := hj2
          have hjl := getD_lt h1
          rw [Array.size_setIfInBounds] at hjl
          by_cases hji : j = i
          · subst hji
            simp [hlt] at h1
          · rw [getD_set_ne true (Ne.symm hji), getD_both (by omega) (hdone j (by omega))] at h1
            cases h1
        · refine wpOp_mono ?_ (hstep u w i (by omega) hb hj (fun o' ho' e he hbi => ?_))
          · rintro a' w' ⟨v, rfl, hb2, hp2, hj2⟩
            refine ih _ _ _ (by rw [Array.size_setIfInBounds]; exact hs) ?_ (by rw [getD_set_ne true hin]; exact hn) (hb.trans (hb2.mono hb.size)) hj2 ?_
            · have h1 := cntF L.toList i (getD_get hL)
              rw [Array.toList_setIfInBounds]
              omega
            · intro j hjn hjl
              by_cases hji : j = i
              · subst hji
                rw [upd_at]
                exact hp2
              · rw [getD_set_ne false (Ne.symm hji)] at hjl
                rw [upd_ne _ _ (fun h => hji (hdst j i hjn (by omega) h))]
                exact hP _ _ _ _ (hp j hjn hjl) hb2
          · rw [ho] at ho'
            simp only [Option.some.injEq] at ho'
            subst ho'
            have h1 := hdep e he hbi
            unfold backB at hback
            rw [List.all_eq_true] at hback
            have h2 := hback i (by rw [List.mem_range]; omega)
            rw [ho] at h2
            simp only [Array.all_eq_true_iff_forall_mem, decide_eq_true_eq] at h2
            have h3 := h2 e he
            exact hp e.on (by omega) h1
  have hrep : (Array.replicate ops.size false).toList.count false = ops.size := by simp
  exact key ops.size _ u0 _ (by rw [Array.size_replicate]; exact hsz) (by rw [hrep]; exact Nat.le_refl _) (by simp [hsz]) ((Below.refl _ _).drew) hJ0 (fun i hi h => by
    rw [hsz] at h
    simp [show i < n + 1 by omega] at h)
end Go.Proofs.YthbjihbpjajggaaGreat.G
namespace Go.Proofs.YthbjihbpjajggaaGreat.G
open Go.ChangeShapes Go.WideShapes Go.ChangeAt Go.RowKit
set_option linter.unusedVariables false

/-- Every edge that binds goes back. -/
def back3B (ops : Array Oper) : Bool := (List.range ops.size).all fun i => match ops[i]? with
  | some o => o.after.all fun e => !Region.binds .any e || decide (e.on < i)
  | none => true
theorem some_ready3 {ops : Array Oper} (hback : back3B ops = true) {L : Array Bool} (hs : L.size = ops.size) : ∀ (k i : Nat), i < k → L.getD i true = false → ∃ j, j ∈ Region.ready .any ops L
  | 0, i, hk, _ => by omega
  | k + 1, i, hk, hi => by
    have hlt := getD_lt hi
    have ho : ops[i]? = some (ops[i]'(by omega)) := Array.getElem?_eq_getElem (by omega)
    by_cases hr : i ∈ Region.ready .any ops L
    · exact ⟨i, hr⟩
    · rw [mem_ready] at hr
      have : ¬ ∀ e ∈ (ops[i]'(by omega)).after, Region.binds .any e = true → L.getD e.on false = true := fun hh => hr ⟨hi, _, ho, hh⟩
      simp only [Classical.not_forall] at this
      obtain ⟨e, he, hb, hne⟩ := this
      have hbk := hback
      unfold back3B at hbk
      rw [List.all_eq_true] at hbk
      have h2 := hbk i (by rw [List.mem_range]; omega)
      rw [ho] at h2
      simp only [Array.all_eq_true_iff_forall_mem, Bool.or_eq_true, Bool.not_eq_true', decide_eq_true_eq] at h2
      have h3 : e.on < i := by
        rcases h2 e he with h4 | h4
        · rw [hb] at h4; cases h4
        · exact h4
      exact some_ready3 hback hs k e.on (by omega) (getD_other (by omega) hne)

theorem region_rel3 {P : Program} {ops : Array Oper} {Q : Exit → Act → World → Prop} {id : Nat} {W0 : World} {n : Nat} (hm : P.follows .mixedOrders = true) (hback : back3B ops = true) (hlast : lastB ops n = true)
    (fr : (Nat → Value) → Act) (u0 : Nat → Value) (dst : Nat → Nat) (hdst : ∀ i j, i < n → j < n → dst i = dst j → i = j)
    (Pv : Nat → Value → World → Prop) (J : Array Bool → (Nat → Value) → World → Prop)
    (hJ0 : J (Array.replicate ops.size false) u0 W0.drew)
    (hstep : ∀ L u w i, i < n → L.size = n + 1 → L.getD i true = false → Below W0.heap.size W0 w → J L u w → (∀ o, ops[i]? = some o → ∀ e ∈ o.after, Region.binds .any e = true → L.getD e.on false = true ∧ Pv e.on (u (dst e.on)) w) →
      wpOp P ops Q i (fun a' w' => ∃ v, a' = fr (upd u (dst i) v) ∧ Below W0.heap.size w w' ∧ (∀ j x, Pv j x w → Pv j x w') ∧ Pv i v w' ∧ J (L.setIfInBounds i true) (upd u (dst i) v) w') (fr u) w)
    (hend : ∀ L u w, L.size = n + 1 → (∀ i, i < n → L.getD i false = true) → Below W0.heap.size W0 w → J L u w → (∀ i, i < n → Pv i (u (dst i)) w) → wpOp P ops Q n (fun a' w' => Q .normal a' w') (fr u) w) :
    (Code.region id ops true).wp P Q (fr u0) W0 := by
  unfold lastB at hlast
  rw [Bool.and_eq_true, decide_eq_true_eq] at hlast
  obtain ⟨hsz, hall⟩ := hlast
  refine wp_region_any hm ?_
  have key : ∀ (fuel : Nat) (L : Array Bool) (u : Nat → Value) (w : World), L.size = n + 1 → L.toList.count false ≤ fuel → L.getD n true = false → Below W0.heap.size W0 w → J L u w →
      (∀ i, i < n → L.getD i false = true → Pv i (u (dst i)) w) → wpAny P .any ops Q fuel L (fr u) w := by
    intro fuel
    induction fuel with
    | zero =>
      intro L u w hs hc hn hb hj hp
      have h1 := cntF L.toList n (getD_get hn)
      omega
    | succ fuel ih =>
      intro L u w hs hc hn hb hj hp
      refine ⟨fun h0 => ?_, fun i hi => ?_⟩
      · obtain ⟨j, hj'⟩ := some_ready3 hback (hs.trans hsz.symm) (n + 1) n (by omega) hn
        rw [h0] at hj'
        cases hj'
      · rw [mem_ready] at hi
        obtain ⟨hL, o, ho, hdep⟩ := hi
        have hlt := getD_lt hL
        by_cases hin : i = n
        · subst hin
          have hdone : ∀ j, j < i → L.getD j false = true := by
            intro j hj2
            rw [List.all_eq_true] at hall
            have h2 := hall j (by rw [List.mem_range]; exact hj2)
            rw [ho] at h2
            simp only [List.any_eq_true, Bool.and_eq_true, decide_eq_true_eq] at h2
            obtain ⟨e, he, he1, he2⟩ := h2
            have := hdep e (Array.mem_toList_iff.1 he) he2
            rwa [he1] at this
          refine wpOp_mono (fun a' w' hq => wpAny_done ?_ hq fuel) (hend L u w hs hdone hb hj (fun j hj2 => hp j hj2 (hdone j hj2)))
          rw [List.eq_nil_iff_forall_not_mem]
          intro j hj2
          rw [mem_ready] at hj2
          obtain ⟨h1, -⟩ := hj2
          have hjl := getD_lt h1
          rw [Array.size_setIfInBounds] at hjl
          by_cases hji : j = i
          · subst hji
            simp [hlt] at h1
          · rw [getD_set_ne true (Ne.symm hji), getD_both (by omega) (hdone j (by omega))] at h1
            cases h1
        · refine wpOp_mono ?_ (hstep L u w i (by omega) hs hL hb hj (fun o' ho' e he hbi => ?_))
          · rintro a' w' ⟨v, rfl, hb2, hst, hp2, hj2⟩
            refine ih _ _ _ (by rw [Array.size_setIfInBounds]; exact hs) ?_ (by rw [getD_set_ne true hin]; exact hn) (hb.trans hb2) hj2 ?_
            · have h1 := cntF L.toList i (getD_get hL)
              rw [Array.toList_setIfInBounds]
              omega
            · intro j hjn hjl
              by_cases hji : j = i
              · subst hji
                rw [upd_at]
                exact hp2
              · rw [getD_set_ne false (Ne.symm hji)] at hjl
                rw [upd_ne _ _ (fun h => hji (hdst j i hjn (by omega) h))]
                exact hst _ _ (hp j hjn hjl)
          · rw [ho] at ho'
            simp only [Option.some.injEq] at ho'
            subst ho'
            have h1 := hdep e he hbi
            unfold back3B at hback
            rw [List.all_eq_true] at hback
            have h2 := hback i (by rw [List.mem_range]; omega)
            rw [ho] at h2
            simp only [Array.all_eq_true_iff_forall_mem, Bool.or_eq_true, Bool.not_eq_true', decide_eq_true_eq] at h2
            have h3 : e.on < i := by
              rcases h2 e he with h4 | h4
              · rw [hbi] at h4; cases h4
              · exact h4
            exact ⟨h1, hp e.on (by omega) h1⟩
  have hrep : (Array.replicate ops.size false).toList.count false = ops.size := by simp
  exact key ops.size _ u0 _ (by rw [Array.size_replicate]; exact hsz) (by rw [hrep]; exact Nat.le_refl _) (by simp [hsz]) ((Below.refl _ _).drew) hJ0 (fun i hi h => by
    rw [hsz] at h
    simp [show i < n + 1 by omega] at h)
end Go.Proofs.YthbjihbpjajggaaGreat.G
