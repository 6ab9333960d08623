/- Whether a list of puts is right: the program's text and the specification's. -/
import Derived.Test.YtaeknfjmbjeloaaStTo
import Derived.Deep.AppendLies
import Derived.Deep.AppendSrc
import Derived.Test.YtaeknfjmbjeloaaStUpMath
namespace Go.Proofs.Ytaeknfjmbjeloaa.G
open Go.ChangeShapes Go.WideShapes Go.ChangeAt Go.RowKit
set_option linter.unusedVariables false

/-- Nothing has turned but blocks from lo up and below hi, and new ones were made. -/
structure KeptS (lo hi : Nat) (w w' : World) : Prop where
  os : w'.os = w.os
  tape : w'.tape = w.tape
  output : w'.output = w.output
  size : w.heap.size ≤ w'.heap.size
  block : ∀ k, k < w.heap.size → ¬ (lo ≤ k ∧ k < hi) → w'.heap[k]? = w.heap[k]?
theorem KeptS.refl (lo hi : Nat) (w : World) : KeptS lo hi w w := ⟨rfl, rfl, rfl, Nat.le_refl _, fun _ _ _ => rfl⟩
theorem KeptS.trans {lo hi : Nat} {a b c : World} (h : KeptS lo hi a b) (k : KeptS lo hi b c) : KeptS lo hi a c :=
  ⟨k.os.trans h.os, k.tape.trans h.tape, k.output.trans h.output, Nat.le_trans h.size k.size, fun g hg hn => (k.block g (Nat.lt_of_lt_of_le hg h.size) hn).trans (h.block g hg hn)⟩
theorem KeptS.mono {lo hi lo' hi' : Nat} {a b : World} (h : KeptS lo hi a b) (e1 : lo' ≤ lo) (e2 : hi ≤ hi') : KeptS lo' hi' a b := ⟨h.os, h.tape, h.output, h.size, fun g hg hn => h.block g hg (fun hx => hn ⟨by omega, by omega⟩)⟩
theorem KeptS.of {lo hi : Nat} {a b : World} (h : Below a.heap.size a b) : KeptS lo hi a b := ⟨h.os, h.tape, h.output, h.size, fun g hg _ => h.block g hg⟩
theorem KeptS.set {lo hi : Nat} {a b : World} (h : KeptS lo hi a b) {p : Addr} (h1 : lo ≤ p.block) (h2 : p.block < hi) (v : Value) : KeptS lo hi a (b.setCell p v) := by
  have hb : Below (p.block) b (b.setCell p v) := (Below.refl _ _).setCell (Nat.le_refl _) v
  exact h.trans ⟨hb.os, hb.tape, hb.output, hb.size, fun g _ hn => Below.heap_setCell _ _ _ _ (fun e => hn (e ▸ ⟨h1, h2⟩))⟩
theorem KeptS.below {lo hi : Nat} {a b : World} (h : KeptS lo hi a b) {B : Nat} (hB : B ≤ a.heap.size) (hs : B ≤ lo) : Below B a b :=
  ⟨h.os, h.tape, h.output, h.size, fun g hg => h.block g (by omega) (fun hx => by omega)⟩
theorem KeptS.agree {lo hi lo' hi' : Nat} {a b : World} (h : KeptS lo hi a b) (hB : hi' ≤ a.heap.size) (hs : hi' ≤ lo ∨ hi ≤ lo') : Agree lo' hi' a b :=
  fun g h1 h2 => h.block g (by omega) (fun hx => by omega)
/-- A block whose first n versions bear the marks from K on. -/
def VeMk (w : World) (b : Nat) (K : Int) (n : Nat) : Prop := ∃ cs, w.heap[b]? = some (.cells cs 61 (0, 0)) ∧ n * 2 ≤ cs.size ∧ ∀ i : Nat, i < n → cs[i * 2]? = some (.int .i64 (K + 2 * i)) ∧ cs[i * 2 + 1]? = some (.int .i64 (K + 2 * i + 1))
theorem VeMk.move {w w' : World} {b : Nat} {K : Int} {n : Nat} (h : VeMk w b K n) (e : w'.heap[b]? = w.heap[b]?) : VeMk w' b K n := by
  obtain ⟨cs, h1, h2⟩ := h
  exact ⟨cs, e.trans h1, h2⟩
theorem mk_put {cs : Array Value} {K : Int} {k n : Nat} (hs : n * 2 ≤ cs.size) (hk : k < n) (h : ∀ i : Nat, i < k → cs[i * 2]? = some (.int .i64 (K + 2 * i)) ∧ cs[i * 2 + 1]? = some (.int .i64 (K + 2 * i + 1))) {v0 v1 : Int} (e0 : v0 = K + 2 * k) (e1 : v1 = K + 2 * k + 1) :
    ∀ i : Nat, i < k + 1 → ((cs.setIfInBounds (k * 2) (.int .i64 v0)).setIfInBounds (k * 2 + 1) (.int .i64 v1))[i * 2]? = some (.int .i64 (K + 2 * i)) ∧ ((cs.setIfInBounds (k * 2) (.int .i64 v0)).setIfInBounds (k * 2 + 1) (.int .i64 v1))[i * 2 + 1]? = some (.int .i64 (K + 2 * i + 1)) := by
  subst e0 e1
  intro i hi
  by_cases hik : i = k
  · subst hik
    refine ⟨?_, ?_⟩ <;> simp [Array.getElem?_setIfInBounds] <;> omega
  · obtain ⟨c0, c1⟩ := h i (by omega)
    refine ⟨?_, ?_⟩
    · rw [Array.getElem?_setIfInBounds_ne (by omega), Array.getElem?_setIfInBounds_ne (by omega)]; exact c0
    · rw [Array.getElem?_setIfInBounds_ne (by omega), Array.getElem?_setIfInBounds_ne (by omega)]; exact c1
/-- A store whose first k chains bear the marks. -/
def StMk (lo hi : Nat) (w : World) (a : Option Addr) (l : Chs) (bs : Nat → Nat) (K : Int) (k : Nat) : Prop :=
  ∃ b cs, a = some ⟨b, 0, none⟩ ∧ lo ≤ b ∧ b < hi ∧ w.heap[b]? = some (.cells cs 58 (0, 0)) ∧
    (∀ i x, l[i]? = some x → ∃ a3 c, cs[i]? = some (.slice a3 x.length c) ∧ (x ≠ [] → a3 = some ⟨bs i, 0, none⟩ ∧ lo ≤ bs i ∧ bs i < hi ∧ bs i ≠ b ∧ (i < k → VeMk w (bs i) (K + 2 * sizeN (l.take i)) x.length) ∧ (k ≤ i → VeBlk w (bs i) x))) ∧
    (∀ i j x y, l[i]? = some x → l[j]? = some y → i ≠ j → x ≠ [] → y ≠ [] → bs i ≠ bs j)
theorem StOwn.mk {lo hi : Nat} {w : World} {a : Option Addr} {l : Chs} {bs : Nat → Nat} (h : StOwn lo hi w a l bs) (K : Int) : StMk lo hi w a l bs K 0 := by
  obtain ⟨b, cs, e, h1, h2, h3, h4, h5, h6⟩ := h
  refine ⟨b, cs, e, h1, h2, h3, fun i x hx => ?_, h6⟩
  obtain ⟨a3, c, g1, g2, g3⟩ := h5 i x hx
  refine ⟨a3, c, g1, fun hne => ?_⟩
  obtain ⟨f1, f2, f3, f4, f5⟩ := g3 hne
  exact ⟨f1, f2, f3, f4, fun hi => by omega, fun _ => f5⟩
theorem StMk.keep {lo hi : Nat} {w w' : World} {a : Option Addr} {l : Chs} {bs : Nat → Nat} {K : Int} {k : Nat} (h : StMk lo hi w a l bs K k) (hk : Agree lo hi w w') : StMk lo hi w' a l bs K k := by
  obtain ⟨b, cs, e, h1, h2, h3, h5, h6⟩ := h
  refine ⟨b, cs, e, h1, h2, (hk b h1 h2).trans h3, fun i x hx => ?_, h6⟩
  obtain ⟨a3, c, g1, g3⟩ := h5 i x hx
  refine ⟨a3, c, g1, fun hne => ?_⟩
  obtain ⟨f1, f2, f3, f4, f5, f6⟩ := g3 hne
  exact ⟨f1, f2, f3, f4, fun hi => (f5 hi).move (hk _ f2 f3), fun hi => (f6 hi).move (hk _ f2 f3)⟩
theorem StMk.skip {lo hi : Nat} {w : World} {a : Option Addr} {l : Chs} {bs : Nat → Nat} {K : Int} {k : Nat} (h : StMk lo hi w a l bs K k) (hlt : k < l.length) (h0 : l[k] = []) : StMk lo hi w a l bs K (k + 1) := by
  obtain ⟨b, cs, e, h1, h2, h3, h5, h6⟩ := h
  refine ⟨b, cs, e, h1, h2, h3, fun i x hx => ?_, h6⟩
  obtain ⟨a3, c, g1, g3⟩ := h5 i x hx
  refine ⟨a3, c, g1, fun hne => ?_⟩
  obtain ⟨f1, f2, f3, f4, f5, f6⟩ := g3 hne
  have hik : i ≠ k := fun e => by subst e; rw [List.getElem?_eq_getElem hlt, h0] at hx; simp only [Option.some.injEq] at hx; exact hne hx.symm
  exact ⟨f1, f2, f3, f4, fun hi => f5 (by omega), fun hi => f6 (by omega)⟩
theorem StMk.step {lo hi : Nat} {w w' : World} {a : Option Addr} {l : Chs} {bs : Nat → Nat} {K : Int} {k : Nat} (h : StMk lo hi w a l bs K k) (hlt : k < l.length) (hne : l[k] ≠ []) (hm : VeMk w' (bs k) (K + 2 * sizeN (l.take k)) l[k].length) (hk : KeptS (bs k) (bs k + 1) w w') (hs : hi ≤ w.heap.size) : StMk lo hi w' a l bs K (k + 1) := by
  obtain ⟨b, cs, e, h1, h2, h3, h5, h6⟩ := h
  have hx0 : l[k]? = some l[k] := List.getElem?_eq_getElem hlt
  obtain ⟨_, _, _, g9⟩ := h5 k l[k] hx0
  have hbk := (g9 hne).2.2.2.1
  refine ⟨b, cs, e, h1, h2, (hk.block b (by omega) (by omega)).trans h3, fun i x hx => ?_, h6⟩
  obtain ⟨a3, c, g1, g3⟩ := h5 i x hx
  refine ⟨a3, c, g1, fun hne2 => ?_⟩
  obtain ⟨f1, f2, f3, f4, f5, f6⟩ := g3 hne2
  by_cases hik : i = k
  · subst hik
    rw [hx0] at hx
    simp only [Option.some.injEq] at hx
    subst hx
    exact ⟨f1, f2, f3, f4, fun _ => hm, fun hi => by omega⟩
  · have hd := h6 i k x l[k] hx hx0 hik hne2 hne
    have hb := hk.block (bs i) (by omega) (by omega)
    exact ⟨f1, f2, f3, f4, fun hi => (f5 (by omega)).move hb, fun hi => (f6 (by omega)).move hb⟩
theorem StMk.cells {lo hi : Nat} {w : World} {a : Option Addr} {l : Chs} {bs : Nat → Nat} {K : Int} {k : Nat} (h : StMk lo hi w a l bs K k) (i : Nat) (hlt : i < l.length) :
    ∃ b a3 c3, a = some ⟨b, 0, none⟩ ∧ w.cell? ⟨b, i, none⟩ = some (.slice a3 l[i].length c3) ∧ (l[i] ≠ [] → a3 = some ⟨bs i, 0, none⟩ ∧ lo ≤ bs i ∧ bs i < hi ∧ (i < k → VeMk w (bs i) (K + 2 * sizeN (l.take i)) l[i].length) ∧ (k ≤ i → VeBlk w (bs i) l[i])) := by
  obtain ⟨b, cs, e, h1, h2, h3, h5, h6⟩ := h
  obtain ⟨a3, c, g1, g3⟩ := h5 i l[i] (List.getElem?_eq_getElem hlt)
  refine ⟨b, a3, c, e, (row_cell h3 i).trans g1, fun hne => ?_⟩
  obtain ⟨f1, f2, f3, f4, f5, f6⟩ := g3 hne
  exact ⟨f1, f2, f3, f5, f6⟩
theorem sizeN_take_le (l : Chs) (k : Nat) : sizeN (l.take k) ≤ sizeN l := by
  have : sizeN l = sizeN (l.take k) + sizeN (l.drop k) := by
    unfold sizeN; rw [← List.sum_append, ← List.map_append, List.take_append_drop]
  omega
end Go.Proofs.Ytaeknfjmbjeloaa.G
namespace Go.Proofs.Ytaeknfjmbjeloaa.G
open Go.ChangeShapes Go.WideShapes Go.ChangeAt Go.RowKit
set_option linter.unusedVariables false

set_option maxRecDepth 100000 in
theorem info_bool : ∃ i, Try.prog.info? 4 = some i ∧ i.zero = some (.bool false) ∧ i.size = 1 ∧ i.bytes = 1 := by
  refine ⟨_, rfl, ?_, ?_, ?_⟩ <;> kernel_rfl
theorem wpList_append_run {P : Program} {ops : Array Oper} {rest : List Oper} {o : Oper} {a : Act} {Q : Exit → Act → World → Prop} {w : World} (hgd : o.guard = none) (s x : Operand) (t : TypeId)
    (ho : o.op = .call { callee := .builtin .append, args := #[s, x], argTypes := #[t, t] }) (sv xv rv : Value) (w' : World) (hs : a.eval s = sv) (hx : a.eval x = xv)
    (hr : (Builtin.append_ #[t, t] o.type #[sv, xv]).run P w = .ok rv w') (h : wpList P ops Q rest (a.put o.dst rv) w') : wpList P ops Q (o :: rest) a w := by
  refine wpList_plain hgd fun K hK => ?_
  unfold Oper.wp execOp
  simp only [ho, resolve, invoke, builtin, Sem.run_bind, Sem.run_pure, Result.andThen_ok, List.map_toArray, List.map_cons, List.map_nil, hs, hx, hr]
  exact hK _ _ h
def nuV (x : List Int) : List Value := x.map fun z => .int .i64 z
theorem nuV_snoc (x : List Int) (z : Int) : nuV (x ++ [z]) = nuV x ++ [.int .i64 z] := by simp [nuV]
theorem app_num (x : List Int) (z : Int) (v : Value) (base h : Nat) (W : World) (ho : W.ownsRow base 3 1 v x.length (nuV x)) (hu : W.heap[h]? = some (.cells #[.int .i64 z] 3 (0, 0))) (hk : x.length ≤ 1048576) (hb : base ≤ W.heap.size) :
    ∃ g cap W', (Builtin.append_ #[27, 27] 27 #[v, .slice (some ⟨h, 0, none⟩) 1 1]).run Try.prog W = .ok (.slice (some ⟨g, 0, none⟩) (x.length + 1) cap) W' ∧ W'.ownsRow base 3 1 (.slice (some ⟨g, 0, none⟩) (x.length + 1) cap) (x.length + 1) (nuV (x ++ [z])) ∧ W.grownBy W' v.ownBlock ∧ (v.ownBlock = some g ∨ g = W.heap.size) ∧ g < W'.heap.size := by
  obtain ⟨i, hi, hz, hsz, hby⟩ := info_int
  rw [nuV_snoc]
  exact run_append_lies (P := Try.prog) W 27 27 base 3 i _ 1 8 Try.underlying27 hi hz hsz hby rfl (by decide) v x.length (nuV x) ho ⟨h, 0, none⟩ 1 1 [.int .i64 z] rfl (fun j y hx => by
    have hj : j = 0 := by have := (List.getElem?_eq_some_iff.1 hx).1; simpa using this
    subst hj
    simp only [List.getElem?_cons_zero, Option.some.injEq] at hx
    subst hx
    rw [add_plain]
    exact row_cell hu 0) (fun y hy => by rw [List.mem_singleton.1 hy]; rfl) (by omega) (by unfold maxLen; omega) (by omega) hb W.heap.size rfl
/-- The keys below k that changed. -/
def keysK (l : Chs) (ts : Int) : Nat → List Int
  | 0 => []
  | k + 1 => if chgB (chAt l k) ts = true then keysK l ts k ++ [(k : Int)] else keysK l ts k
theorem keysK_len (l : Chs) (ts : Int) : ∀ k, (keysK l ts k).length ≤ k
  | 0 => Nat.le_refl _
  | k + 1 => by
    have := keysK_len l ts k
    unfold keysK
    split <;> simp <;> omega
/-- Numbers that a call owns. -/
def NuOwn (lo hi : Nat) (w : World) (a : Option Addr) (x : List Int) : Prop := x = [] ∨ ∃ g cs, a = some ⟨g, 0, none⟩ ∧ lo ≤ g ∧ g < hi ∧ w.heap[g]? = some (.cells cs 3 (0, 0)) ∧ x.length ≤ cs.size ∧ ∀ (i : Nat) (z : Int), x[i]? = some z → cs[i]? = some (.int .i64 z)
theorem NuOwn.of {base : Nat} {w : World} {v : Value} {x : List Int} (h : w.ownsRow base 3 1 v x.length (nuV x)) : ∃ a c, v = .slice a x.length c ∧ NuOwn base w.heap.size w a x := by
  rcases h.2 with ⟨rfl, h0⟩ | ⟨g, cap, cur, rfl, h1, h2, h3, h4, h5, h6⟩
  · have : x = [] := List.eq_nil_of_length_eq_zero h0
    subst this
    exact ⟨none, 0, rfl, .inl rfl⟩
  · refine ⟨_, cap, rfl, .inr ⟨g, cur, rfl, h1, (Array.getElem?_eq_some_iff.1 h2).1, h2, by omega, fun i z hz => ?_⟩⟩
    have hi := (List.getElem?_eq_some_iff.1 hz).1
    have : (nuV x)[i]? = some (.int .i64 z) := by simp [nuV, hz]
    rw [← h6, List.getElem?_take, if_pos (by omega)] at this
    simpa using this
theorem NuOwn.row {lo hi : Nat} {w : World} {a : Option Addr} {x : List Int} (h : NuOwn lo hi w a x) : NuRow lo hi w a x := by
  rcases h with h | ⟨g, cs, rfl, h1, h2, h3, h4, h5⟩
  · exact .inl h
  · exact nu_of h3 h1 h2 (fun i h => h5 i _ (List.getElem?_eq_getElem h))
theorem NuOwn.keep {lo hi : Nat} {w w' : World} {a : Option Addr} {x : List Int} (h : NuOwn lo hi w a x) (hk : Agree lo hi w w') : NuOwn lo hi w' a x := by
  rcases h with h | ⟨g, cs, rfl, h1, h2, h3, h4⟩
  · exact .inl h
  · exact .inr ⟨g, cs, rfl, h1, h2, (hk g h1 h2).trans h3, h4⟩
theorem NuOwn.wide {lo hi lo' hi' : Nat} {w : World} {a : Option Addr} {x : List Int} (h : NuOwn lo hi w a x) (e1 : lo' ≤ lo) (e2 : hi ≤ hi') : NuOwn lo' hi' w a x := by
  rcases h with h | ⟨g, cs, rfl, h1, h2, h3⟩
  · exact .inl h
  · exact .inr ⟨g, cs, rfl, by omega, by omega, h3⟩
/-- Numbers that bear the marks from K on. -/
def NuMk (lo hi : Nat) (w : World) (a : Option Addr) (n : Nat) (K : Int) : Prop := n = 0 ∨ ∃ g cs, a = some ⟨g, 0, none⟩ ∧ lo ≤ g ∧ g < hi ∧ w.heap[g]? = some (.cells cs 3 (0, 0)) ∧ n ≤ cs.size ∧ ∀ i : Nat, i < n → cs[i]? = some (.int .i64 (K + i))
theorem NuMk.keep {lo hi : Nat} {w w' : World} {a : Option Addr} {n : Nat} {K : Int} (h : NuMk lo hi w a n K) (hk : Agree lo hi w w') : NuMk lo hi w' a n K := by
  rcases h with h | ⟨g, cs, rfl, h1, h2, h3, h4⟩
  · exact .inl h
  · exact .inr ⟨g, cs, rfl, h1, h2, (hk g h1 h2).trans h3, h4⟩
end Go.Proofs.Ytaeknfjmbjeloaa.G
namespace Go.Proofs.Ytaeknfjmbjeloaa.G
open Go.ChangeShapes Go.WideShapes Go.ChangeAt Go.RowKit
set_option linter.unusedVariables false

section
variable {H : Type} {enc : TypeId × Value → H} {W : World}
theorem Nus_open {fuel : Nat} {cs : List Value} {x : DataW H × List MemPlace} (h : DataW.trod enc Try.prog W 0 (fun _ => true) true fuel 27 cs = some x) :
    ∃ a c, ∃ l : List Int, cs = [.slice a l.length c] ∧ l.length ≤ maxLen ∧ NuRow 0 W.heap.size W a l := by
  have ci : Try.prog.cellsOf 3 = 1 := by kernel_rfl
  obtain ⟨a, len, cap, rfl, hm, hr⟩ := sl_open Try.underlying27 (z := 1) (by kernel_rfl) (by omega) h
  rcases hr with rfl | ⟨n, b, o, rfl, rfl, hb, hx⟩
  · exact ⟨a, cap, [], rfl, Nat.zero_le _, .inl rfl⟩
  · obtain ⟨l, hl, hp⟩ := list_of (p := fun i x => NuAt (rdOf W b) (o + i * 1) x) (fun i hi => by
      obtain ⟨cs', y, hcl, hc, hd⟩ := hx i hi
      obtain ⟨g0, e0, _, _⟩ := DataW.trod_int Try.underlying3 hd
      subst e0
      exact ⟨g0, hc 0 (by omega)⟩)
    subst hl
    exact ⟨_, cap, l, rfl, hm, .inr ⟨b, o, rfl, Nat.zero_le _, hb, fun i x hx => hp i x hx⟩⟩
end
end Go.Proofs.Ytaeknfjmbjeloaa.G
namespace Go.Proofs.Ytaeknfjmbjeloaa.G
open Go.ChangeShapes Go.WideShapes Go.ChangeAt Go.RowKit
set_option linter.unusedVariables false

end Go.Proofs.Ytaeknfjmbjeloaa.G
namespace Go.Proofs.Ytaeknfjmbjeloaa.G
open Go.ChangeShapes Go.WideShapes Go.ChangeAt Go.RowKit
set_option linter.unusedVariables false

end Go.Proofs.Ytaeknfjmbjeloaa.G
namespace Go.Proofs.Ytaeknfjmbjeloaa.G
open Go.ChangeShapes Go.WideShapes Go.ChangeAt Go.RowKit
set_option linter.unusedVariables false

section
variable {H : Type} {enc : TypeId × Value → H} {W : World}
end
/-- A block that holds a chain's versions, from its start. -/
def PuBlk (w : World) (b : Nat) (l : List Ve) : Prop := ∃ cs, w.heap[b]? = some (.cells cs 43 (0, 0)) ∧ l.length * 2 ≤ cs.size ∧ ∀ i x, l[i]? = some x → VeCell cs (i * 2) x
theorem PuBlk.move {w w' : World} {b : Nat} {l : List Ve} (h : PuBlk w b l) (e : w'.heap[b]? = w.heap[b]?) : PuBlk w' b l := by
  obtain ⟨cs, h1, h2, h3⟩ := h
  exact ⟨cs, e.trans h1, h2, h3⟩
theorem PuBlk.row {w : World} {b : Nat} {l : List Ve} {lo hi : Nat} (h : PuBlk w b l) (h1 : lo ≤ b) (h2 : b < hi) : VeRow lo hi w (some ⟨b, 0, none⟩) l := by
  obtain ⟨cs, g1, g2, g3⟩ := h
  refine .inr ⟨b, 0, rfl, h1, h2, fun i x hx => ?_⟩
  rw [row_rd g1, Nat.zero_add]
  exact g3 i x hx
theorem PuBlk.lt {w : World} {b : Nat} {l : List Ve} (h : PuBlk w b l) : b < w.heap.size := by
  obtain ⟨cs, g1, _⟩ := h
  exact (Array.getElem?_eq_some_iff.1 g1).1
set_option maxRecDepth 100000 in
theorem info_PuX : ∃ i, Try.prog.info? 43 = some i ∧ i.zero = some (.agg #[.int .i64 0, .int .i64 0]) ∧ i.size = 2 ∧ i.bytes = 16 := by
  refine ⟨_, rfl, ?_, ?_, ?_⟩ <;> kernel_rfl
/-- A block whose first n versions bear the marks from K on. -/
def PuMk (w : World) (b : Nat) (K : Int) (n : Nat) : Prop := ∃ cs, w.heap[b]? = some (.cells cs 43 (0, 0)) ∧ n * 2 ≤ cs.size ∧ ∀ i : Nat, i < n → cs[i * 2]? = some (.int .i64 (K + 2 * i)) ∧ cs[i * 2 + 1]? = some (.int .i64 (K + 2 * i + 1))
theorem PuMk.move {w w' : World} {b : Nat} {K : Int} {n : Nat} (h : PuMk w b K n) (e : w'.heap[b]? = w.heap[b]?) : PuMk w' b K n := by
  obtain ⟨cs, h1, h2⟩ := h
  exact ⟨cs, e.trans h1, h2⟩
end Go.Proofs.Ytaeknfjmbjeloaa.G
namespace Go.Proofs.Ytaeknfjmbjeloaa.G
set_option linter.unusedVariables false

/-- A chain without a last version of that hour. -/
def cutC (t : Int) (x : List Ve) : List Ve := if 0 < x.length ∧ tsAt x (x.length - 1) = t then x.take (x.length - 1) else x
def wrC (t : Int) (x : List Ve) (v : Int) : List Ve := cutC t x ++ [⟨t, v⟩]
def wrS (t : Int) (l : Chs) (p : Ve) : Chs := l.set p.ts.toNat (wrC t (chAt l p.ts.toNat) p.v)
def wrAll (t : Int) (l : Chs) (ps : List Ve) : Chs := ps.foldl (wrS t) l
theorem wrS_len (t : Int) (l : Chs) (p : Ve) : (wrS t l p).length = l.length := by simp [wrS]
theorem wrAll_len (t : Int) : ∀ (ps : List Ve) (l : Chs), (wrAll t l ps).length = l.length
  | [], l => rfl
  | p :: ps, l => by
    show (wrAll t (wrS t l p) ps).length = _
    rw [wrAll_len t ps, wrS_len]
theorem wrAll_take (t : Int) (l : Chs) {ps : List Ve} {k : Nat} (h : k < ps.length) : wrAll t l (ps.take (k + 1)) = wrS t (wrAll t l (ps.take k)) ps[k] := by
  unfold wrAll; rw [List.take_succ_eq_append_getElem h, List.foldl_append]; rfl
theorem cutC_len (t : Int) (x : List Ve) : (cutC t x).length ≤ x.length := by unfold cutC; split <;> simp
theorem wrC_len (t : Int) (x : List Ve) (v : Int) : (wrC t x v).length ≤ x.length + 1 := by have := cutC_len t x; simp [wrC]; omega
theorem wrS_bd {t : Int} {l : Chs} {p : Ve} {m : Nat} (h : ∀ x ∈ l, x.length ≤ m) : ∀ x ∈ wrS t l p, x.length ≤ m + 1 := by
  intro x hx
  rcases List.mem_or_eq_of_mem_set hx with hx | hx
  · have := h x hx; omega
  · rw [hx]
    have h1 := wrC_len t (chAt l p.ts.toNat) p.v
    have h2 : (chAt l p.ts.toNat).length ≤ m := by
      unfold chAt
      by_cases hk : p.ts.toNat < l.length
      · rw [List.getElem?_eq_getElem hk]; exact h _ (List.getElem_mem hk)
      · rw [List.getElem?_eq_none (by omega)]; simp
    omega
theorem wrAll_bd {t : Int} : ∀ (ps : List Ve) {l : Chs} {m : Nat}, (∀ x ∈ l, x.length ≤ m) → ∀ x ∈ wrAll t l ps, x.length ≤ m + ps.length
  | [], l, m, h => h
  | p :: ps, l, m, h => by
    intro x hx
    have := wrAll_bd ps (wrS_bd (t := t) (p := p) h) x hx
    simp only [List.length_cons]; omega
end Go.Proofs.Ytaeknfjmbjeloaa.G
namespace Go.Proofs.Ytaeknfjmbjeloaa.G
set_option linter.unusedVariables false

def upN (ts : Int) : List Ve → Nat
  | [] => 0
  | x :: r => if x.ts ≤ ts then upN ts r + 1 else 0
theorem upN_le (ts : Int) : ∀ l, upN ts l ≤ l.length
  | [] => Nat.le_refl _
  | x :: r => by
    unfold upN
    have := upN_le ts r
    split <;> simp <;> omega
theorem upN_lt (ts : Int) : ∀ (l : List Ve) (i : Nat), i < upN ts l → tsAt l i ≤ ts
  | [], i, h => by simp [upN] at h
  | x :: r, i, h => by
    unfold upN at h
    split at h
    · rename_i hx
      cases i with
      | zero => simpa [tsAt] using hx
      | succ i =>
        have := upN_lt ts r i (by omega)
        simpa [tsAt] using this
    · omega
theorem upN_at (ts : Int) : ∀ (l : List Ve), upN ts l < l.length → ts < tsAt l (upN ts l)
  | [], h => by simp at h
  | x :: r, h => by
    unfold upN at h ⊢
    split
    · rename_i hx
      rw [if_pos hx] at h
      have := upN_at ts r (by simpa using h)
      simpa [tsAt] using this
    · rename_i hx
      simp [tsAt]; omega
theorem upTo_upN {l : List Ve} (h : Rise l) (ts : Int) : UpTo l ts (upN ts l) := by
  refine ⟨upN_le ts l, upN_lt ts l, fun i h1 h2 => ?_⟩
  have := upN_at ts l (by omega)
  by_cases e : i = upN ts l
  · rw [e]; exact this
  · have := h (upN ts l) i (by omega) h2; omega
/-- How many versions of a chain go. -/
def goN (low : Int) (l : List Ve) : Nat := upN low l - 1
def fgC (low : Int) (l : List Ve) : List Ve := l.drop (goN low l)
def fgS (low : Int) (l : Chs) : Chs := l.map (fgC low)
theorem goN_le (low : Int) (l : List Ve) : goN low l ≤ l.length := by have := upN_le low l; unfold goN; omega
theorem fgC_len (low : Int) (l : List Ve) : (fgC low l).length = l.length - goN low l := by simp [fgC]
theorem fgS_len (low : Int) (l : Chs) : (fgS low l).length = l.length := by simp [fgS]
theorem fgS_at {low : Int} {l : Chs} {i : Nat} (h : i < l.length) : (fgS low l)[i]? = some (fgC low l[i]) := by simp [fgS, h]
theorem fgS_bd {low : Int} {l : Chs} {m : Nat} (h : ChsBd m l) : ChsBd m (fgS low l) := by
  refine ⟨by rw [fgS_len]; exact h.1, fun x hx => ?_⟩
  obtain ⟨y, hy, rfl⟩ := List.mem_map.1 hx
  have := h.2 y hy
  rw [fgC_len]; omega
/-- All that go. -/
def goS (low : Int) (l : Chs) : Nat := (l.map (goN low)).sum
theorem go_size (low : Int) (l : Chs) : sizeN l = sizeN (fgS low l) + goS low l := by
  induction l with
  | nil => rfl
  | cons x l ih =>
    have h1 := goN_le low x
    have h2 := fgC_len low x
    simp only [sizeN, fgS, goS, List.map_cons, List.sum_cons] at ih ⊢
    omega
theorem goS_take {low : Int} {l : Chs} {k : Nat} (hk : k < l.length) : goS low (l.take (k + 1)) = goS low (l.take k) + goN low l[k] := by
  unfold goS; rw [List.take_succ_eq_append_getElem hk, List.map_append, List.sum_append]; simp only [List.map_cons, List.map_nil, List.sum_cons, List.sum_nil]; omega
theorem goN_step {low : Int} {l : List Ve} (h : Rise l) {k : Nat} (hk : k ≤ goN low l) (h1 : k + 1 < l.length) : (tsAt l (k + 1) ≤ low) ↔ k + 1 ≤ goN low l := by
  have hu := upTo_upN h low
  constructor
  · intro ht
    by_cases e : k + 1 < upN low l
    · unfold goN; omega
    · have := hu.2.2 (k + 1) (by omega) h1; omega
  · intro hg
    exact hu.2.1 (k + 1) (by unfold goN at hg; omega)
end Go.Proofs.Ytaeknfjmbjeloaa.G
namespace Go.Proofs.Ytaeknfjmbjeloaa.G
set_option linter.unusedVariables false

theorem chain_low {key now : Int} {x : List Ve} (h : chainB key now x = true) : ∀ i, i < x.length → (i : Int) + 1 ≤ tsAt x i
  | 0, hi => by have := (okB_parts (chainB_at h hi)).1; simp only [prevTs] at this; omega
  | i + 1, hi => by
    have h1 := chain_low h i (by omega)
    have := (okB_parts (chainB_at h hi)).1
    simp only [prevTs] at this
    omega
theorem chain_len {key now : Int} {x : List Ve} (h : chainB key now x = true) (hn : 0 ≤ now) : (x.length : Int) ≤ now := by
  by_cases h0 : x.length = 0
  · omega
  · have h1 := chain_low h (x.length - 1) (by omega)
    have h2 := (okB_parts (chainB_at h (show x.length - 1 < x.length by omega))).2.1
    omega
theorem chain_mono {key now now' : Int} {x : List Ve} (h : chainB key now x = true) (hn : now ≤ now') : chainB key now' x = true :=
  chainB_true fun i hi => by
    obtain ⟨h1, h2, h3⟩ := okB_parts (chainB_at h hi)
    exact okB_mk h1 (by omega) h3
theorem tsAt_take {x : List Ve} {m i : Nat} (h : i < m) : tsAt (x.take m) i = tsAt x i := by simp [tsAt, h]
theorem vAt_take {x : List Ve} {m i : Nat} (h : i < m) : vAt (x.take m) i = vAt x i := by simp [vAt, h]
theorem chain_take {key now : Int} {x : List Ve} (h : chainB key now x = true) (m : Nat) : chainB key now (x.take m) = true :=
  chainB_true fun i hi => by
    rw [List.length_take] at hi
    obtain ⟨h1, h2, h3⟩ := okB_parts (chainB_at h (show i < x.length by omega))
    refine okB_mk ?_ (by rw [tsAt_take (by omega)]; exact h2) (by rw [vAt_take (by omega)]; exact h3)
    rw [tsAt_take (by omega)]
    cases i with
    | zero => exact h1
    | succ i => simp only [prevTs] at h1 ⊢; rw [tsAt_take (by omega)]; exact h1
theorem tsAt_drop {x : List Ve} {m i : Nat} : tsAt (x.drop m) i = tsAt x (m + i) := by simp [tsAt]
theorem vAt_drop {x : List Ve} {m i : Nat} : vAt (x.drop m) i = vAt x (m + i) := by simp [vAt]
theorem chain_drop {key now : Int} {x : List Ve} (h : chainB key now x = true) (m : Nat) : chainB key now (x.drop m) = true :=
  chainB_true fun i hi => by
    rw [List.length_drop] at hi
    obtain ⟨h1, h2, h3⟩ := okB_parts (chainB_at h (show m + i < x.length by omega))
    refine okB_mk ?_ (by rw [tsAt_drop]; exact h2) (by rw [vAt_drop]; exact h3)
    rw [tsAt_drop]
    cases i with
    | zero => have := chain_low h (m + 0) (by omega); simp only [prevTs]; omega
    | succ i => simp only [prevTs]; rw [tsAt_drop]; exact h1
theorem chain_snoc {key t v : Int} {x : List Ve} (h : chainB key t x = true) (hx : ∀ i, i < x.length → tsAt x i < t) (ht : 0 < t) (hv : valB key v = true) : chainB key t (x ++ [⟨t, v⟩]) = true := by
  have e1 : ∀ i, i < x.length → tsAt (x ++ [⟨t, v⟩]) i = tsAt x i := fun i hi => by simp [tsAt, List.getElem?_append_left hi]
  have e2 : ∀ i, i < x.length → vAt (x ++ [⟨t, v⟩]) i = vAt x i := fun i hi => by simp [vAt, List.getElem?_append_left hi]
  have e3 : tsAt (x ++ [⟨t, v⟩]) x.length = t := by simp [tsAt]
  have e4 : vAt (x ++ [⟨t, v⟩]) x.length = v := by simp [vAt]
  refine chainB_true fun i hi => ?_
  rw [List.length_append, List.length_singleton] at hi
  by_cases hl : i < x.length
  · obtain ⟨h1, h2, h3⟩ := okB_parts (chainB_at h hl)
    refine okB_mk ?_ (by rw [e1 i hl]; exact h2) (by rw [e2 i hl]; exact h3)
    rw [e1 i hl]
    cases i with
    | zero => exact h1
    | succ i => simp only [prevTs] at h1 ⊢; rw [e1 i (by omega)]; exact h1
  · obtain rfl : i = x.length := by omega
    refine okB_mk ?_ (by rw [e3]; omega) (by rw [e4]; exact hv)
    rw [e3]
    obtain ⟨n, hn⟩ : ∃ n, n = x.length := ⟨_, rfl⟩
    rw [← hn]
    cases n with
    | zero => exact ht
    | succ n => simp only [prevTs]; rw [e1 n (by omega)]; exact hx n (by omega)
theorem chain_cut {key t : Int} {x : List Ve} (h : chainB key t x = true) : chainB key t (cutC t x) = true ∧ ∀ i, i < (cutC t x).length → tsAt (cutC t x) i < t := by
  unfold cutC
  split
  · rename_i hc
    refine ⟨chain_take h _, fun i hi => ?_⟩
    rw [List.length_take] at hi
    rw [tsAt_take (by omega), ← hc.2]
    exact chain_rise h i _ (by omega) (by omega)
  · rename_i hc
    refine ⟨h, fun i hi => ?_⟩
    have h2 := (okB_parts (chainB_at h (show x.length - 1 < x.length by omega))).2.1
    have h3 : ¬ tsAt x (x.length - 1) = t := fun e => hc ⟨by omega, e⟩
    by_cases hl : i = x.length - 1
    · rw [hl]; omega
    · have := chain_rise h i (x.length - 1) (by omega) (by omega); omega
theorem chain_wr {key t v : Int} {x : List Ve} (h : chainB key t x = true) (ht : 0 < t) (hv : valB key v = true) : chainB key t (wrC t x v) = true :=
  chain_snoc (chain_cut h).1 (chain_cut h).2 ht hv
theorem store_wrS {l : Chs} {t : Int} {p : Ve} (h : l.length = 16 ∧ ∀ i (hi : i < l.length), chainB i t l[i] = true) (ht : 0 < t) (hp : putB p.ts p.v = true) : (wrS t l p).length = 16 ∧ ∀ i (hi : i < (wrS t l p).length), chainB i t (wrS t l p)[i] = true := by
  refine ⟨by rw [wrS_len]; exact h.1, fun i hi => ?_⟩
  have hi2 : i < l.length := by rw [wrS_len] at hi; exact hi
  simp only [putB, keyS, Bool.and_eq_true, decide_eq_true_eq] at hp
  obtain ⟨q, hq⟩ : ∃ q : Nat, p.ts = q := ⟨p.ts.toNat, by omega⟩
  simp only [wrS, hq, Int.toNat_natCast]
  by_cases e : q = i
  · subst e
    rw [List.getElem_set_self, chAt_eq hi2]
    exact chain_wr (h.2 q hi2) ht (by rw [← hq]; exact hp.2)
  · rw [List.getElem_set_ne e]
    exact h.2 i hi2
theorem store_wr {t : Int} (ht : 0 < t) : ∀ (ps : List Ve) {l : Chs}, (l.length = 16 ∧ ∀ i (hi : i < l.length), chainB i t l[i] = true) → (∀ p ∈ ps, putB p.ts p.v = true) → (wrAll t l ps).length = 16 ∧ ∀ i (hi : i < (wrAll t l ps).length), chainB i t (wrAll t l ps)[i] = true
  | [], l, h, hp => h
  | p :: ps, l, h, hp => store_wr ht ps (store_wrS h ht (hp p (by simp))) (fun x hx => hp x (by simp [hx]))
theorem storeB_wr {l : Chs} {now : Int} {ps : List Ve} (h : storeB l now = true) (hn : now + 1 ≤ 100000) (hp : ∀ p ∈ ps, putB p.ts p.v = true) : storeB (wrAll (now + 1) l ps) (now + 1) = true := by
  obtain ⟨h1, h2, h3, h4⟩ := storeB_all h
  obtain ⟨g1, g2⟩ := store_wr (t := now + 1) (by omega) ps ⟨h1, fun i hi => chain_mono (chainsB_at h4 hi) (by omega)⟩ hp
  rw [storeB_chains g1 (by omega)]
  exact chainsB_true g2
theorem storeB_fg {l : Chs} {now : Int} (low : Int) (h : storeB l now = true) : storeB (fgS low l) now = true := by
  obtain ⟨h1, h2, h3, h4⟩ := storeB_all h
  rw [storeB_chains (by rw [fgS_len]; exact h1) ⟨h2, h3⟩]
  refine chainsB_true fun i hi => ?_
  have hi2 : i < l.length := by rw [fgS_len] at hi; exact hi
  have e : (fgS low l)[i] = fgC low l[i] := by simp [fgS]
  rw [e]
  exact chain_drop (chainsB_at h4 hi2) _
theorem storeB_bd {l : Chs} {now : Int} (h : storeB l now = true) : ∀ x ∈ l, (x.length : Int) ≤ now := by
  obtain ⟨h1, h2, h3, h4⟩ := storeB_all h
  intro x hx
  obtain ⟨i, hi, rfl⟩ := List.getElem_of_mem hx
  exact chain_len (chainsB_at h4 hi) h2
end Go.Proofs.Ytaeknfjmbjeloaa.G
namespace Go.Proofs.Ytaeknfjmbjeloaa.G
set_option linter.unusedVariables false

/-- The last value written on a key. -/
def lastW (k : Int) (ps : List Ve) : Option Int := ps.foldl (fun o p => if p.ts = k then some p.v else o) none
def newV (t : Int) (o : Option Int) : List Ve := match o with | none => [] | some v => [⟨t, v⟩]
theorem cut_new {t : Int} {x : List Ve} (hx : ∀ i, i < x.length → tsAt x i < t) : ∀ o : Option Int, cutC t (x ++ newV t o) = x
  | none => by
    simp only [newV, List.append_nil]
    unfold cutC
    refine if_neg fun h => ?_
    have := hx (x.length - 1) (by omega)
    omega
  | some v => by
    have e : tsAt (x ++ [⟨t, v⟩]) ((x ++ [⟨t, v⟩] : List Ve).length - 1) = t := by simp [tsAt]
    simp only [newV]
    unfold cutC
    rw [if_pos ⟨by simp, e⟩]
    simp
theorem wrAll_chain {t : Int} {k : Nat} {x : List Ve} (hx : ∀ i, i < x.length → tsAt x i < t) : ∀ (ps : List Ve) (l : Chs) (o : Option Int), k < l.length → chAt l k = x ++ newV t o → (∀ p ∈ ps, 0 ≤ p.ts) →
    chAt (wrAll t l ps) k = x ++ newV t (ps.foldl (fun o (p : Ve) => if p.ts = (k : Int) then some p.v else o) o)
  | [], l, o, hk, h, _ => h
  | p :: ps, l, o, hk, h, hp => by
    show chAt (wrAll t (wrS t l p) ps) k = x ++ newV t (ps.foldl _ (if p.ts = (k : Int) then some p.v else o))
    refine wrAll_chain hx ps (wrS t l p) _ (by rw [wrS_len]; exact hk) ?_ (fun q hq => hp q (by simp [hq]))
    have h0 := hp p (by simp)
    by_cases e : p.ts = k
    · rw [if_pos e]
      have e2 : p.ts.toNat = k := by omega
      have : chAt (wrS t l p) k = wrC t (chAt l k) p.v := by simp [wrS, e2, chAt, hk]
      rw [this, h, wrC, cut_new hx]
      rfl
    · rw [if_neg e, ← h]
      have e2 : p.ts.toNat ≠ k := by omega
      simp [wrS, chAt, List.getElem?_set_ne e2]
theorem wrAll_at {t : Int} {k : Nat} {l : Chs} (ps : List Ve) (hk : k < l.length) (hx : ∀ i, i < l[k].length → tsAt l[k] i < t) (hp : ∀ p ∈ ps, 0 ≤ p.ts) : chAt (wrAll t l ps) k = l[k] ++ newV t (lastW k ps) :=
  wrAll_chain hx ps l none hk (by simp [newV, chAt_eq hk]) hp
theorem readV_new {t ts : Int} {x : List Ve} (h : ts < t) : ∀ o : Option Int, readV (x ++ newV t o) ts = readV x ts
  | none => by simp [newV]
  | some v => by
    simp only [newV, readV, List.foldl_append, List.foldl_cons, List.foldl_nil]
    rw [if_neg (by omega)]
theorem readV_now {t v : Int} {x : List Ve} : readV (x ++ newV t (some v)) t = v := by
  simp [newV, readV, List.foldl_append]
/-- A right chain reads at a later hour as at the last. -/
theorem readV_later {key now ts : Int} {x : List Ve} (h : chainB key now x = true) (hl : now ≤ ts) : readV x ts = readV x now := by
  have key : ∀ (y : List Ve) (z : Int), (∀ p ∈ y, p.ts ≤ now) → y.foldl (fun v x => if x.ts ≤ ts then x.v else v) z = y.foldl (fun v x => if x.ts ≤ now then x.v else v) z := by
    intro y
    induction y with
    | nil => intro z _; rfl
    | cons p y ih =>
      intro z hy
      have hp := hy p (by simp)
      simp only [List.foldl_cons]
      rw [if_pos (by omega), if_pos hp]
      exact ih _ (fun q hq => hy q (by simp [hq]))
  refine key x 0 fun p hp => ?_
  obtain ⟨i, hi, rfl⟩ := List.getElem_of_mem hp
  have := (okB_parts (chainB_at h hi)).2.1
  rwa [tsAt_eq hi] at this
theorem chgB_new {key now : Int} {x : List Ve} (h : chainB key now x = true) : ∀ o : Option Int, chgB (x ++ newV (now + 1) o) now = o.isSome
  | none => by
    simp only [newV, List.append_nil, Option.isSome_none]
    unfold chgB
    by_cases h0 : 0 < x.length
    · have := (okB_parts (chainB_at h (show x.length - 1 < x.length by omega))).2.1
      rw [show decide (now < tsAt x (x.length - 1)) = false from decide_eq_false (by omega)]
      simp
    · rw [show decide (0 < x.length) = false from decide_eq_false h0]
      simp
  | some v => by
    have e : tsAt (x ++ [⟨now + 1, v⟩]) ((x ++ [⟨now + 1, v⟩] : List Ve).length - 1) = now + 1 := by simp [tsAt]
    simp only [newV, Option.isSome_some]
    unfold chgB
    rw [e, show decide (now < now + 1) = true from decide_eq_true (by omega)]
    simp
end Go.Proofs.Ytaeknfjmbjeloaa.G
namespace Go.Proofs.Ytaeknfjmbjeloaa.G
open Go.ChangeShapes Go.WideShapes Go.ChangeAt Go.RowKit
set_option linter.unusedVariables false

def putsB (ps : List Ve) : Bool := decide (ps.length ≤ 400) && ps.all (fun p => putB p.ts p.v)
theorem putsB_long {ps : List Ve} (h : 400 < ps.length) : putsB ps = false := by
  have : decide (ps.length ≤ 400) = false := by simp; omega
  simp only [putsB, this]; simp
theorem putsB_no {ps : List Ve} {k : Nat} (hk : k < ps.length) (h : putB ps[k].ts ps[k].v = false) : putsB ps = false := by
  have : ps.all (fun p => putB p.ts p.v) = false := all_no_b hk h
  simp only [putsB, this]; simp
theorem putsB_yes {ps : List Ve} (h : ps.length ≤ 400) (ha : ∀ i (hi : i < ps.length), putB ps[i].ts ps[i].v = true) : putsB ps = true := by
  have h2 : ps.all (fun p => putB p.ts p.v) = true := by
    rw [List.all_eq_true]; intro x hx
    obtain ⟨i, hi, rfl⟩ := List.getElem_of_mem hx
    exact ha i hi
  simp [putsB, h, h2]
theorem putsB_all {ps : List Ve} (h : putsB ps = true) : ps.length ≤ 400 ∧ ∀ p ∈ ps, putB p.ts p.v = true := by
  simp only [putsB, Bool.and_eq_true, decide_eq_true_eq, List.all_eq_true] at h
  exact h
theorem putB_key {k v : Int} (h : putB k v = true) : 0 ≤ k ∧ k < 16 := by
  simp only [putB, keyS, Bool.and_eq_true, decide_eq_true_eq] at h
  exact h.1
theorem putB_in {k v : Int} : putB k v = (inS k 0 15 && valB k v) := by
  have : keyS k = inS k 0 15 := by unfold keyS inS; rw [Bool.eq_iff_iff]; simp; omega
  rw [putB, this]
set_option maxHeartbeats 2000000 in
theorem impl_putsOK (a : Option Addr) (c : Nat) (ps : List Ve) (w : World) (hr : VeRow 0 w.heap.size w a ps) (hl : ps.length ≤ 1048576) :
    Calls Try.prog 24 #[.slice a ps.length c] w fun e w' => e = .returned (.bool (putsB ps)) ∧ Below w.heap.size w w' := by
  by_cases h4 : 400 < ps.length
  · have HN : Hid (false = putsB ps) := (putsB_long h4).symm
    have h4' : (400 : Int) < ps.length := by omega
    go_enter Try.func24, Try.ntmps24
    go_wp2_with fail
    go_ret
    exact ⟨ret_b HN.out, Below.refl _ _⟩
  have h4' : ¬ (400 : Int) < ps.length := by omega
  have HR : Hid (VeRow 0 w.heap.size w a ps) := hr
  clear hr
  go_enter Try.func24, Try.ntmps24
  go_wp2_with fail
  go_loopw [10] (fun i w' => ∃ (k : Nat), k ≤ ps.length ∧ i = .int .i64 k ∧ Below w.heap.size w w' ∧ Hid (∀ i (hi : i < ps.length), i < k → putB ps[i].ts ps[i].v = true)) (fun i _ => ps.length - (intOf i).toNat)
  case atStart => exact ⟨0, by omega, rfl, Below.refl _ _, fun i _ h => by omega⟩
  case round =>
    obtain ⟨wo, rfl⟩ : ∃ x, x = wr := ⟨_, rfl⟩
    obtain ⟨k, hk, rfl, hb, HK⟩ := hrel
    by_cases hlt : k < ps.length
    · obtain ⟨b, o, ha, _, hbl, d0, d1⟩ := VeRow.cells (VeRow.keep HR.out (agree hb (Nat.le_refl _))) k hlt
      subst ha
      have hz := hb.size
      cases hv : putB ps[k].ts ps[k].v
      · have HN : Hid (false = putsB ps) := (putsB_no hlt hv).symm
        go_wp2_with (first | (go_at_call 34; refine (impl_putOK _ _ _).mono ?_; rintro e w1 ⟨rfl, hb1⟩; rw [hv]))
        go_ret
        refine ⟨ret_b HN.out, ?_⟩
        refine Below.trans ?_ (hb1.mono (by first | omega | (simp <;> omega)))
        repeat (first | exact hb | refine Below.setCell ?_ (by first | omega | (simp <;> omega)) _ | refine Below.alloc ?_ (by first | omega | (simp <;> omega)) _)
      · go_wp2_with (first | (go_at_call 34; refine (impl_putOK _ _ _).mono ?_; rintro e w1 ⟨rfl, hb1⟩; rw [hv]))
        refine ⟨⟨k + 1, by omega, by go_num, ?_, ?_⟩, by simp [intOf]; omega⟩
        · refine Below.trans ?_ (hb1.mono (by first | omega | (simp <;> omega)))
          repeat (first | exact hb | refine Below.setCell ?_ (by first | omega | (simp <;> omega)) _ | refine Below.alloc ?_ (by first | omega | (simp <;> omega)) _)
        · intro i hi1 hi2
          by_cases e : i = k
          · subst e; exact hv
          · exact HK.out i hi1 (by omega)
    · have HN : Hid (true = putsB ps) := (putsB_yes (by omega) (fun i hi => HK.out i hi (by omega))).symm
      go_wp2_with fail
      go_ret
      exact ⟨ret_b HN.out, hb⟩
set_option maxHeartbeats 4000000 in
theorem spec_puts (a : Option Addr) (c : Nat) (ps : List Ve) (w : World) (hr : VeRow 0 w.heap.size w a ps) (hl : ps.length ≤ 1048576) :
    Calls Try.prog 71 #[.slice a ps.length c] w fun e w' => e = .returned (.bool (putsB ps)) ∧ Below w.heap.size w w' := by
  have HR : Hid (VeRow 0 w.heap.size w a ps) := hr
  clear hr
  go_enter Try.func71, Try.ntmps71
  go_wp2_with fail
  go_loopw [3] (fun i w' => ∃ (k : Nat), k ≤ ps.length ∧ i = .int .i64 k ∧ Below w.heap.size w w' ∧ Hid (∀ i (hi : i < ps.length), i < k → putB ps[i].ts ps[i].v = true)) (fun i _ => ps.length - (intOf i).toNat)
  case atStart => exact ⟨0, by omega, rfl, Below.refl _ _, fun i _ h => by omega⟩
  case round =>
    obtain ⟨wo, rfl⟩ : ∃ x, x = wr := ⟨_, rfl⟩
    obtain ⟨k, hk, rfl, hb, HK⟩ := hrel
    by_cases hlt : k < ps.length
    case neg =>
      obtain rfl : k = ps.length := by omega
      have HN : Hid (decide ((ps.length : Int) ≤ 400) = putsB ps) := by
        by_cases h4 : ps.length ≤ 400
        · rw [Hid, putsB_yes h4 (fun i hi => HK.out i hi hi)]; simp; omega
        · rw [Hid, putsB_long (by omega)]; simp; omega
      go_wp2_with fail
      go_ret
      exact ⟨ret_b HN.out, hb⟩
    obtain ⟨b, o, ha, _, hbl, d0, d1⟩ := VeRow.cells (VeRow.keep HR.out (agree hb (Nat.le_refl _))) k hlt
    subst ha
    have hlt' : (k : Int) < ps.length := by omega
    have HB : Hid _ := hb
    clear hb
    cases hA : inS ps[k].ts 0 15
    · have HN : Hid (false = putsB ps) := (putsB_no hlt (by rw [putB_in, hA]; rfl)).symm
      have HA : Hid _ := hA
      clear hA
      go_wp2_with fail
      go_quiet ((first | (go_at_call 69; exact Calls.quiet_of_same (spec_inS _ _ _ _ HA.out))))
      go_wp2_with fail
      go_ret
      exact ⟨ret_b HN.out, below_drewN HB.out _⟩
    have hk0 : 0 ≤ ps[k].ts := ((inS_iff _ _ _).1 hA).1
    cases hV : valB ps[k].ts ps[k].v
    · have HN : Hid (false = putsB ps) := (putsB_no hlt (by rw [putB_in, hA, hV]; rfl)).symm
      have HA : Hid _ := hA
      have HV : Hid _ := hV
      clear hA hV
      go_wp2_with fail
      go_quiet ((first | (go_at_call 69; exact Calls.quiet_of_same (spec_inS _ _ _ _ HA.out)) | (go_at_call 70; exact Calls.quiet_of_same (spec_value _ _ _ hk0 HV.out))))
      go_wp2_with fail
      go_ret
      exact ⟨ret_b HN.out, below_drewN HB.out _⟩
    · have HO : Hid (putB ps[k].ts ps[k].v = true) := by rw [Hid, putB_in, hA, hV]; rfl
      have HA : Hid _ := hA
      have HV : Hid _ := hV
      clear hA hV
      go_wp2_with fail
      go_quiet ((first | (go_at_call 69; exact Calls.quiet_of_same (spec_inS _ _ _ _ HA.out)) | (go_at_call 70; exact Calls.quiet_of_same (spec_value _ _ _ hk0 HV.out))))
      go_wp2_with fail
      refine ⟨⟨k + 1, by omega, by go_num, below_drewN HB.out _, ?_⟩, by simp [intOf]; omega⟩
      intro i hi1 hi2
      by_cases e : i = k
      · subst e; exact HO.out
      · exact HK.out i hi1 (by omega)
end Go.Proofs.Ytaeknfjmbjeloaa.G
