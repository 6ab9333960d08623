/- The law's marks written into a document by its blocks, and held. -/
import Derived.Test.YtlilfbcngncllaaGreatDoorDocMarkTwo
import Derived.Test.YtlilfbcngncllaaGreatDoorDocHeld
import Derived.Test.YtlilfbcngncllaaGreatDoorDocOwn
import Derived.Test.YtlilfbcngncllaaGreatDoorPdOwn
namespace Go.Proofs.YtlilfbcngncllaaGreatDoor
open Go.ChangeShapes Go.WideShapes Go.ChangeAt Go.RowKit
set_option linter.unusedVariables false

theorem kept_one {b : Nat} {w w' : World} (h : KeptR b (b + 1) w w') : G.Kept [b] w w' := ⟨h.os, h.tape, h.output, h.size, fun k hk hn => h.block k hk (by
  have : k ≠ b := fun e => hn (by rw [e]; exact List.mem_singleton.2 rfl)
  omega)⟩
/-- A flat list in a block of its own, if it has elements. -/
def FlB {α : Type} (at_ : (Nat → Option Value) → Nat → α → Prop) (ty : TypeId) (w : World) (a : Option Addr) (l : List α) (bs : List Nat) : Prop :=
  (l = [] ∧ bs = []) ∨ ∃ b, bs = [b] ∧ OwnR at_ 4 ty b (b + 1) w a l ∧ b < w.heap.size
theorem FlB.keep {α : Type} {at_ : (Nat → Option Value) → Nat → α → Prop} {ty : TypeId} {w w' : World} {a : Option Addr} {l : List α} {bs : List Nat} (h : FlB at_ ty w a l bs) (hz : w.heap.size ≤ w'.heap.size) (hk : ∀ g ∈ bs, w'.heap[g]? = w.heap[g]?) : FlB at_ ty w' a l bs := by
  rcases h with h | ⟨b, rfl, h, hb⟩
  · exact .inl h
  · refine .inr ⟨b, rfl, OwnR.keep h fun g h1 h2 => ?_, by omega⟩
    obtain rfl : g = b := by omega
    exact hk g (List.mem_singleton.2 rfl)
theorem FlB.row {α : Type} {at_ : (Nat → Option Value) → Nat → α → Prop} {ty : TypeId} {w : World} {a : Option Addr} {l : List α} {bs : List Nat} (h : FlB at_ ty w a l bs) : Row at_ 4 0 w.heap.size w a l := by
  rcases h with ⟨h, _⟩ | ⟨b, rfl, h, hb⟩
  · exact .inl h
  · exact Row.wide (OwnR.row h) (Nat.zero_le _) (by omega)
theorem FlB.lt {α : Type} {at_ : (Nat → Option Value) → Nat → α → Prop} {ty : TypeId} {w : World} {a : Option Addr} {l : List α} {bs : List Nat} (h : FlB at_ ty w a l bs) : ∀ g ∈ bs, g < w.heap.size := fun g hg => by
  rcases h with ⟨_, h⟩ | ⟨b, rfl, _, hb⟩
  · rw [h] at hg; cases hg
  · rw [List.mem_singleton.1 hg]; exact hb
abbrev ArFl := FlB ArAt 103
abbrev DiFl := FlB DiAt 105
/-- Selections' cells from o on, the blocks of their lists. -/
def SelBk (w : World) : Sels → Array Value → Nat → List Nat → Prop
  | .nil, _, _, bs => bs = []
  | .cons h sub rest, cs, o, bs => ∃ a3 d3 a4 d4 a5 d5 b3 b4 b5 br, bs = (b3 ++ (b4 ++ b5)) ++ br ∧ cs[o]? = some (.int .i64 h.k) ∧ cs[o + 1]? = some (.string h.al) ∧ cs[o + 2]? = some (.string h.nm) ∧
      cs[o + 3]? = some (.slice a3 h.args.length d3) ∧ cs[o + 4]? = some (.slice a4 h.dirs.length d4) ∧ cs[o + 5]? = some (.slice a5 sub.len d5) ∧ ArFl w a3 h.args b3 ∧ DiFl w a4 h.dirs b4 ∧
      ((sub = .nil ∧ b5 = []) ∨ ∃ b ds bk, a5 = some ⟨b, 0, none⟩ ∧ b5 = b :: bk ∧ w.heap[b]? = some (.cells ds 84 (0, 0)) ∧ sub.len * 6 ≤ ds.size ∧ SelBk w sub ds 0 bk) ∧ SelBk w rest cs (o + 6) br
def SelsBk (w : World) (a : Option Addr) (l : Sels) (bs : List Nat) : Prop :=
  (l = .nil ∧ bs = []) ∨ ∃ b ds bk, a = some ⟨b, 0, none⟩ ∧ bs = b :: bk ∧ w.heap[b]? = some (.cells ds 84 (0, 0)) ∧ l.len * 6 ≤ ds.size ∧ SelBk w l ds 0 bk
/-- One selection. -/
def OneBk (w : World) (h : Hd) (sub : Sels) (cs : Array Value) (o : Nat) (bs : List Nat) : Prop :=
  ∃ a3 d3 a4 d4 a5 d5 b3 b4 b5, bs = b3 ++ (b4 ++ b5) ∧ cs[o]? = some (.int .i64 h.k) ∧ cs[o + 1]? = some (.string h.al) ∧ cs[o + 2]? = some (.string h.nm) ∧
      cs[o + 3]? = some (.slice a3 h.args.length d3) ∧ cs[o + 4]? = some (.slice a4 h.dirs.length d4) ∧ cs[o + 5]? = some (.slice a5 sub.len d5) ∧ ArFl w a3 h.args b3 ∧ DiFl w a4 h.dirs b4 ∧ SelsBk w a5 sub b5
theorem SelBk.uncons {w : World} {h : Hd} {sub rest : Sels} {cs : Array Value} {o : Nat} {bs : List Nat} (H : SelBk w (.cons h sub rest) cs o bs) : ∃ b1 br, bs = b1 ++ br ∧ OneBk w h sub cs o b1 ∧ SelBk w rest cs (o + 6) br := by
  obtain ⟨a3, d3, a4, d4, a5, d5, b3, b4, b5, br, e, c0, c1, c2, c3, c4, c5, f3, f4, f5, r⟩ := H
  exact ⟨_, br, e, ⟨a3, d3, a4, d4, a5, d5, b3, b4, b5, rfl, c0, c1, c2, c3, c4, c5, f3, f4, f5⟩, r⟩
theorem SelBk.cons {w : World} {h : Hd} {sub rest : Sels} {cs : Array Value} {o : Nat} {b1 br : List Nat} (H : OneBk w h sub cs o b1) (R : SelBk w rest cs (o + 6) br) : SelBk w (.cons h sub rest) cs o (b1 ++ br) := by
  obtain ⟨a3, d3, a4, d4, a5, d5, b3, b4, b5, rfl, c0, c1, c2, c3, c4, c5, f3, f4, f5⟩ := H
  exact ⟨a3, d3, a4, d4, a5, d5, b3, b4, b5, br, rfl, c0, c1, c2, c3, c4, c5, f3, f4, f5, R⟩
theorem SelBk.keep {w w' : World} (hz : w.heap.size ≤ w'.heap.size) : ∀ {l : Sels} {cs : Array Value} {o : Nat} {bs : List Nat}, SelBk w l cs o bs → (∀ g ∈ bs, w'.heap[g]? = w.heap[g]?) → SelBk w' l cs o bs
  | .nil, _, _, _, h, _ => h
  | .cons h sub rest, cs, o, _, ⟨a3, d3, a4, d4, a5, d5, b3, b4, b5, br, rfl, c0, c1, c2, c3, c4, c5, f3, f4, f5, r⟩, hk => by
    have hm : ∀ g, ((g ∈ b3 ∨ g ∈ b4 ∨ g ∈ b5) ∨ g ∈ br) → w'.heap[g]? = w.heap[g]? := fun g hg => hk g (by simpa only [List.mem_append] using hg)
    refine ⟨a3, d3, a4, d4, a5, d5, b3, b4, b5, br, rfl, c0, c1, c2, c3, c4, c5, f3.keep hz fun g hg => hm g (.inl (.inl hg)), f4.keep hz fun g hg => hm g (.inl (.inr (.inl hg))), ?_, SelBk.keep hz r fun g hg => hm g (.inr hg)⟩
    rcases f5 with f5 | ⟨b, ds, bk, rfl, rfl, e1, e2, e3⟩
    · exact .inl f5
    · exact .inr ⟨b, ds, bk, rfl, rfl, (hm b (.inl (.inr (.inr (List.mem_cons_self ..))))).trans e1, e2, SelBk.keep hz e3 fun g hg => hm g (.inl (.inr (.inr (List.mem_cons_of_mem _ hg))))⟩
theorem SelsBk.keep {w w' : World} {a : Option Addr} {l : Sels} {bs : List Nat} (h : SelsBk w a l bs) (hz : w.heap.size ≤ w'.heap.size) (hk : ∀ g ∈ bs, w'.heap[g]? = w.heap[g]?) : SelsBk w' a l bs := by
  rcases h with h | ⟨b, ds, bk, rfl, rfl, e1, e2, e3⟩
  · exact .inl h
  · exact .inr ⟨b, ds, bk, rfl, rfl, (hk b (List.mem_cons_self ..)).trans e1, e2, SelBk.keep hz e3 fun g hg => hk g (List.mem_cons_of_mem _ hg)⟩
theorem SelBk.cells {w : World} {cs cs' : Array Value} : ∀ {l : Sels} {o : Nat} {bs : List Nat}, SelBk w l cs o bs → (∀ j, o ≤ j → j < o + 6 * l.len → cs'[j]? = cs[j]?) → SelBk w l cs' o bs
  | .nil, _, _, h, _ => h
  | .cons h sub rest, o, _, ⟨a3, d3, a4, d4, a5, d5, b3, b4, b5, br, rfl, c0, c1, c2, c3, c4, c5, f3, f4, f5, r⟩, hk => by
    simp only [Sels.len] at hk
    exact ⟨a3, d3, a4, d4, a5, d5, b3, b4, b5, br, rfl, (hk _ (by omega) (by omega)).trans c0, (hk _ (by omega) (by omega)).trans c1, (hk _ (by omega) (by omega)).trans c2, (hk _ (by omega) (by omega)).trans c3, (hk _ (by omega) (by omega)).trans c4, (hk _ (by omega) (by omega)).trans c5, f3, f4, f5, SelBk.cells r fun j h1 h2 => hk j (by omega) (by omega)⟩
theorem SelBk.lt {w : World} : ∀ {l : Sels} {cs : Array Value} {o : Nat} {bs : List Nat}, SelBk w l cs o bs → ∀ g ∈ bs, g < w.heap.size
  | .nil, _, _, _, h, g, hg => by rw [h] at hg; cases hg
  | .cons h sub rest, cs, o, _, ⟨a3, d3, a4, d4, a5, d5, b3, b4, b5, br, rfl, c0, c1, c2, c3, c4, c5, f3, f4, f5, r⟩, g, hg => by
    simp only [List.mem_append] at hg
    rcases hg with (hg | hg | hg) | hg
    · exact f3.lt g hg
    · exact f4.lt g hg
    · rcases f5 with ⟨_, f5⟩ | ⟨b, ds, bk, _, rfl, e1, _, e3⟩
      · rw [f5] at hg; cases hg
      · rcases List.mem_cons.1 hg with rfl | hg
        · exact (Array.getElem?_eq_some_iff.1 e1).1
        · exact SelBk.lt e3 g hg
    · exact SelBk.lt r g hg
theorem SelsBk.lt {w : World} {a : Option Addr} {l : Sels} {bs : List Nat} (h : SelsBk w a l bs) : ∀ g ∈ bs, g < w.heap.size := fun g hg => by
  rcases h with ⟨_, h⟩ | ⟨b, ds, bk, rfl, rfl, e1, e2, e3⟩
  · rw [h] at hg; cases hg
  · rcases List.mem_cons.1 hg with rfl | hg
    · exact (Array.getElem?_eq_some_iff.1 e1).1
    · exact SelBk.lt e3 g hg
theorem SelBk.toRow {w : World} : ∀ {l : Sels} {cs : Array Value} {rd : Nat → Option Value} {o : Nat} {bs : List Nat}, SelBk w l cs o bs → (∀ j, rd j = cs[j]?) → SelPre 0 w.heap.size w l rd o l.len
  | .nil, _, _, _, _, _, _ => trivial
  | .cons h sub rest, cs, rd, o, _, ⟨a3, d3, a4, d4, a5, d5, b3, b4, b5, br, rfl, c0, c1, c2, c3, c4, c5, f3, f4, f5, r⟩, hr => by
    refine .inr ⟨⟨(hr _).trans c0, (hr _).trans c1, (hr _).trans c2, ⟨a3, d3, (hr _).trans c3, f3.row⟩, ⟨a4, d4, (hr _).trans c4, f4.row⟩⟩, ⟨a5, d5, (hr _).trans c5, ?_⟩, ?_⟩
    · rcases f5 with ⟨f5, _⟩ | ⟨b, ds, bk, rfl, rfl, e1, e2, e3⟩
      · exact .inl f5
      · refine .inr ⟨b, 0, rfl, Nat.zero_le _, (Array.getElem?_eq_some_iff.1 e1).1, SelBk.toRow e3 fun j => row_cell e1 j⟩
    · simp only [Sels.len, Nat.add_sub_cancel]
      exact SelBk.toRow r hr
theorem SelsBk.row {w : World} {a : Option Addr} {l : Sels} {bs : List Nat} (h : SelsBk w a l bs) : SelRow 0 w.heap.size w a l := by
  rcases h with ⟨h, _⟩ | ⟨b, ds, bk, rfl, rfl, e1, e2, e3⟩
  · exact .inl h
  · exact .inr ⟨b, 0, rfl, Nat.zero_le _, (Array.getElem?_eq_some_iff.1 e1).1, SelBk.toRow e3 fun j => row_cell e1 j⟩
theorem SelBk.snoc {w : World} {cs : Array Value} {h : Hd} {sub : Sels} : ∀ (pre : List (Hd × Sels)) {o : Nat} {bp b1 : List Nat}, SelBk w (app pre .nil) cs o bp → OneBk w h sub cs (o + 6 * pre.length) b1 → SelBk w (app (pre ++ [(h, sub)]) .nil) cs o (bp ++ b1)
  | [], o, bp, b1, H, K => by
    obtain rfl : bp = [] := H
    have := SelBk.cons (rest := .nil) (br := []) (by simpa using K) rfl
    simpa [app] using this
  | x :: pre, o, _, b1, H, K => by
    obtain ⟨bx, br, rfl, O, R⟩ := SelBk.uncons H
    have := SelBk.snoc pre R (b1 := b1) (by rw [show o + 6 + 6 * pre.length = o + 6 * (x :: pre).length by simp only [List.length_cons]; omega]; exact K)
    have := SelBk.cons O this
    rw [← List.append_assoc] at this
    exact this
/-- Rows that grew, so. -/
theorem fl_of {α : Type} {at_ : (Nat → Option Value) → Nat → α → Prop} {f : α → List Value} {ty : TypeId} {W : World} {v : Value} {l : List α} (hz : ∀ x, (f x).length = 4) (ho : W.ownsRow 0 ty 4 v l.length (l.flatMap f)) (hat : ∀ (rd : Nat → Option Value) o x, x ∈ l → (∀ j, j < 4 → rd (o + j) = (f x)[j]?) → at_ rd o x) : ∃ a c bs, v = .slice a l.length c ∧ FlB at_ ty W a l bs ∧ bs.Sublist (blk v) := by
  rcases ho.2 with ⟨rfl, h0⟩ | ⟨g, cap, cur, rfl, _, hc, hcap, _, hcz, ht⟩
  · exact ⟨none, 0, [], by rw [h0], .inl ⟨List.length_eq_zero_iff.1 h0, rfl⟩, List.nil_sublist _⟩
  · refine ⟨_, _, [g], rfl, .inr ⟨g, rfl, .inr ⟨g, cur, rfl, Nat.le_refl _, by omega, hc, ?_, fun i x hx => hat _ _ x (List.mem_of_getElem? hx) fun j hj => ?_⟩, (Array.getElem?_eq_some_iff.1 hc).1⟩, List.Sublist.refl _⟩
    · rw [hcz]; exact Nat.mul_le_mul_right _ hcap
    · have hi : i < l.length := (List.getElem?_eq_some_iff.1 hx).1
      have hlt : i * 4 + j < l.length * 4 := by omega
      rw [← flat_at hz l i x hx j hj, ← ht]
      simp only [List.getElem?_take]
      rw [if_pos hlt]
      simp
theorem kid_bk {W : World} : ∀ {l : Sels} {vs : List Value} {bs : List Nat} {cs : Array Value} {o : Nat}, KidB W l vs bs → (∀ j, j < vs.length → cs[o + j]? = vs[j]?) → ∃ bs', SelBk W l cs o bs' ∧ bs'.Sublist bs
  | .nil, _, _, _, _, _, _ => ⟨[], rfl, List.nil_sublist _⟩
  | .cons h sub rest, vs, bs, cs, o, ⟨va, vd, vsub, vr, ws, bk, br, hv, hb, o1, o2, o3, k1, k2⟩, hr => by
    have hlen : vs.length = 6 + vr.length := by rw [hv, List.length_append]; rfl
    have at_ : ∀ j, j < 6 → cs[o + j]? = ([.int .i64 h.k, .string h.al, .string h.nm, va, vd, vsub] : List Value)[j]? := fun j hj => by
      rw [hr j (by omega), hv, List.getElem?_append_left (by simpa using hj)]
    obtain ⟨a3, c3, b3, rfl, f3, g3⟩ := fl_of (f := arC) (fun x => rfl) o1 (at_ := ArAt) fun rd o x _ h => ⟨h 0 (by omega), h 1 (by omega), h 2 (by omega), h 3 (by omega)⟩
    obtain ⟨a4, c4, b4, rfl, f4, g4⟩ := fl_of (f := diC) (fun x => rfl) o2 (at_ := DiAt) fun rd o x _ h => ⟨h 0 (by omega), h 1 (by omega), h 2 (by omega), h 3 (by omega)⟩
    obtain ⟨br', hbr, sbr⟩ := kid_bk (cs := cs) (o := o + 6) k2 fun j hj => by
      have := hr (6 + j) (by omega)
      rw [hv, List.getElem?_append_right (by simp)] at this
      rw [show o + 6 + j = o + (6 + j) by omega, this]
      congr 1
      simp
    obtain ⟨a5, c5, b5, rfl, f5, g5⟩ : ∃ a5 c5 b5, vsub = .slice a5 sub.len c5 ∧ ((sub = .nil ∧ b5 = []) ∨ ∃ b ds bk, a5 = some ⟨b, 0, none⟩ ∧ b5 = b :: bk ∧ W.heap[b]? = some (.cells ds 84 (0, 0)) ∧ sub.len * 6 ≤ ds.size ∧ SelBk W sub ds 0 bk) ∧ b5.Sublist (blk vsub ++ bk) := by
      rcases o3.2 with ⟨rfl, h0⟩ | ⟨g, cap, cur, rfl, _, hc, hcap, _, hcz, ht⟩
      · refine ⟨none, 0, [], by rw [h0], .inl ⟨?_, rfl⟩, List.nil_sublist _⟩
        cases sub with
        | nil => rfl
        | cons x y z => simp only [Sels.len] at h0; omega
      · obtain ⟨bk', hbk, sbk⟩ := kid_bk (cs := cur) (o := 0) k1 fun j hj => by
          rw [Nat.zero_add]
          have hlt : j < sub.len * 6 := by rw [← KidB.len k1]; exact hj
          rw [← ht]
          simp only [List.getElem?_take]
          rw [if_pos hlt]
          simp
        exact ⟨_, _, g :: bk', rfl, .inr ⟨g, cur, bk', rfl, rfl, hc, by rw [hcz]; exact Nat.mul_le_mul_right _ hcap, hbk⟩, by simpa [blk, Value.ownBlock] using sbk⟩
    refine ⟨(b3 ++ (b4 ++ b5)) ++ br', ⟨a3, c3, a4, c4, a5, c5, b3, b4, b5, br', rfl, at_ 0 (by omega), at_ 1 (by omega), at_ 2 (by omega), at_ 3 (by omega), at_ 4 (by omega), at_ 5 (by omega), f3, f4, f5, hbr⟩, ?_⟩
    rw [hb]
    exact List.Sublist.append (List.Sublist.append g3 (List.Sublist.append g4 g5)) sbr
/-- Definitions' cells from o on, the blocks of their lists. -/
def DefBk (w : World) : List De → Array Value → Nat → List Nat → Prop
  | [], _, _, bs => bs = []
  | x :: r, cs, o, bs => ∃ a5 d5 b5 br, bs = b5 ++ br ∧ cs[o]? = some (.int .i64 x.k) ∧ cs[o + 1]? = some (.string x.nm) ∧ cs[o + 2]? = some (.string x.on) ∧ cs[o + 3]? = some (.slice a5 x.sels.len d5) ∧ SelsBk w a5 x.sels b5 ∧ DefBk w r cs (o + 4) br
def DocBk (w : World) (a : Option Addr) (l : List De) (bs : List Nat) : Prop :=
  (l = [] ∧ bs = []) ∨ ∃ b ds bk, a = some ⟨b, 0, none⟩ ∧ bs = b :: bk ∧ w.heap[b]? = some (.cells ds 47 (0, 0)) ∧ l.length * 4 ≤ ds.size ∧ DefBk w l ds 0 bk
theorem DefBk.keep {w w' : World} (hz : w.heap.size ≤ w'.heap.size) : ∀ {l : List De} {cs : Array Value} {o : Nat} {bs : List Nat}, DefBk w l cs o bs → (∀ g ∈ bs, w'.heap[g]? = w.heap[g]?) → DefBk w' l cs o bs
  | [], _, _, _, h, _ => h
  | x :: r, _, _, _, ⟨a5, d5, b5, br, rfl, c0, c1, c2, c3, f, R⟩, hk => ⟨a5, d5, b5, br, rfl, c0, c1, c2, c3, f.keep hz fun g hg => hk g (List.mem_append_left _ hg), DefBk.keep hz R fun g hg => hk g (List.mem_append_right _ hg)⟩
theorem DefBk.cells {w : World} {cs cs' : Array Value} : ∀ {l : List De} {o : Nat} {bs : List Nat}, DefBk w l cs o bs → (∀ j, o ≤ j → j < o + 4 * l.length → cs'[j]? = cs[j]?) → DefBk w l cs' o bs
  | [], _, _, h, _ => h
  | x :: r, o, _, ⟨a5, d5, b5, br, rfl, c0, c1, c2, c3, f, R⟩, hk => by
    simp only [List.length_cons] at hk
    exact ⟨a5, d5, b5, br, rfl, (hk _ (by omega) (by omega)).trans c0, (hk _ (by omega) (by omega)).trans c1, (hk _ (by omega) (by omega)).trans c2, (hk _ (by omega) (by omega)).trans c3, f, DefBk.cells R fun j h1 h2 => hk j (by omega) (by omega)⟩
theorem DefBk.lt {w : World} : ∀ {l : List De} {cs : Array Value} {o : Nat} {bs : List Nat}, DefBk w l cs o bs → ∀ g ∈ bs, g < w.heap.size
  | [], _, _, _, h, g, hg => by rw [h] at hg; cases hg
  | x :: r, _, _, _, ⟨a5, d5, b5, br, rfl, c0, c1, c2, c3, f, R⟩, g, hg => by
    rcases List.mem_append.1 hg with hg | hg
    · exact f.lt g hg
    · exact DefBk.lt R g hg
theorem DefBk.at_ {w : World} {cs : Array Value} : ∀ {l : List De} {o : Nat} {bs : List Nat}, DefBk w l cs o bs → ∀ i x, l[i]? = some x → ∃ a5 d5, cs[o + i * 4]? = some (.int .i64 x.k) ∧ cs[o + i * 4 + 1]? = some (.string x.nm) ∧ cs[o + i * 4 + 2]? = some (.string x.on) ∧ cs[o + i * 4 + 3]? = some (.slice a5 x.sels.len d5) ∧ SelRow 0 w.heap.size w a5 x.sels
  | [], _, _, _, i, x, hx => by simp at hx
  | y :: r, o, _, ⟨a5, d5, b5, br, rfl, c0, c1, c2, c3, f, R⟩, 0, x, hx => by
    simp only [List.getElem?_cons_zero, Option.some.injEq] at hx
    subst hx
    exact ⟨a5, d5, by simpa using c0, by simpa using c1, by simpa using c2, by simpa using c3, f.row⟩
  | y :: r, o, _, ⟨a5, d5, b5, br, rfl, c0, c1, c2, c3, f, R⟩, i + 1, x, hx => by
    have := DefBk.at_ R i x (by simpa using hx)
    rwa [show o + 4 + i * 4 = o + (i + 1) * 4 by omega] at this
theorem DocBk.keep {w w' : World} {a : Option Addr} {l : List De} {bs : List Nat} (h : DocBk w a l bs) (hz : w.heap.size ≤ w'.heap.size) (hk : ∀ g ∈ bs, w'.heap[g]? = w.heap[g]?) : DocBk w' a l bs := by
  rcases h with h | ⟨b, ds, bk, rfl, rfl, e1, e2, e3⟩
  · exact .inl h
  · exact .inr ⟨b, ds, bk, rfl, rfl, (hk b (List.mem_cons_self ..)).trans e1, e2, DefBk.keep hz e3 fun g hg => hk g (List.mem_cons_of_mem _ hg)⟩
theorem DocBk.row {w : World} {a : Option Addr} {l : List De} {bs : List Nat} (h : DocBk w a l bs) : DeRow 0 w.heap.size w a l := by
  rcases h with ⟨h, _⟩ | ⟨b, ds, bk, rfl, rfl, e1, e2, e3⟩
  · exact .inl h
  · refine .inr ⟨b, 0, rfl, Nat.zero_le _, (Array.getElem?_eq_some_iff.1 e1).1, fun i x hx => ?_⟩
    obtain ⟨a5, d5, c0, c1, c2, c3, hr⟩ := e3.at_ i x hx
    exact ⟨(row_cell e1 _).trans c0, (row_cell e1 _).trans c1, (row_cell e1 _).trans c2, a5, d5, (row_cell e1 _).trans c3, hr⟩
theorem def_bk {W : World} : ∀ {l : List De} {vs : List Value} {bs : List Nat} {cs : Array Value} {o : Nat}, DefK W l vs bs → (∀ j, j < vs.length → cs[o + j]? = vs[j]?) → ∃ bs', DefBk W l cs o bs' ∧ bs'.Sublist bs
  | [], _, _, _, _, _, _ => ⟨[], rfl, List.nil_sublist _⟩
  | x :: r, vs, bs, cs, o, ⟨V, vr, ws, bk, br, hv, hb, o3, k, kr⟩, hr => by
    have hlen : vs.length = 4 + vr.length := by rw [hv, List.length_append]; rfl
    have at_ : ∀ j, j < 4 → cs[o + j]? = ([.int .i64 x.k, .string x.nm, .string x.on, V] : List Value)[j]? := fun j hj => by
      rw [hr j (by omega), hv, List.getElem?_append_left (by simpa using hj)]
    obtain ⟨br', hbr, sbr⟩ := def_bk (cs := cs) (o := o + 4) kr fun j hj => by
      have := hr (4 + j) (by omega)
      rw [hv, List.getElem?_append_right (by simp)] at this
      rw [show o + 4 + j = o + (4 + j) by omega, this]
      congr 1
      simp
    obtain ⟨a5, c5, b5, rfl, f5, g5⟩ : ∃ a5 c5 b5, V = .slice a5 x.sels.len c5 ∧ SelsBk W a5 x.sels b5 ∧ b5.Sublist (blk V ++ bk) := by
      rcases o3.2 with ⟨rfl, h0⟩ | ⟨g, cap, cur, rfl, _, hc, hcap, _, hcz, ht⟩
      · refine ⟨none, 0, [], by rw [h0], .inl ⟨?_, rfl⟩, List.nil_sublist _⟩
        generalize x.sels = sub at h0
        cases sub with
        | nil => rfl
        | cons x y z => simp only [Sels.len] at h0; omega
      · obtain ⟨bk', hbk, sbk⟩ := kid_bk (cs := cur) (o := 0) k fun j hj => by
          rw [Nat.zero_add]
          have hlt : j < x.sels.len * 6 := by rw [← KidB.len k]; exact hj
          rw [← ht]
          simp only [List.getElem?_take]
          rw [if_pos hlt]
          simp
        exact ⟨_, _, g :: bk', rfl, .inr ⟨g, cur, bk', rfl, rfl, hc, by rw [hcz]; exact Nat.mul_le_mul_right _ hcap, hbk⟩, by simpa [blk, Value.ownBlock] using sbk⟩
    refine ⟨b5 ++ br', ⟨a5, c5, b5, br', rfl, at_ 0 (by omega), at_ 1 (by omega), at_ 2 (by omega), at_ 3 (by omega), f5, hbr⟩, ?_⟩
    rw [hb]
    exact List.Sublist.append g5 sbr
theorem DefK.len {W : World} : ∀ {l : List De} {vs : List Value} {bs : List Nat}, DefK W l vs bs → vs.length = l.length * 4
  | [], _, _, ⟨h, _⟩ => by rw [h]; rfl
  | x :: r, _, _, ⟨V, vr, ws, bk, br, hv, _, _, _, kr⟩ => by
    rw [hv, List.length_append, DefK.len kr]
    simp only [List.length_cons, List.length_nil]
    omega
/-- What a reading tells, by its blocks. -/
theorem DocK.bk {base : Nat} {W : World} {a : Option Addr} {n c : Nat} {l : List De} {vs : List Value} {bs : List Nat} (h : DocK base W (.slice a n c) l vs bs) : ∃ bs', DocBk W a l bs' ∧ bs'.Nodup ∧ ∀ g ∈ bs', base ≤ g ∧ g < W.heap.size := by
  rcases h.own.2 with ⟨_, h0⟩ | ⟨g, cap, cur, hv, hb, hc, hcap, _, hcz, ht⟩
  · exact ⟨[], .inl ⟨List.length_eq_zero_iff.1 h0, rfl⟩, List.nodup_nil, fun g hg => by cases hg⟩
  · simp only [Value.slice.injEq] at hv
    obtain ⟨rfl, rfl, rfl⟩ := hv
    obtain ⟨bk', hbk, sbk⟩ := def_bk (cs := cur) (o := 0) h.k fun j hj => by
      rw [Nat.zero_add]
      have hlt : j < l.length * 4 := by rw [← DefK.len h.k]; exact hj
      rw [← ht]
      simp only [List.getElem?_take]
      rw [if_pos hlt]
      simp
    have hs : (g :: bk').Sublist (blk (.slice (some ⟨g, 0, none⟩) l.length c) ++ bs) := by simpa [blk, Value.ownBlock] using sbk
    exact ⟨g :: bk', .inr ⟨g, cur, bk', rfl, rfl, hc, by rw [hcz]; exact Nat.mul_le_mul_right _ hcap, hbk⟩, h.nd.sublist hs, fun y hy => h.all y (hs.subset hy)⟩
end Go.Proofs.YtlilfbcngncllaaGreatDoor
namespace Go.Proofs.YtlilfbcngncllaaGreatDoor
open Go.ChangeShapes Go.WideShapes Go.ChangeAt Go.RowKit
set_option linter.unusedVariables false

structure NdS (b : Nat) (bp b3 b4 b5 br : List Nat) : Prop where
  p : ∀ g ∈ bp, g ≠ b ∧ g ∉ b3 ∧ g ∉ b4 ∧ g ∉ b5
  r : ∀ g ∈ br, g ≠ b ∧ g ∉ b3 ∧ g ∉ b4 ∧ g ∉ b5
  n3 : ∀ g ∈ b3, g ≠ b ∧ g ∉ b4 ∧ g ∉ b5
  n4 : ∀ g ∈ b4, g ≠ b ∧ g ∉ b3 ∧ g ∉ b5
  n5 : ∀ g ∈ b5, g ≠ b ∧ g ∉ b3 ∧ g ∉ b4
  nd : b5.Nodup
theorem nd_split {b : Nat} {bp b3 b4 b5 br : List Nat} (h : (b :: (bp ++ ((b3 ++ (b4 ++ b5)) ++ br))).Nodup) : NdS b bp b3 b4 b5 br := by
  simp only [List.nodup_cons, List.nodup_append, List.mem_append, not_or] at h
  obtain ⟨⟨h1, ⟨h2, h3, h4⟩, h5⟩, h6, ⟨⟨h7, ⟨h8, h9, h10⟩, h11⟩, h12, h13⟩, h14⟩ := h
  refine ⟨fun g hg => ⟨fun e => h1 (e ▸ hg), fun q => h14 g hg g (.inl (.inl q)) rfl, fun q => h14 g hg g (.inl (.inr (.inl q))) rfl, fun q => h14 g hg g (.inl (.inr (.inr q))) rfl⟩,
    fun g hg => ⟨fun e => h5 (e ▸ hg), fun q => h13 g (.inl q) g hg rfl, fun q => h13 g (.inr (.inl q)) g hg rfl, fun q => h13 g (.inr (.inr q)) g hg rfl⟩,
    fun g hg => ⟨fun e => h2 (e ▸ hg), fun q => h11 g hg g (.inl q) rfl, fun q => h11 g hg g (.inr q) rfl⟩,
    fun g hg => ⟨fun e => h3 (e ▸ hg), fun q => h11 g q g (.inl hg) rfl, fun q => h10 g hg g q rfl⟩,
    fun g hg => ⟨fun e => h4 (e ▸ hg), fun q => h11 g q g (.inr hg) rfl, fun q => h10 g q g hg rfl⟩, h9⟩
theorem mark_argsF (a : Option Addr) (c : Nat) (l : List Ar) (bs : List Nat) (K : Nat) (kk : Int) (w : World) (hkk : kk = (K : Int)) (ho : ArFl w a l bs) (hk : 0 < K) (hb : ((K + 4 * l.length : Nat) : Int) ≤ 4611686018427387904) :
    Calls Tryz.prog 51 #[.slice a l.length c, .int .i64 kk] w fun e w' => ∃ r : Int, e = .returned (.int .i64 r) ∧ r = ((K + 4 * l.length : Nat) : Int) ∧ ArFl w' a (mkAr K l) bs ∧ G.Kept bs w w' := by
  rcases ho with ⟨rfl, rfl⟩ | ⟨b, rfl, ho, hlt⟩
  · refine (mark_args a c [] 0 0 K kk w hkk (.inl rfl) (Nat.zero_le _) hk hb).mono ?_
    rintro e w' ⟨r, rfl, hr, _, k⟩
    exact ⟨r, rfl, hr, .inl ⟨rfl, rfl⟩, ⟨k.os, k.tape, k.output, k.size, fun g hg _ => k.block g hg (.inr (Nat.zero_le _))⟩⟩
  · refine (mark_args a c l b (b + 1) K kk w hkk ho (by omega) hk hb).mono ?_
    rintro e w' ⟨r, rfl, hr, o, k⟩
    exact ⟨r, rfl, hr, .inr ⟨b, rfl, o, by have := k.size; omega⟩, kept_one k⟩
theorem mark_dirsF (a : Option Addr) (c : Nat) (l : List Di) (bs : List Nat) (K : Nat) (kk : Int) (w : World) (hkk : kk = (K : Int)) (ho : DiFl w a l bs) (hk : 0 < K) (hb : ((K + 4 * l.length : Nat) : Int) ≤ 4611686018427387904) :
    Calls Tryz.prog 52 #[.slice a l.length c, .int .i64 kk] w fun e w' => ∃ r : Int, e = .returned (.int .i64 r) ∧ r = ((K + 4 * l.length : Nat) : Int) ∧ DiFl w' a (mkDi K l) bs ∧ G.Kept bs w w' := by
  rcases ho with ⟨rfl, rfl⟩ | ⟨b, rfl, ho, hlt⟩
  · refine (mark_dirs a c [] 0 0 K kk w hkk (.inl rfl) (Nat.zero_le _) hk hb).mono ?_
    rintro e w' ⟨r, rfl, hr, _, k⟩
    exact ⟨r, rfl, hr, .inl ⟨rfl, rfl⟩, ⟨k.os, k.tape, k.output, k.size, fun g hg _ => k.block g hg (.inr (Nat.zero_le _))⟩⟩
  · refine (mark_dirs a c l b (b + 1) K kk w hkk ho (by omega) hk hb).mono ?_
    rintro e w' ⟨r, rfl, hr, o, k⟩
    exact ⟨r, rfl, hr, .inr ⟨b, rfl, o, by have := k.size; omega⟩, kept_one k⟩
theorem SelBk.mark_step {w0 w5 : World} {n q K : Nat} {cs : Array Value} {pre : List (Hd × Sels)} {h : Hd} {sub rest : Sels} {a3 a4 a5 : Option Addr} {d3 d4 d5 : Nat} {b3 b4 b5 bp br : List Nat} {v0 v1 v2 : Value}
    (hz : w0.heap.size ≤ w5.heap.size) (hlen : pre.length = n) (hcs : n * 6 + 6 ≤ cs.size) (HP : SelBk w0 (app (mkP K pre) .nil) cs 0 bp) (HR : SelBk w0 rest cs (n * 6 + 6) br)
    (p3 : cs[n * 6 + 3]? = some (.slice a3 h.args.length d3)) (p4 : cs[n * 6 + 4]? = some (.slice a4 h.dirs.length d4)) (p5 : cs[n * 6 + 5]? = some (.slice a5 sub.len d5))
    (o3 : ArFl w5 a3 (mkAr (q + 3) h.args) b3) (o4 : DiFl w5 a4 (mkDi (q + 3 + 4 * h.args.length) h.dirs) b4) (o5 : SelsBk w5 a5 (mkS (q + cHd h) sub) b5)
    (S : ∀ g, (g ∈ bp ∨ g ∈ br) → w5.heap[g]? = w0.heap[g]?) (ev0 : v0 = .int .i64 (q : Int)) (ev1 : v1 = .string (G.mkT (q + 1))) (ev2 : v2 = .string (G.mkT (q + 2))) (hq : q = K + cP pre) :
    SelBk w5 (app (mkP K (pre ++ [(h, sub)])) .nil) (put3 cs (n * 6) v0 v1 v2) 0 (bp ++ (b3 ++ (b4 ++ b5))) ∧ SelBk w5 rest (put3 cs (n * 6) v0 v1 v2) ((n + 1) * 6) br := by
  subst hlen
  obtain ⟨g0, g1, g2⟩ := put3_at (cs := cs) (k := pre.length * 6) (v0 := v0) (v1 := v1) (v2 := v2) (by omega)
  have gx : ∀ j, j < pre.length * 6 ∨ pre.length * 6 + 3 ≤ j → (put3 cs (pre.length * 6) v0 v1 v2)[j]? = cs[j]? := fun j hj => put3_ne hj
  generalize put3 cs (pre.length * 6) v0 v1 v2 = cs' at *
  constructor
  · rw [mkP_snoc, ← hq]
    refine SelBk.snoc _ (SelBk.cells (cs := cs) (SelBk.keep hz HP fun g h1 => S g (.inl h1)) fun j _ hj => gx j ?_) ?_
    · rw [app_len, mkP_len] at hj
      simp only [Sels.len] at hj
      omega
    · rw [mkP_len, show 0 + 6 * pre.length = pre.length * 6 by omega]
      refine ⟨a3, d3, a4, d4, a5, d5, b3, b4, b5, rfl, g0.trans (by rw [ev0]; rfl), g1.trans (by rw [ev1]; rfl), g2.trans (by rw [ev2]; rfl), ?_, ?_, ?_, o3, o4, o5⟩
      · rw [gx _ (by omega), p3]; simp only [mkHd, mkAr_len]
      · rw [gx _ (by omega), p4]; simp only [mkHd, mkDi_len]
      · rw [gx _ (by omega), p5, mkS_len]
  · rw [show (pre.length + 1) * 6 = pre.length * 6 + 6 by omega]
    exact SelBk.cells (cs := cs) (SelBk.keep hz HR fun g h1 => S g (.inr h1)) fun j h1 hj => gx j (by omega)
def MarkBk (l : Sels) : Prop := ∀ (a : Option Addr) (c K : Nat) (bs : List Nat) (kk : Int) (w : World), kk = (K : Int) → SelsBk w a l bs → bs.Nodup → 0 < K → ((K + cS l : Nat) : Int) ≤ 4611686018427387904 →
    Calls Tryz.prog 29 #[.slice a l.len c, .int .i64 kk] w fun e w' => ∃ r : Int, e = .returned (.int .i64 r) ∧ r = ((K + cS l : Nat) : Int) ∧ SelsBk w' a (mkS K l) bs ∧ G.Kept bs w w'

set_option maxHeartbeats 4000000 in
set_option maxRecDepth 40000 in
theorem mark_selsB (l : Sels) : MarkBk l := by
  induction hN : l.size using Nat.strongRecOn generalizing l with
  | _ N ih =>
  subst hN
  intro a c K bs kk w hkk ho hnd hk hb
  have IH : Hid (∀ sub : Sels, sub.size < l.size → MarkBk sub) := fun sub hsub => ih sub.size hsub sub rfl
  clear ih
  subst hkk
  rcases ho with ⟨rfl, rfl⟩ | ⟨b, ds, bk, rfl, rfl, f3, f4, f5⟩
  · simp only [Sels.len]
    go_enter Tryz.func29, Tryz.ntmps29
    go_wp2_with fail
    go_loopw [1, 5] (fun s i w' => s = .int .i64 (K : Int) ∧ i = .int .i64 0 ∧ w' = w) (fun _ _ _ => 0)
    case atStart => exact ⟨rfl, rfl, rfl⟩
    case round =>
      obtain ⟨rfl, rfl, rfl⟩ := hrel
      go_wp2_with fail
      go_ret
      exact ⟨_, rfl, by simp [cS], .inl ⟨rfl, rfl⟩, G.Kept.refl _ _⟩
  have hl9 : (l.len : Int) ≤ 4611686018427387904 := by have := len_cS l; omega
  have HB : Hid _ := hb
  have F3 : Hid _ := f3
  have F4 : Hid _ := f4
  have F5 : Hid _ := f5
  have HND : Hid ((b :: bk).Nodup) := hnd
  clear f3 f4 f5 hb hnd
  go_enter Tryz.func29, Tryz.ntmps29
  go_wp2_with fail
  go_loopw [1, 5] (fun s i w' => ∃ (n q : Nat) (bp br : List Nat) (cs : Array Value) (pre : List (Hd × Sels)) (rest : Sels), Hid (l.len = n + rest.len) ∧ i = .int .i64 n ∧ s = .int .i64 (q : Int) ∧ Hid (l = app pre rest ∧ pre.length = n) ∧ Hid (rest.size ≤ l.size) ∧ Hid (q = K + cP pre) ∧ 0 < q ∧ Hid (bk = bp ++ br) ∧ Hid (w'.heap[b]? = some (.cells cs 84 (0, 0))) ∧ Hid (l.len * 6 ≤ cs.size) ∧ Hid (SelBk w' (app (mkP K pre) .nil) cs 0 bp) ∧ Hid (SelBk w' rest cs (n * 6) br) ∧ Hid (G.Kept (b :: bk) w w')) (fun _ i _ => l.len - (intOf i).toNat)
  case atStart => exact ⟨0, K, [], bk, ds, [], l, by simp [Hid], rfl, rfl, ⟨rfl, rfl⟩, Nat.le_refl _, by simp [Hid, cP], hk, rfl, F3, F4, rfl, by rw [Nat.zero_mul]; exact F5, G.Kept.refl _ _⟩
  case round =>
    obtain ⟨n, q, bp, br0, cs, pre, rest, HN, rfl, rfl, HP, HZ, HQ, hq0, HBK, H0, HC, HS, HR, HK⟩ := hrel
    cases rest with
    | nil =>
      have hk' : ¬ n < l.len := by rw [HN.out]; simp only [Sels.len]; omega
      have HE : Hid ((q : Int) = ((K + cS l : Nat) : Int) ∧ SelsBk wr (some ⟨b, 0, none⟩) (mkS K l) (b :: bk)) := by
        obtain ⟨hp1, hp2⟩ := HP.out
        have hq := HQ.out
        have hbr : br0 = [] := HR.out
        refine ⟨by rw [hp1, cS_app]; simp only [cS]; omega, .inr ⟨b, cs, bk, rfl, rfl, H0.out, by rw [mkS_len]; exact HC.out, ?_⟩⟩
        rw [hp1, mkS_app, HBK.out, hbr, List.append_nil]
        exact HS.out
      clear HS HR HP HQ
      go_wp2_with fail
      go_ret
      exact ⟨_, rfl, HE.out.1, HE.out.2, HK.out⟩
    | cons h sub rest =>
      have hlt : n < l.len := by rw [HN.out]; simp only [Sels.len]; omega
      have HN2 : Hid (l.len = n + 1 + rest.len) := by rw [Hid, HN.out]; simp only [Sels.len]; omega
      obtain ⟨a3, d3, a4, d4, a5, d5, b3, b4, b5, br, hbr, c0, c1, c2, p3, p4, p5, q3, q4, q5, hrest⟩ := HR.out
      have NS : Hid (NdS b bp b3 b4 b5 br) := nd_split (by rw [← hbr, ← HBK.out]; exact HND.out)
      have HBL : Hid (∀ g ∈ bk, g < wr.heap.size) := fun g hg => by
        rw [HBK.out] at hg
        rcases List.mem_append.1 hg with hg | hg
        · exact HS.out.lt g hg
        · exact HR.out.lt g hg
      have M3 : Hid (∀ g ∈ b3, g ∈ bk) := fun g hg => by rw [HBK.out, hbr]; simp only [List.mem_append]; exact .inr (.inl (.inl hg))
      have M4 : Hid (∀ g ∈ b4, g ∈ bk) := fun g hg => by rw [HBK.out, hbr]; simp only [List.mem_append]; exact .inr (.inl (.inr (.inl hg)))
      have M5 : Hid (∀ g ∈ b5, g ∈ bk) := fun g hg => by rw [HBK.out, hbr]; simp only [List.mem_append]; exact .inr (.inl (.inr (.inr hg)))
      have MP : Hid (∀ g, (g ∈ bp ∨ g ∈ br) → g ∈ bk) := fun g hg => by rw [HBK.out, hbr]; simp only [List.mem_append]; rcases hg with hg | hg; exact .inl hg; exact .inr (.inr hg)
      have HBK2 : Hid (bk = (bp ++ (b3 ++ (b4 ++ b5))) ++ br) := by rw [Hid, HBK.out, hbr, ← List.append_assoc]
      have hbw : b < wr.heap.size := (Array.getElem?_eq_some_iff.1 H0.out).1
      have hcs := HC.out
      have hcs2 : n * 6 + 6 ≤ cs.size := by omega
      have hq4 : (q : Int) + ((cHd h + cS sub : Nat) : Int) ≤ 4611686018427387904 := by
        have h1 := HB.out
        rw [HP.out.1, cS_app] at h1
        simp only [cS] at h1
        have h2 := HQ.out
        omega
      have hch : cHd h = 3 + 4 * h.args.length + 4 * h.dirs.length := rfl
      have HZ2 : Hid (rest.size ≤ l.size) := by have := HZ.out; simp only [Sels.size] at this; unfold Hid; omega
      have IS : Hid (MarkBk sub) := IH.out sub (by have := HZ.out; simp only [Sels.size] at this; omega)
      have P3 : Hid _ := p3
      have P4 : Hid _ := p4
      have P5 : Hid _ := p5
      have Q3 : Hid (ArFl wr a3 h.args b3) := q3
      have Q4 : Hid (DiFl wr a4 h.dirs b4) := q4
      have Q5 : Hid (SelsBk wr a5 sub b5) := q5
      have HRE : Hid _ := hrest
      obtain ⟨w0, rfl⟩ : ∃ x, x = wr := ⟨_, rfl⟩
      obtain ⟨u0, hv0⟩ : ∃ v, w0.cell? ⟨b, n * 6, none⟩ = some v := ⟨_, (row_cell H0.out _).trans (Array.getElem?_eq_getElem (by omega))⟩
      have hf0 := row_frozen H0.out (n * 6)
      clear c0 c1 c2 p3 p4 p5 q3 q4 q5 hrest HR hcs hbr HBK
      go_wp2_with fail
      refine (G.mark_text_int _ _ (by omega) (by omega)).mono ?_
      rintro e w1 ⟨rfl, hb1⟩
      have z1 : w0.heap.size ≤ w1.heap.size := by have := hb1.size; simpa using this
      have H1 : Hid (w1.heap[b]? = _) := (hb1.block _ (by simp; omega)).trans (row_set H0.out (n * 6) _)
      have S1 : Hid (∀ g, g ≠ b → g < w0.heap.size → w1.heap[g]? = w0.heap[g]?) := fun g h1 h2 => (hb1.block g (by simpa using h2)).trans (heap_set _ _ _ _ _ h1)
      have K1 : Hid (G.Kept (b :: bk) w w1) := (HK.out.set (p := ⟨b, n * 6, none⟩) (List.mem_cons_self ..) _).trans (G.Kept.of hb1)
      obtain ⟨u1, hv1⟩ : ∃ v, w1.cell? ⟨b, n * 6 + 1, none⟩ = some v := ⟨_, (row_cell H1.out _).trans (Array.getElem?_eq_getElem (by simp; omega))⟩
      have hf1 := row_frozen H1.out (n * 6 + 1)
      clear hb1 hv0 hf0
      go_wp2_with fail
      refine (G.mark_text_int _ _ (by omega) (by omega)).mono ?_
      rintro e w2 ⟨rfl, hb2⟩
      have z2 : w1.heap.size ≤ w2.heap.size := by have := hb2.size; simpa using this
      have H2 : Hid (w2.heap[b]? = _) := (hb2.block _ (by simp; omega)).trans (row_set H1.out (n * 6 + 1) _)
      have S2 : Hid (∀ g, g ≠ b → g < w0.heap.size → w2.heap[g]? = w0.heap[g]?) := fun g h1 h2 => ((hb2.block g (by simp; omega)).trans (heap_set _ _ _ _ _ h1)).trans (S1.out g h1 h2)
      have K2 : Hid (G.Kept (b :: bk) w w2) := (K1.out.set (p := ⟨b, n * 6 + 1, none⟩) (List.mem_cons_self ..) _).trans (G.Kept.of hb2)
      obtain ⟨u2, hv2⟩ : ∃ v, w2.cell? ⟨b, n * 6 + 2, none⟩ = some v := ⟨_, (row_cell H2.out _).trans (Array.getElem?_eq_getElem (by simp; omega))⟩
      have hf2 := row_frozen H2.out (n * 6 + 2)
      have hv3 : w2.cell? ⟨b, n * 6 + 3, none⟩ = some (.slice a3 h.args.length d3) := (row_cell H2.out _).trans (by rw [Array.getElem?_setIfInBounds_ne (by omega), Array.getElem?_setIfInBounds_ne (by omega)]; exact P3.out)
      clear hb2 hv1 hf1
      go_wp2_with fail
      refine Calls.mono (mark_argsF a3 d3 h.args b3 (q + 3) _ _ (by omega) (FlB.keep Q3.out (by simp; omega) ?own) (by omega) (by omega)) ?_
      case own =>
        intro g hg
        have hn := NS.out.n3 g hg
        rw [heap_set _ _ _ _ _ hn.1]
        exact S2.out g hn.1 (HBL.out g (M3.out g hg))
      rintro e w3 ⟨r3, rfl, hr3, own3, kept3⟩
      have z3 : w2.heap.size ≤ w3.heap.size := by have := kept3.size; simpa using this
      have O3 : Hid (ArFl w3 a3 (mkAr (q + 3) h.args) b3) := own3
      have H3 : Hid (w3.heap[b]? = _) := (kept3.block b (by simp; omega) (fun hx => (NS.out.n3 b hx).1 rfl)).trans (row_set H2.out (n * 6 + 2) _)
      have S3 : Hid (∀ g, g ≠ b → g < w0.heap.size → g ∉ b3 → w3.heap[g]? = w0.heap[g]?) := fun g h1 h2 h3 => ((kept3.block g (by simp; omega) h3).trans (heap_set _ _ _ _ _ h1)).trans (S2.out g h1 h2)
      have K3 : Hid (G.Kept (b :: bk) w w3) := (K2.out.set (p := ⟨b, n * 6 + 2, none⟩) (List.mem_cons_self ..) _).trans (kept3.mono fun g hg => List.mem_cons_of_mem _ (M3.out g hg))
      have hv4 : w3.cell? ⟨b, n * 6 + 4, none⟩ = some (.slice a4 h.dirs.length d4) := (row_cell H3.out _).trans (by rw [Array.getElem?_setIfInBounds_ne (by omega), Array.getElem?_setIfInBounds_ne (by omega), Array.getElem?_setIfInBounds_ne (by omega)]; exact P4.out)
      clear own3 kept3 hv2 hf2 hv3
      go_wp2_with fail
      refine Calls.mono (mark_dirsF a4 d4 h.dirs b4 (q + 3 + 4 * h.args.length) _ _ (by omega) (FlB.keep Q4.out (by omega) ?own) (by omega) (by omega)) ?_
      case own =>
        intro g hg
        have hn := NS.out.n4 g hg
        exact S3.out g hn.1 (HBL.out g (M4.out g hg)) hn.2.1
      rintro e w4 ⟨r4, rfl, hr4, own4, kept4⟩
      have z4 := kept4.size
      have O4 : Hid (DiFl w4 a4 (mkDi (q + 3 + 4 * h.args.length) h.dirs) b4) := own4
      have O3' : Hid (ArFl w4 a3 (mkAr (q + 3) h.args) b3) := FlB.keep O3.out z4 fun g hg => kept4.block g (O3.out.lt g hg) (NS.out.n3 g hg).2.1
      have H4 : Hid (w4.heap[b]? = _) := (kept4.block b (by omega) (fun hx => (NS.out.n4 b hx).1 rfl)).trans H3.out
      have S4 : Hid (∀ g, g ≠ b → g < w0.heap.size → g ∉ b3 → g ∉ b4 → w4.heap[g]? = w0.heap[g]?) := fun g h1 h2 h3 h4 => (kept4.block g (by omega) h4).trans (S3.out g h1 h2 h3)
      have K4 : Hid (G.Kept (b :: bk) w w4) := K3.out.trans (kept4.mono fun g hg => List.mem_cons_of_mem _ (M4.out g hg))
      have hv5 : w4.cell? ⟨b, n * 6 + 5, none⟩ = some (.slice a5 sub.len d5) := (row_cell H4.out _).trans (by rw [Array.getElem?_setIfInBounds_ne (by omega), Array.getElem?_setIfInBounds_ne (by omega), Array.getElem?_setIfInBounds_ne (by omega)]; exact P5.out)
      clear own4 kept4 hv4 O3 H3
      go_wp2_with fail
      refine Calls.mono (IS.out a5 d5 (q + cHd h) b5 _ _ (by omega) (SelsBk.keep Q5.out (by omega) ?own) NS.out.nd (by omega) (by omega)) ?_
      case own =>
        intro g hg
        have hn := NS.out.n5 g hg
        exact S4.out g hn.1 (HBL.out g (M5.out g hg)) hn.2.1 hn.2.2
      rintro e w5 ⟨r5, rfl, hr5, own5, kept5⟩
      have z5 := kept5.size
      have O5 : Hid (SelsBk w5 a5 (mkS (q + cHd h) sub) b5) := own5
      have O3'' : Hid (ArFl w5 a3 (mkAr (q + 3) h.args) b3) := FlB.keep O3'.out z5 fun g hg => kept5.block g (O3'.out.lt g hg) (NS.out.n3 g hg).2.2
      have O4' : Hid (DiFl w5 a4 (mkDi (q + 3 + 4 * h.args.length) h.dirs) b4) := FlB.keep O4.out z5 fun g hg => kept5.block g (O4.out.lt g hg) (NS.out.n4 g hg).2.2
      have H5 : Hid (w5.heap[b]? = _) := (kept5.block b (by omega) (fun hx => (NS.out.n5 b hx).1 rfl)).trans H4.out
      have S5 : Hid (∀ g, (g ∈ bp ∨ g ∈ br) → w5.heap[g]? = w0.heap[g]?) := fun g hg => by
        have hlt := HBL.out g (MP.out g hg)
        have hn : g ≠ b ∧ g ∉ b3 ∧ g ∉ b4 ∧ g ∉ b5 := hg.elim (NS.out.p g) (NS.out.r g)
        exact (kept5.block g (by omega) hn.2.2.2).trans (S4.out g hn.1 hlt hn.2.1 hn.2.2.1)
      have K5 : Hid (G.Kept (b :: bk) w w5) := K4.out.trans (kept5.mono fun g hg => List.mem_cons_of_mem _ (M5.out g hg))
      have HQ2 : Hid (q + cHd h + cS sub = K + cP (pre ++ [(h, sub)])) := by have := HQ.out; rw [Hid, cP_snoc]; omega
      clear own5 kept5 hv5 O3' O4 H4
      go_wp2_with fail
      have HG := SelBk.mark_step (K := K) (q := q) (h := h) (sub := sub) (by omega) HP.out.2 hcs2 HS.out HRE.out P3.out P4.out P5.out O3''.out O4'.out O5.out S5.out rfl rfl rfl HQ.out
      refine ⟨⟨n + 1, q + cHd h + cS sub, _, br, _, pre ++ [(h, sub)], rest, HN2, by go_num, ?_, ⟨by rw [app_snoc]; exact HP.out.1, by simp [HP.out.2]⟩, HZ2, HQ2, by omega, HBK2, H5, ?_, HG.1, HG.2, K5⟩, by simp [intOf]; omega⟩
      · exact val_int (by omega)
      · unfold Hid; simp only [Array.size_setIfInBounds]; exact HC.out
end Go.Proofs.YtlilfbcngncllaaGreatDoor
