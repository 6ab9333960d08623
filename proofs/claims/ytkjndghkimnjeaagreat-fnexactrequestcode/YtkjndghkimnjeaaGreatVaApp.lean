/- Appending to a list of one's own, whatever is appended; lists of names. -/
import Derived.Test.YtkjndghkimnjeaaGreatVaMath
import Derived.Test.YtkjndghkimnjeaaGreatDocTo
import Derived.Deep.Upon
import Derived.Deep.AppendLies
import Derived.Maps.RangeWalk
import Derived.Deep.CutBlock
import Derived.Deep.AppendSrc
namespace Go.Proofs.YtkjndghkimnjeaaGreat
open Go.ChangeShapes Go.WideShapes Go.ChangeAt Go.RowKit
set_option linter.unusedVariables false

/-- A selection's six cells; its lists lie in the world w0. -/
def FAt (w0 : World) (rd : Nat → Option Value) (o : Nat) (x : Hd × Sels) : Prop := HdAt 0 w0.heap.size w0 rd o x.1 ∧ ∃ a c, rd (o + 5) = some (.slice a x.2.len c) ∧ SelRow 0 w0.heap.size w0 a x.2
abbrev FRow (w0 : World) := Row (FAt w0) 6
theorem FAt.up {w0 w1 : World} {rd : Nat → Option Value} {o : Nat} {x : Hd × Sels} (h : FAt w0 rd o x) (hb : Below w0.heap.size w0 w1) : FAt w1 rd o x := by
  obtain ⟨h1, a, c, h2, h3⟩ := h
  exact ⟨(h1.keep (Below.agree hb (Nat.le_refl _))).wide (Nat.le_refl _) hb.size, a, c, h2, h3.up hb⟩
theorem FAt.cells {w0 : World} {rd : Nat → Option Value} {o : Nat} {x : Hd × Sels} (h : FAt w0 rd o x) : ∃ a1 c1 a2 c2 a3 c3, rd o = some (.int .i64 x.1.k) ∧ rd (o + 1) = some (.string x.1.al) ∧ rd (o + 2) = some (.string x.1.nm) ∧ rd (o + 3) = some (.slice a1 x.1.args.length c1) ∧ rd (o + 4) = some (.slice a2 x.1.dirs.length c2) ∧ rd (o + 5) = some (.slice a3 x.2.len c3) ∧
    ArRow 0 w0.heap.size w0 a1 x.1.args ∧ x.1.args.length ≤ c1 ∧ DiRow 0 w0.heap.size w0 a2 x.1.dirs ∧ SelRow 0 w0.heap.size w0 a3 x.2 := by
  obtain ⟨⟨h0, h1, h2, ⟨a1, c1, h3, hq, r1⟩, ⟨a2, c2, h4, r2⟩⟩, a3, c3, h5, r3⟩ := h
  exact ⟨a1, c1, a2, c2, a3, c3, h0, h1, h2, h3, h4, h5, r1, hq, r2, r3⟩
theorem FAt.of {w0 : World} {rd : Nat → Option Value} {o : Nat} {x : Hd × Sels} {a1 a2 a3 : Option Addr} {c1 c2 c3 : Nat} (h0 : rd o = some (.int .i64 x.1.k)) (h1 : rd (o + 1) = some (.string x.1.al)) (h2 : rd (o + 2) = some (.string x.1.nm)) (h3 : rd (o + 3) = some (.slice a1 x.1.args.length c1)) (h4 : rd (o + 4) = some (.slice a2 x.1.dirs.length c2)) (h5 : rd (o + 5) = some (.slice a3 x.2.len c3))
    (r1 : ArRow 0 w0.heap.size w0 a1 x.1.args) (hq : x.1.args.length ≤ c1) (r2 : DiRow 0 w0.heap.size w0 a2 x.1.dirs) (r3 : SelRow 0 w0.heap.size w0 a3 x.2) : FAt w0 rd o x :=
  ⟨⟨h0, h1, h2, ⟨a1, c1, h3, hq, r1⟩, ⟨a2, c2, h4, r2⟩⟩, a3, c3, h5, r3⟩
theorem SelPre.fat {w0 : World} : ∀ {s : Sels} {rd : Nat → Option Value} {o : Nat}, SelPre 0 w0.heap.size w0 s rd o s.len → ∀ i x, (toL s)[i]? = some x → FAt w0 rd (o + i * 6) x
  | .nil, _, _, _, i, x, hx => by simp [toL] at hx
  | .cons h sub rest, rd, o, hp, i, x, hx => by
    obtain ⟨p1, p2, p3⟩ := SelPre.head hp
    cases i with
    | zero =>
      simp only [toL, List.getElem?_cons_zero, Option.some.injEq] at hx
      subst hx
      rw [Nat.zero_mul, Nat.add_zero]
      exact ⟨p1, p2⟩
    | succ i =>
      have := SelPre.fat p3 i x (by simpa [toL] using hx)
      rwa [show o + (i + 1) * 6 = o + 6 + i * 6 by omega]
theorem SelRow.fr {w0 : World} {a : Option Addr} {s : Sels} (h : SelRow 0 w0.heap.size w0 a s) : FRow w0 0 w0.heap.size w0 a (toL s) := by
  rcases h with rfl | ⟨b, o, rfl, h1, h2, h3⟩
  · exact .inl rfl
  · exact .inr ⟨b, o, rfl, h1, h2, fun i x hx => h3.fat i x hx⟩
theorem SelRow.fr2 {w0 w : World} {a : Option Addr} {s : Sels} (h : SelRow 0 w0.heap.size w0 a s) (hb : Below w0.heap.size w0 w) : FRow w0 0 w.heap.size w a (toL s) := Row.up h.fr hb
/-- One of a list, its cells. -/
theorem FRow.cells {w0 w : World} {a : Option Addr} {f : List (Hd × Sels)} (h : FRow w0 0 w.heap.size w a f) (k : Nat) (hk : k < f.length) :
    ∃ b o a1 c1 a2 c2 a3 c3, a = some ⟨b, o, none⟩ ∧ b < w.heap.size ∧ w.cell? ⟨b, o + k * 6, none⟩ = some (.int .i64 f[k].1.k) ∧ w.cell? ⟨b, o + k * 6 + 1, none⟩ = some (.string f[k].1.al) ∧ w.cell? ⟨b, o + k * 6 + 2, none⟩ = some (.string f[k].1.nm) ∧
      w.cell? ⟨b, o + k * 6 + 3, none⟩ = some (.slice a1 f[k].1.args.length c1) ∧ w.cell? ⟨b, o + k * 6 + 4, none⟩ = some (.slice a2 f[k].1.dirs.length c2) ∧ w.cell? ⟨b, o + k * 6 + 5, none⟩ = some (.slice a3 f[k].2.len c3) ∧
      ArRow 0 w0.heap.size w0 a1 f[k].1.args ∧ f[k].1.args.length ≤ c1 ∧ DiRow 0 w0.heap.size w0 a2 f[k].1.dirs ∧ SelRow 0 w0.heap.size w0 a3 f[k].2 := by
  obtain ⟨b, o, h1, h2, h3, h4⟩ := h.at_ k hk
  obtain ⟨a1, c1, a2, c2, a3, c3, q⟩ := h4.cells
  exact ⟨b, o, a1, c1, a2, c2, a3, c3, h1, h3, q⟩
/-- The cells of a list of selections. -/
def VsOf (w0 : World) (f : List (Hd × Sels)) (vs : List Value) : Prop := vs.length = f.length * 6 ∧ (∀ u ∈ vs, u.oneCell' = true) ∧ ∀ i x, f[i]? = some x → FAt w0 (fun j => vs[j]?) (i * 6) x
theorem VsOf.nil (w0 : World) : VsOf w0 [] [] := ⟨rfl, fun u hu => by simp at hu, fun i x hx => by simp at hx⟩
theorem FAt.move {w0 : World} {rd rd' : Nat → Option Value} {o o' : Nat} {x : Hd × Sels} (h : FAt w0 rd o x) (hm : ∀ j, j < 6 → rd' (o' + j) = rd (o + j)) : FAt w0 rd' o' x := by
  obtain ⟨a1, c1, a2, c2, a3, c3, h0, h1, h2, h3, h4, h5, r1, hq, r2, r3⟩ := h.cells
  exact FAt.of ((hm 0 (by omega)).trans h0) ((hm 1 (by omega)).trans h1) ((hm 2 (by omega)).trans h2) ((hm 3 (by omega)).trans h3) ((hm 4 (by omega)).trans h4) ((hm 5 (by omega)).trans h5) r1 hq r2 r3
theorem VsOf.append {w0 : World} {f g : List (Hd × Sels)} {vs us : List Value} (h : VsOf w0 f vs) (h' : VsOf w0 g us) : VsOf w0 (f ++ g) (vs ++ us) := by
  obtain ⟨l1, o1, f1⟩ := h
  obtain ⟨l2, o2, f2⟩ := h'
  refine ⟨by rw [List.length_append, List.length_append, l1, l2, Nat.add_mul], fun u hu => ?_, fun i x hx => ?_⟩
  · rcases List.mem_append.1 hu with hu | hu
    · exact o1 u hu
    · exact o2 u hu
  · by_cases hi : i < f.length
    · rw [List.getElem?_append_left hi] at hx
      refine (f1 i x hx).move fun j hj => ?_
      show (vs ++ us)[i * 6 + j]? = vs[i * 6 + j]?
      rw [List.getElem?_append_left (by rw [l1]; omega)]
    · rw [List.getElem?_append_right (by omega)] at hx
      refine (f2 _ x hx).move fun j hj => ?_
      show (vs ++ us)[i * 6 + j]? = us[(i - f.length) * 6 + j]?
      rw [List.getElem?_append_right (by rw [l1]; omega), l1, Nat.sub_mul]
      congr 1; omega
theorem VsOf.one {w0 : World} {x : Hd × Sels} {a1 a2 a3 : Option Addr} {c1 c2 c3 : Nat} (r1 : ArRow 0 w0.heap.size w0 a1 x.1.args) (hq : x.1.args.length ≤ c1) (r2 : DiRow 0 w0.heap.size w0 a2 x.1.dirs) (r3 : SelRow 0 w0.heap.size w0 a3 x.2) :
    VsOf w0 [x] [.int .i64 x.1.k, .string x.1.al, .string x.1.nm, .slice a1 x.1.args.length c1, .slice a2 x.1.dirs.length c2, .slice a3 x.2.len c3] := by
  refine ⟨rfl, fun u hu => ?_, fun i y hy => ?_⟩
  · simp only [List.mem_cons, List.not_mem_nil, or_false] at hu
    rcases hu with rfl | rfl | rfl | rfl | rfl | rfl <;> rfl
  · cases i with
    | zero =>
      simp only [List.getElem?_cons_zero, Option.some.injEq] at hy
      subst hy
      exact FAt.of (a1 := a1) (c1 := c1) (a2 := a2) (c2 := c2) (a3 := a3) (c3 := c3) rfl rfl rfl rfl rfl rfl r1 hq r2 r3
    | succ i => simp at hy
theorem VsOf.nodes {w0 : World} {rd : Nat → Option Value} : ∀ (f : List (Hd × Sels)) (o : Nat), (∀ i x, f[i]? = some x → FAt w0 rd (o + i * 6) x) → ∃ vs, VsOf w0 f vs ∧ ∀ j u, vs[j]? = some u → rd (o + j) = some u
  | [], o, _ => ⟨[], VsOf.nil w0, fun j u h => by simp at h⟩
  | x :: f, o, h => by
    obtain ⟨vs, hv, hc⟩ := VsOf.nodes f (o + 6) fun i y hy => by
      have := h (i + 1) y (by simpa using hy)
      rwa [show o + (i + 1) * 6 = o + 6 + i * 6 by omega] at this
    have h0 := h 0 x rfl
    rw [Nat.zero_mul, Nat.add_zero] at h0
    obtain ⟨a1, c1, a2, c2, a3, c3, k0, k1, k2, k3, k4, k5, r1, hq, r2, r3⟩ := h0.cells
    refine ⟨_, VsOf.append (VsOf.one (c2 := c2) (c3 := c3) r1 hq r2 r3) hv, fun j u hj => ?_⟩
    by_cases h6 : j < 6
    · rw [List.getElem?_append_left (by simpa using h6)] at hj
      match j, h6, hj with
      | 0, _, hu => exact k0.trans hu
      | 1, _, hu => exact k1.trans hu
      | 2, _, hu => exact k2.trans hu
      | 3, _, hu => exact k3.trans hu
      | 4, _, hu => exact k4.trans hu
      | 5, _, hu => exact k5.trans hu
    · rw [List.getElem?_append_right (by simp; omega)] at hj
      have := hc _ u hj
      rw [← this]
      congr 1; simp; omega
theorem FRow.vals {w0 w : World} {a : Option Addr} {f : List (Hd × Sels)} (h : FRow w0 0 w.heap.size w a f) (h0 : 0 < f.length) : ∃ ad vs, a = some ad ∧ VsOf w0 f vs ∧ ∀ j u, vs[j]? = some u → w.cell? (ad.add j) = some u := by
  rcases h with rfl | ⟨b, o, rfl, _, h2, h3⟩
  · simp at h0
  · obtain ⟨vs, hv, hc⟩ := VsOf.nodes f o h3
    exact ⟨_, vs, rfl, hv, fun j u hj => by rw [add_plain]; exact hc j u hj⟩
/-- A list of selections in a block of its own that may grow. -/
def FOwn (w0 : World) (base : Nat) (e : TypeId) (w : World) (v : Value) (f : List (Hd × Sels)) : Prop := ∃ vs, w.ownsRow base e 6 v f.length vs ∧ VsOf w0 f vs
theorem FOwn.row {w0 w : World} {base : Nat} {e : TypeId} {v : Value} {f : List (Hd × Sels)} (h : FOwn w0 base e w v f) : ∃ a c, v = .slice a f.length c ∧ f.length ≤ c ∧ FRow w0 0 w.heap.size w a f := by
  obtain ⟨vs, hown, hl, _, hv⟩ := h
  rcases hown.2 with ⟨rfl, h0⟩ | ⟨g, cap, cur, rfl, q1, q2, q3, q4, q5, q6⟩
  · refine ⟨none, 0, by rw [h0], by omega, .inl (List.length_eq_zero_iff.1 h0)⟩
  · refine ⟨_, _, rfl, q3, .inr ⟨g, 0, rfl, Nat.zero_le _, (Array.getElem?_eq_some_iff.1 q2).1, fun i x hx => ?_⟩⟩
    have hi := (List.getElem?_eq_some_iff.1 hx).1
    refine (hv i x hx).move fun j hj => ?_
    rw [row_rd q2, ← q6, List.getElem?_take, if_pos (by omega)]
    simp
theorem owns_sameV {w w' : World} {base : Nat} {e : TypeId} {size : Nat} {v : Value} {n : Nat} {xs : List Value} (h : w.ownsRow base e size v n xs) (hs : ∀ g, v.ownBlock = some g → w'.heap[g]? = w.heap[g]?) : w'.ownsRow base e size v n xs := by
  refine ⟨h.1, ?_⟩
  rcases h.2 with h0 | ⟨g, cap, cur, rfl, q1, q2, q3⟩
  · exact .inl h0
  · exact .inr ⟨g, cap, cur, rfl, q1, (hs g rfl).trans q2, q3⟩
theorem FOwn.keep {w0 w w' : World} {base : Nat} {e : TypeId} {v : Value} {f : List (Hd × Sels)} (h : FOwn w0 base e w v f) (hs : ∀ g, v.ownBlock = some g → w'.heap[g]? = w.heap[g]?) : FOwn w0 base e w' v f := by
  obtain ⟨vs, hown, hv⟩ := h
  exact ⟨vs, owns_sameV hown hs, hv⟩
theorem FOwn.lt {w0 w : World} {base : Nat} {e : TypeId} {v : Value} {f : List (Hd × Sels)} (h : FOwn w0 base e w v f) : ∀ g, v.ownBlock = some g → base ≤ g ∧ g < w.heap.size := by
  obtain ⟨vs, hown, hv⟩ := h
  intro g hg
  rcases hown.2 with ⟨rfl, h0⟩ | ⟨g', cap, cur, rfl, q1, q2, _⟩
  · simp [Value.ownBlock] at hg
  · simp only [Value.ownBlock, Option.some.injEq] at hg
    subst hg
    exact ⟨q1, (Array.getElem?_eq_some_iff.1 q2).1⟩
theorem FOwn.up {w0 w w' : World} {base : Nat} {e : TypeId} {v : Value} {f : List (Hd × Sels)} (h : FOwn w0 base e w v f) (hb : Below w.heap.size w w') : FOwn w0 base e w' v f :=
  h.keep fun g hg => hb.block g (h.lt g hg).2
theorem FOwn.elder {w0 w1 w : World} {base : Nat} {e : TypeId} {v : Value} {f : List (Hd × Sels)} (h : FOwn w0 base e w v f) (hb : Below w0.heap.size w0 w1) : FOwn w1 base e w v f := by
  obtain ⟨vs, hown, hl, ho, hv⟩ := h
  exact ⟨vs, hown, hl, ho, fun i x hx => (hv i x hx).up hb⟩
theorem FOwn.none (w0 w : World) (base : Nat) (e : TypeId) : FOwn w0 base e w (.slice none 0 0) [] := ⟨[], ⟨rfl, .inl ⟨rfl, rfl⟩⟩, VsOf.nil w0⟩
theorem FOwn.made (w0 w : World) (e : TypeId) {base : Nat} (hb : base ≤ w.heap.size) : FOwn w0 base e (w.alloc (.cells #[] e)) (.slice (some ⟨w.heap.size, 0, Option.none⟩) 0 0) [] := ⟨[], World.ownsRow_made w #[] 0 hb (Nat.zero_le _) (by simp), VsOf.nil w0⟩
end Go.Proofs.YtkjndghkimnjeaaGreat
namespace Go.Proofs.YtkjndghkimnjeaaGreat
open Go.ChangeShapes Go.WideShapes Go.ChangeAt Go.RowKit Go.Maps
open Go.WideMaps (keyOf_string_mk)
set_option linter.unusedVariables false

/-- How many entries a map's block has. -/
def mapN (w : World) (B : Nat) : Nat := match w.heap[B]? with
  | some (.map es _) => es.size
  | _ => 0
theorem FrHeld.mapN {w0 w : World} {B : Nat} {L : List De} (h : FrHeld w0 w B L) : Go.Proofs.YtkjndghkimnjeaaGreat.mapN w B = L.length := by
  obtain ⟨D, n, ⟨es, clock, h1, F, h2, rfl⟩, _, h4, _⟩ := h
  unfold Go.Proofs.YtkjndghkimnjeaaGreat.mapN
  rw [h1, ← h4]
  exact (length_read es).symm
/-- The map's own data. -/
def FrD (w0 : World) (D : DataW Value) (L : List De) : Prop := Maps.size D = L.length ∧ (∀ s : ByteArray, Maps.has D (.string s.toList) = hasNm L s) ∧
  ∀ x ∈ L, ∃ a c, (∀ z, D.atKey (.string x.nm.toList) z = .held (deV x a c)) ∧ SelRow 0 w0.heap.size w0 a x.sels
theorem FrHeld.data {w0 w : World} {B : Nat} {L : List De} (h : FrHeld w0 w B L) : ∃ D, w.ownsMap Tryz.prog 9 heldE B L.length D ∧ FrD w0 D L := by
  obtain ⟨D, n, ⟨es, clock, h1, F, h2, rfl⟩, h3, h4, h5, h6⟩ := h
  refine ⟨_, ⟨es, clock, h1, F, ?_, rfl⟩, h4, h5, h6⟩
  omega
theorem FrD.held {w0 w : World} {B n : Nat} {D : DataW Value} {L : List De} (h : w.ownsMap Tryz.prog 9 heldE B n D) (hd : FrD w0 D L) : FrHeld w0 w B L := by
  obtain ⟨es, clock, h1, F, h2, rfl⟩ := h
  refine ⟨_, L.length, ⟨es, clock, h1, F, ?_, rfl⟩, Nat.le_refl _, hd.1, hd.2.1, hd.2.2⟩
  rw [← hd.1]
  exact Nat.le_of_eq (length_read es).symm
theorem names_filter {L : List De} (hn : (L.map fun x => x.nm.toList).Nodup) {x : De} (hx : x ∈ L) : (L.filter fun y => !(y.nm.toList == x.nm.toList)).length + 1 = L.length := by
  induction L with
  | nil => simp at hx
  | cons y L ih =>
    rw [List.map_cons, List.nodup_cons] at hn
    rcases List.mem_cons.1 hx with rfl | hx
    · rw [List.filter_cons_of_neg (by simp)]
      have : L.filter (fun y => !(y.nm.toList == x.nm.toList)) = L := by
        rw [List.filter_eq_self]
        intro z hz
        cases hc : (z.nm.toList == x.nm.toList) with
        | false => rfl
        | true => exact absurd (List.mem_map.2 ⟨z, hz, beq_iff_eq.1 hc⟩) hn.1
      rw [this, List.length_cons]
    · have hne : (y.nm.toList == x.nm.toList) = false := by
        cases hc : (y.nm.toList == x.nm.toList) with
        | false => rfl
        | true => exact absurd (List.mem_map.2 ⟨x, hx, (beq_iff_eq.1 hc).symm⟩) hn.1
      rw [List.filter_cons_of_pos (by simp [hne]), List.length_cons, List.length_cons, ← ih hn.2 hx]
theorem names_nodup {L : List De} (hn : (L.map fun x => x.nm.toList).Nodup) (p : De → Bool) : ((L.filter p).map fun x => x.nm.toList).Nodup := by
  induction L with
  | nil => exact List.nodup_nil
  | cons y L ih =>
    rw [List.map_cons, List.nodup_cons] at hn
    cases hp : p y with
    | false => rw [List.filter_cons_of_neg (by simp [hp])]; exact ih hn.2
    | true =>
      rw [List.filter_cons_of_pos hp, List.map_cons, List.nodup_cons]
      refine ⟨fun hm => hn.1 ?_, ih hn.2⟩
      obtain ⟨z, hz, e⟩ := List.mem_map.1 hm
      exact List.mem_map.2 ⟨z, (List.mem_filter.1 hz).1, e⟩
theorem frs_names (l : List De) : ((frsOf l).map fun x => x.nm.toList).Nodup := by
  refine foldl_snoc_ind (P := fun l => ((frsOf l).map fun x => x.nm.toList).Nodup) (by simp [frsOf]) ?_ l
  intro l x ih
  rw [frs_snoc]
  unfold addFr
  split
  · rename_i hc
    simp only [Bool.and_eq_true, Bool.not_eq_true'] at hc
    rw [List.map_append, List.nodup_append]
    refine ⟨ih, by simp, ?_⟩
    intro a ha b hb e
    simp only [List.map_cons, List.map_nil, List.mem_singleton] at hb
    obtain ⟨y, hy, rfl⟩ := List.mem_map.1 ha
    have : hasNm (frsOf l) x.nm = true := List.any_eq_true.2 ⟨y, hy, by rw [e, hb]; simp⟩
    rw [hc.2] at this; cases this
  · exact ih
theorem FrD.del {w0 : World} {D : DataW Value} {L : List De} (ht : Tidy D) (hd : FrD w0 D L) (hn : (L.map fun x => x.nm.toList).Nodup) {x : De} (hx : x ∈ L) : FrD w0 (D.del (.string x.nm.toList)) (L.filter fun y => !(y.nm.toList == x.nm.toList)) := by
  refine ⟨?_, fun s => ?_, fun y hy => ?_⟩
  · have h1 := size_del (k := .string x.nm.toList) ht
    have h2 : hasNm L x.nm = true := List.any_eq_true.2 ⟨x, hx, by simp⟩
    rw [hd.2.1, h2, if_pos rfl, hd.1] at h1
    have h3 := names_filter hn hx
    omega
  · by_cases hs : (x.nm.toList == s.toList) = true
    · rw [← beq_iff_eq.1 hs, has_del_same]
      unfold hasNm
      rw [Eq.comm, List.any_eq_false]
      intro y hy
      have := (List.mem_filter.1 hy).2
      rw [← beq_iff_eq.1 hs]
      simpa using this
    · have hs : (x.nm.toList == s.toList) = false := by simpa using hs
      rw [has_del_other (key_ne hs), hd.2.1]
      unfold hasNm
      rw [Bool.eq_iff_iff, List.any_eq_true, List.any_eq_true]
      constructor
      · rintro ⟨y, hy, e⟩
        refine ⟨y, List.mem_filter.2 ⟨hy, ?_⟩, e⟩
        rw [beq_iff_eq.1 e]
        cases hc : (s.toList == x.nm.toList) with
        | false => rfl
        | true => rw [beq_iff_eq.1 hc] at hs; simp at hs
      · rintro ⟨y, hy, e⟩
        exact ⟨y, (List.mem_filter.1 hy).1, e⟩
  · obtain ⟨hy1, hy2⟩ := List.mem_filter.1 hy
    obtain ⟨a, c, h5, h6⟩ := hd.2.2 y hy1
    have hne : (x.nm.toList == y.nm.toList) = false := by
      cases hc : (x.nm.toList == y.nm.toList) with
      | false => rfl
      | true => rw [beq_iff_eq.1 hc] at hy2; simp at hy2
    exact ⟨a, c, fun z => by rw [atKey_del_other (key_ne hne)]; exact h5 z, h6⟩
theorem ranges_same {w w' : World} {P : Program} {k : TypeId} {R : Value → Option (DataW Value × List MemPlace)} {b r n : Nat} {D : DataW Value} {left : Lit → Bool} {cnt : Nat} (h : w.ranges P k R b r n D left cnt) (hb : w'.heap[b]? = w.heap[b]?) (hr : w'.heap[r]? = w.heap[r]?) : w'.ranges P k R b r n D left cnt ∧ w'.rangeLeft b r = w.rangeLeft b r := by
  refine ⟨?_, by unfold World.rangeLeft; rw [hb, hr]⟩
  unfold World.ranges at h ⊢
  rw [hb, hr]
  exact h
theorem keyOf_string_inv {P : Program} {k : TypeId} (hk : P.underlying k = some .string) {key : Value} {kl : Lit} (h : keyOf P k key = some kl) : ∃ s : ByteArray, key = .string s ∧ kl = .string s.toList := by
  cases key <;> simp [keyOf, hk, mapKey] at h
  rename_i s
  obtain ⟨_, rfl⟩ := h
  exact ⟨s, rfl, by rw [ByteArray.toList_eq]⟩
theorem toList_inj {s t : ByteArray} (h : s.toList = t.toList) : s = t := by
  rw [ByteArray.toList_eq, ByteArray.toList_eq] at h
  cases s; cases t
  simp only [ByteArray.mk.injEq]
  exact Array.toList_inj.1 h
/-- One fragment more, whichever; or none is left. -/
theorem wpList_next_frs {w : World} {ops : Array Oper} {rest : List Oper} {o : Oper} {a : Act} {Q : Exit → Act → World → Prop} (hg : o.guard = none) (it : Operand) (hop : o.op = Op.next it false) (b r n : Nat) (D : DataW Value) (left : Lit → Bool) (cnt : Nat) (w0 : World) (L : List De) (hd : FrD w0 D L)
    (hit : a.eval it = .pointer (some ⟨r, 0, none⟩)) (h : w.ranges Tryz.prog 9 heldE b r n D left cnt)
    (hDone : (∀ kl, left kl = false) → wpList Tryz.prog ops Q rest (a.put o.dst (.tuple #[.bool false])) w)
    (hMore : ∀ (x : De) (a3 : Option Addr) (c3 : Nat) (w' : World) (cnt' : Nat), x ∈ L → SelRow 0 w0.heap.size w0 a3 x.sels → left (.string x.nm.toList) = true → w'.ranges Tryz.prog 9 heldE b r n D (fun z => left z && !z.sameKey (.string x.nm.toList)) cnt' → cnt' < cnt → w.grownBy w' (some r) → w'.heap.size = w.heap.size →
      (Instr.entry (.pointer (some ⟨r, 0, none⟩))).run Tryz.prog w' = .ok (.tuple #[.string x.nm, .agg #[.int .i64 x.k, .string x.nm, .string x.on, .slice a3 x.sels.len c3]]) w' → wpList Tryz.prog ops Q rest (a.put o.dst (.tuple #[.bool true, .string x.nm, .agg #[.int .i64 x.k, .string x.nm, .string x.on, .slice a3 x.sels.len c3]])) w') :
    wpList Tryz.prog ops Q (o :: rest) a w := by
  refine wpList_next_ranges (α := ByteArray) (β := Value) w hg it hop 9 law9 heldE Value.string id (fun key kl hk => ?_) (fun v y _ => ⟨v, rfl⟩) b r n D left cnt hit h (fun _ hl => hDone hl) (fun s v kl y w' cnt' hkey hlk hv hat hrg hlt hgr hsz hen => ?_)
  · obtain ⟨s, rfl, _⟩ := keyOf_string_inv Tryz.underlying9 hk
    exact ⟨s, rfl⟩
  · obtain ⟨s', e1, rfl⟩ := keyOf_string_inv Tryz.underlying9 hkey
    simp only [Value.string.injEq] at e1
    subst e1
    simp only [heldE, id, Option.some.injEq] at hv
    subst hv
    have hh : Maps.has D (.string s.toList) = true := by
      cases hc : Maps.has D (.string s.toList) with
      | true => rfl
      | false =>
        have h1 := (hat (.agg [])).symm.trans (atKey_of_not_has hc _)
        cases h1
    rw [hd.2.1] at hh
    obtain ⟨x, hx, e⟩ := List.any_eq_true.1 hh
    obtain rfl : x.nm = s := toList_inj (beq_iff_eq.1 e)
    obtain ⟨a3, c3, h5, h6⟩ := hd.2.2 x hx
    have h7 := (hat (.agg [])).symm.trans (h5 _)
    simp only [DataW.held.injEq] at h7
    subst h7
    exact hMore x a3 c3 w' cnt' hx h6 hlk hrg hlt hgr hsz hen
end Go.Proofs.YtkjndghkimnjeaaGreat
namespace Go.Proofs.YtkjndghkimnjeaaGreat
open Go.ChangeShapes Go.WideShapes Go.ChangeAt Go.RowKit
set_option linter.unusedVariables false

theorem ownsRow_as {w : World} {base : Nat} {e : TypeId} {size : Nat} {v : Value} {n : Nat} {xs : List Value} (h : w.ownsRow base e size v n xs) : ∃ a c, v = .slice a n c ∧ n ≤ c := by
  rcases h.2 with ⟨rfl, h0⟩ | ⟨g, cap, cur, rfl, _, _, h3, _⟩
  · exact ⟨none, 0, by rw [h0], by omega⟩
  · exact ⟨_, _, rfl, h3⟩
theorem grown_same (w : World) (row : Option Nat) : w.grownBy w row := ⟨rfl, rfl, rfl, Nat.le_refl _, fun _ _ _ => rfl⟩
theorem wpList_append_any {P : Program} {w : World} {ops : Array Oper} {rest : List Oper} {o : Oper} {a : Act} {Q : Exit → Act → World → Prop} (hgd : o.guard = none) (s x : Operand) (t : TypeId)
    (ho : o.op = .call { callee := .builtin .append, args := #[s, x], argTypes := #[t, t] })
    (base : Nat) (e : TypeId) (i : TypeInfo) (z : Value) (size bytes : Nat) (ht : P.underlying t = some (.slice e)) (hi : P.info? e = some i) (hz : i.zero = some z)
    (hsize : i.size = size) (hby : i.bytes = bytes) (hzs : z.cells.size = size) (hsz : 0 < size)
    (v : Value) (n : Nat) (xs : List Value) (hs : a.eval s = v) (hown : w.ownsRow base e size v n xs)
    (p : Option Addr) (m c : Nat) (news : List Value) (hx : a.eval x = .slice p m c) (hl : news.length = m * size) (hsrc : m = 0 ∨ ∃ ad, p = some ad ∧ ∀ j u, news[j]? = some u → w.cell? (ad.add j) = some u) (h1 : ∀ u ∈ news, u.oneCell' = true)
    (h63 : n + m ≤ maxLen) (hbytes : (n + m) * bytes ≤ 140737488355328) (hbase : base ≤ w.heap.size)
    (h : ∀ a' c' w', w'.ownsRow base e size (.slice a' (n + m) c') (n + m) (xs ++ news) → w.grownBy w' v.ownBlock → ((Value.slice a' (n + m) c').ownBlock = v.ownBlock ∨ (Value.slice a' (n + m) c').ownBlock = some w.heap.size) → wpList P ops Q rest (a.put o.dst (.slice a' (n + m) c')) w') : wpList P ops Q (o :: rest) a w := by
  by_cases hm : m = 0
  · subst hm
    obtain rfl : news = [] := List.length_eq_zero_iff.1 (by omega)
    obtain ⟨a1, c1, rfl, hc⟩ := ownsRow_as hown
    have hsr : Src P i.size t (.slice p 0 c) 0 [] w := by
      cases p
      · exact Src.ofNil w ht c
      · exact Src.ofSlice w ht _ 0 c [] (by simp) (by simp) (by simp)
    have hr := run_append_nothing (P := P) w t t o.type e i ht hi a1 n c1 hc _ hsr
    refine wpList_plain hgd fun K hK => ?_
    unfold Oper.wp execOp
    simp only [ho, resolve, invoke, builtin, Sem.run_bind, Sem.run_pure, Result.andThen_ok, List.map_toArray, List.map_cons, List.map_nil, hs, hx, hr]
    refine hK _ _ (h a1 c1 w (by simpa using hown) (grown_same _ _) (.inl rfl))
  · obtain ⟨ad, rfl, hn⟩ : ∃ ad, p = some ad ∧ ∀ j u, news[j]? = some u → w.cell? (ad.add j) = some u := by
      rcases hsrc with h | h
      · exact absurd h hm
      · exact h
    refine wpList_append_lies w hgd s x t ho base e i z size bytes ht hi hz hsize hby hzs hsz v n xs hs hown ad m c news hx hl hn h1 (by omega) h63 hbytes hbase w.heap.size rfl ?_
    intro g cap w' hown' hgrow hat hlt'
    exact h _ _ _ hown' hgrow (by rcases hat with h | h; exact .inl h.symm; exact .inr (by rw [h]; rfl))

/-- A list of names in a block of its own. -/
def NOwn (base : Nat) (w : World) (v : Value) (ms : List ByteArray) : Prop := w.ownsRow base 9 1 v ms.length (ms.map Value.string)
def NmAt (rd : Nat → Option Value) (o : Nat) (s : ByteArray) : Prop := rd o = some (.string s)
abbrev NRow := Row NmAt 1
theorem NOwn.none (w : World) (base : Nat) : NOwn base w (.slice none 0 0) [] := ⟨rfl, .inl ⟨rfl, rfl⟩⟩
theorem NOwn.made (w : World) {base : Nat} (hb : base ≤ w.heap.size) : NOwn base (w.alloc (.cells #[] 9)) (.slice (some ⟨w.heap.size, 0, Option.none⟩) 0 0) [] := World.ownsRow_made w #[] 0 hb (Nat.zero_le _) (by simp)
theorem NOwn.row {w : World} {base : Nat} {v : Value} {ms : List ByteArray} (h : NOwn base w v ms) : ∃ a c, v = .slice a ms.length c ∧ ms.length ≤ c ∧ NRow 0 w.heap.size w a ms := by
  rcases h.2 with ⟨rfl, h0⟩ | ⟨g, cap, cur, rfl, q1, q2, q3, q4, q5, q6⟩
  · refine ⟨Option.none, 0, by rw [h0], by omega, .inl (List.length_eq_zero_iff.1 h0)⟩
  · refine ⟨_, _, rfl, q3, .inr ⟨g, 0, rfl, Nat.zero_le _, (Array.getElem?_eq_some_iff.1 q2).1, fun i x hx => ?_⟩⟩
    have hi := (List.getElem?_eq_some_iff.1 hx).1
    show rdOf _ _ (0 + i * 1) = _
    have : (ms.map Value.string)[i]? = some (.string x) := by rw [List.getElem?_map, hx]; rfl
    rw [← q6, List.getElem?_take, if_pos (by omega)] at this
    rw [row_rd q2, ← this]
    simp
theorem NOwn.keep {w w' : World} {base : Nat} {v : Value} {ms : List ByteArray} (h : NOwn base w v ms) (hs : ∀ g, v.ownBlock = some g → w'.heap[g]? = w.heap[g]?) : NOwn base w' v ms := owns_sameV h hs
theorem NOwn.lt {w : World} {base : Nat} {v : Value} {ms : List ByteArray} (h : NOwn base w v ms) : ∀ g, v.ownBlock = some g → base ≤ g ∧ g < w.heap.size := World.ownsRow.lt h
theorem NOwn.up {w w' : World} {base : Nat} {v : Value} {ms : List ByteArray} (h : NOwn base w v ms) (hb : Below w.heap.size w w') : NOwn base w' v ms := h.keep fun g hg => hb.block g (h.lt g hg).2
theorem NOwn.wide {w : World} {base base' : Nat} {v : Value} {ms : List ByteArray} (h : NOwn base w v ms) (hb : base' ≤ base) : NOwn base' w v ms := by
  refine ⟨h.1, ?_⟩
  rcases h.2 with h0 | ⟨g, cap, cur, h1, h2, h3⟩
  · exact .inl h0
  · exact .inr ⟨g, cap, cur, h1, by omega, h3⟩
theorem NRow.at_ {w : World} {a : Option Addr} {ms : List ByteArray} (h : NRow 0 w.heap.size w a ms) (k : Nat) (hk : k < ms.length) : ∃ b o, a = some ⟨b, o, none⟩ ∧ b < w.heap.size ∧ w.cell? ⟨b, o + k, none⟩ = some (.string ms[k]) := by
  obtain ⟨b, o, h1, _, h3, h4⟩ := Row.at_ h k hk
  exact ⟨b, o, h1, h3, by have h4 : w.cell? ⟨b, o + k * 1, none⟩ = _ := h4; rwa [Nat.mul_one] at h4⟩
theorem NRow.src {w : World} {a : Option Addr} {ms : List ByteArray} (h : NRow 0 w.heap.size w a ms) : ms.length = 0 ∨ ∃ ad, a = some ad ∧ ∀ j u, (ms.map Value.string)[j]? = some u → w.cell? (ad.add j) = some u := by
  rcases h with rfl | ⟨b, o, rfl, _, h2, h3⟩
  · exact .inl rfl
  · refine .inr ⟨_, rfl, fun j u hj => ?_⟩
    rw [List.getElem?_map] at hj
    cases hx : ms[j]? with
    | none => rw [hx] at hj; cases hj
    | some s =>
      rw [hx] at hj
      cases hj
      have := h3 j s hx
      rw [add_plain]
      have h4 : w.cell? ⟨b, o + j * 1, none⟩ = some (.string s) := this
      rwa [Nat.mul_one] at h4
theorem names_cells (ms : List ByteArray) : ∀ u ∈ ms.map Value.string, u.oneCell' = true := by
  intro u hu
  obtain ⟨s, _, rfl⟩ := List.mem_map.1 hu
  rfl
theorem info_strN : ∃ i, Tryz.prog.info? 9 = some i ∧ i.zero = some (.string ⟨#[]⟩) ∧ i.size = 1 ∧ i.bytes = 16 := by
  exact info_parts (by kernel_rfl)
/-- Names appended to a list of one's own. -/
theorem wpList_append_names {w : World} {ops : Array Oper} {rest : List Oper} {o : Oper} {a : Act} {Q : Exit → Act → World → Prop} (hgd : o.guard = none) (s x : Operand)
    (ho : o.op = .call { callee := .builtin .append, args := #[s, x], argTypes := #[123, 123] })
    (base : Nat) (v : Value) (ms ns : List ByteArray) (hs : a.eval s = v) (hown : NOwn base w v ms) (p : Option Addr) (c : Nat) (hx : a.eval x = .slice p ns.length c) (hr : NRow 0 w.heap.size w p ns)
    (h63 : ms.length + ns.length ≤ 1048576) (hbase : base ≤ w.heap.size)
    (h : ∀ a' c' w', NOwn base w' (.slice a' (ms.length + ns.length) c') (ms ++ ns) → w.grownBy w' v.ownBlock → ((Value.slice a' (ms.length + ns.length) c').ownBlock = v.ownBlock ∨ (Value.slice a' (ms.length + ns.length) c').ownBlock = some w.heap.size) → wpList Tryz.prog ops Q rest (a.put o.dst (.slice a' (ms.length + ns.length) c')) w') : wpList Tryz.prog ops Q (o :: rest) a w := by
  obtain ⟨i, hi, hz, hsz, hby⟩ := info_strN
  refine wpList_append_any hgd s x 123 ho base 9 i _ 1 16 Tryz.underlying123 hi hz hsz hby rfl (by decide) v ms.length _ hs hown p ns.length c (ns.map Value.string) hx (by simp) hr.src (names_cells _) (by unfold maxLen; omega) (by omega) hbase ?_
  intro a' c' w' ho' hg hat
  refine h a' c' w' ?_ hg hat
  unfold NOwn
  rw [List.length_append, List.map_append]
  exact ho'
theorem one_name (w : World) (s : ByteArray) : NRow 0 (w.alloc (.cells #[.string s] 9)).heap.size (w.alloc (.cells #[.string s] 9)) (some ⟨w.heap.size, 0, none⟩) [s] := by
  refine .inr ⟨w.heap.size, 0, rfl, Nat.zero_le _, by simp, fun i x hx => ?_⟩
  cases i with
  | zero =>
    simp only [List.getElem?_cons_zero, Option.some.injEq] at hx
    subst hx
    exact row_cell (heap_alloc_new _ _) 0
  | succ i => simp at hx
theorem info_selV : ∃ i, Tryz.prog.info? 115 = some i ∧ i.zero = some (.agg #[.int .i64 0, .string ⟨#[]⟩, .string ⟨#[]⟩, .slice none 0 0, .slice none 0 0, .slice none 0 0]) ∧ i.size = 6 ∧ i.bytes = 112 := by
  exact info_parts (by kernel_rfl)
/-- Selections appended to a list of one's own. -/
theorem wpList_append_sels {w0 w : World} {ops : Array Oper} {rest : List Oper} {o : Oper} {a : Act} {Q : Exit → Act → World → Prop} (hgd : o.guard = none) (s x : Operand)
    (ho : o.op = .call { callee := .builtin .append, args := #[s, x], argTypes := #[76, 76] })
    (base : Nat) (v : Value) (f g : List (Hd × Sels)) (hs : a.eval s = v) (hown : FOwn w0 base 115 w v f) (p : Option Addr) (c : Nat) (hx : a.eval x = .slice p g.length c) (hr : FRow w0 0 w.heap.size w p g)
    (h63 : f.length + g.length ≤ 1048576) (hbase : base ≤ w.heap.size)
    (h : ∀ a' c' w', FOwn w0 base 115 w' (.slice a' (f.length + g.length) c') (f ++ g) → w.grownBy w' v.ownBlock → ((Value.slice a' (f.length + g.length) c').ownBlock = v.ownBlock ∨ (Value.slice a' (f.length + g.length) c').ownBlock = some w.heap.size) → wpList Tryz.prog ops Q rest (a.put o.dst (.slice a' (f.length + g.length) c')) w') : wpList Tryz.prog ops Q (o :: rest) a w := by
  obtain ⟨i, hi, hz, hsz, hby⟩ := info_selV
  obtain ⟨vs, hown, hv⟩ := hown
  obtain ⟨us, hu, hsrc⟩ : ∃ us, VsOf w0 g us ∧ (g.length = 0 ∨ ∃ ad, p = some ad ∧ ∀ j u, us[j]? = some u → w.cell? (ad.add j) = some u) := by
    by_cases h0 : 0 < g.length
    · obtain ⟨ad, us, h1, h2, h3⟩ := FRow.vals hr h0
      exact ⟨us, h2, .inr ⟨ad, h1, h3⟩⟩
    · obtain rfl : g = [] := List.length_eq_zero_iff.1 (by omega)
      exact ⟨[], VsOf.nil w0, .inl rfl⟩
  refine wpList_append_any hgd s x 76 ho base 115 i _ 6 112 Tryz.underlying76 hi hz hsz hby rfl (by decide) v f.length _ hs hown p g.length c us hx hu.1 hsrc hu.2.1 (by unfold maxLen; omega) (by omega) hbase ?_
  intro a' c' w' ho' hg hat
  refine h a' c' w' ⟨vs ++ us, ?_, hv.append hu⟩ hg hat
  rw [List.length_append]
  exact ho'
theorem wp_append_anyO {P : Program} {w : World} {o : Oper} {a : Act} {K : Act → World → Prop} {Q : Exit → Act → World → Prop} (s x : Operand) (t : TypeId)
    (ho : o.op = .call { callee := .builtin .append, args := #[s, x], argTypes := #[t, t] })
    (base : Nat) (e : TypeId) (i : TypeInfo) (z : Value) (size bytes : Nat) (ht : P.underlying t = some (.slice e)) (hi : P.info? e = some i) (hz : i.zero = some z)
    (hsize : i.size = size) (hby : i.bytes = bytes) (hzs : z.cells.size = size) (hsz : 0 < size)
    (v : Value) (n : Nat) (xs : List Value) (hs : a.eval s = v) (hown : w.ownsRow base e size v n xs)
    (p : Option Addr) (m c : Nat) (news : List Value) (hx : a.eval x = .slice p m c) (hl : news.length = m * size) (hsrc : m = 0 ∨ ∃ ad, p = some ad ∧ ∀ j u, news[j]? = some u → w.cell? (ad.add j) = some u) (h1 : ∀ u ∈ news, u.oneCell' = true)
    (h63 : n + m ≤ maxLen) (hbytes : (n + m) * bytes ≤ 140737488355328) (hbase : base ≤ w.heap.size)
    (h : ∀ a' c' w', w'.ownsRow base e size (.slice a' (n + m) c') (n + m) (xs ++ news) → w.grownBy w' v.ownBlock → ((Value.slice a' (n + m) c').ownBlock = v.ownBlock ∨ (Value.slice a' (n + m) c').ownBlock = some w.heap.size) → K (a.put o.dst (.slice a' (n + m) c')) w') : o.wp P a w K Q := by
  by_cases hm : m = 0
  · subst hm
    obtain rfl : news = [] := List.length_eq_zero_iff.1 (by omega)
    obtain ⟨a1, c1, rfl, hc⟩ := ownsRow_as hown
    have hsr : Src P i.size t (.slice p 0 c) 0 [] w := by
      cases p
      · exact Src.ofNil w ht c
      · exact Src.ofSlice w ht _ 0 c [] (by simp) (by simp) (by simp)
    have hr := run_append_nothing (P := P) w t t o.type e i ht hi a1 n c1 hc _ hsr
    unfold Oper.wp execOp
    simp only [ho, resolve, invoke, builtin, Sem.run_bind, Sem.run_pure, Result.andThen_ok, List.map_toArray, List.map_cons, List.map_nil, hs, hx, hr]
    exact h a1 c1 w (by simpa using hown) (grown_same _ _) (.inl rfl)
  · obtain ⟨ad, rfl, hn⟩ : ∃ ad, p = some ad ∧ ∀ j u, news[j]? = some u → w.cell? (ad.add j) = some u := by
      rcases hsrc with h | h
      · exact absurd h hm
      · exact h
    refine wp_append_lies w s x t ho base e i z size bytes ht hi hz hsize hby hzs hsz v n xs hs hown ad m c news hx hl hn h1 (by omega) h63 hbytes hbase w.heap.size rfl ?_
    intro g cap w' hown' hgrow hat hlt'
    exact h _ _ _ hown' hgrow (by rcases hat with h | h; exact .inl h.symm; exact .inr (by rw [h]; rfl))
theorem wp_append_selsO {w0 w : World} {o : Oper} {a : Act} {K : Act → World → Prop} {Q : Exit → Act → World → Prop} (s x : Operand)
    (ho : o.op = .call { callee := .builtin .append, args := #[s, x], argTypes := #[76, 76] })
    (base : Nat) (v : Value) (f g : List (Hd × Sels)) (hs : a.eval s = v) (hown : FOwn w0 base 115 w v f) (p : Option Addr) (c : Nat) (hx : a.eval x = .slice p g.length c) (hr : FRow w0 0 w.heap.size w p g)
    (h63 : f.length + g.length ≤ 1048576) (hbase : base ≤ w.heap.size)
    (h : ∀ a' c' w', FOwn w0 base 115 w' (.slice a' (f.length + g.length) c') (f ++ g) → w.grownBy w' v.ownBlock → K (a.put o.dst (.slice a' (f.length + g.length) c')) w') : o.wp Tryz.prog a w K Q := by
  obtain ⟨i, hi, hz, hsz, hby⟩ := info_selV
  obtain ⟨vs, hown, hv⟩ := hown
  obtain ⟨us, hu, hsrc⟩ : ∃ us, VsOf w0 g us ∧ (g.length = 0 ∨ ∃ ad, p = some ad ∧ ∀ j u, us[j]? = some u → w.cell? (ad.add j) = some u) := by
    by_cases h0 : 0 < g.length
    · obtain ⟨ad, us, h1, h2, h3⟩ := FRow.vals hr h0
      exact ⟨us, h2, .inr ⟨ad, h1, h3⟩⟩
    · obtain rfl : g = [] := List.length_eq_zero_iff.1 (by omega)
      exact ⟨[], VsOf.nil w0, .inl rfl⟩
  refine wp_append_anyO s x 76 ho base 115 i _ 6 112 Tryz.underlying76 hi hz hsz hby rfl (by decide) v f.length _ hs hown p g.length c us hx hu.1 hsrc hu.2.1 (by unfold maxLen; omega) (by omega) hbase ?_
  intro a' c' w' ho' hg _
  refine h a' c' w' ⟨vs ++ us, ?_, hv.append hu⟩ hg
  rw [List.length_append]
  exact ho'
theorem one_sel {w0 : World} (w : World) (x : Hd × Sels) {a1 a2 a3 : Option Addr} {c1 c2 c3 : Nat} (r1 : ArRow 0 w0.heap.size w0 a1 x.1.args) (hq : x.1.args.length ≤ c1) (r2 : DiRow 0 w0.heap.size w0 a2 x.1.dirs) (r3 : SelRow 0 w0.heap.size w0 a3 x.2) :
    FRow w0 0 (w.alloc (.cells #[.int .i64 x.1.k, .string x.1.al, .string x.1.nm, .slice a1 x.1.args.length c1, .slice a2 x.1.dirs.length c2, .slice a3 x.2.len c3] 115)).heap.size (w.alloc (.cells #[.int .i64 x.1.k, .string x.1.al, .string x.1.nm, .slice a1 x.1.args.length c1, .slice a2 x.1.dirs.length c2, .slice a3 x.2.len c3] 115)) (some ⟨w.heap.size, 0, none⟩) [x] := by
  refine .inr ⟨w.heap.size, 0, rfl, Nat.zero_le _, by simp, fun i y hy => ?_⟩
  cases i with
  | zero =>
    simp only [List.getElem?_cons_zero, Option.some.injEq] at hy
    subst hy
    have q := fun o => row_cell (heap_alloc_new w (.cells #[.int .i64 x.1.k, .string x.1.al, .string x.1.nm, .slice a1 x.1.args.length c1, .slice a2 x.1.dirs.length c2, .slice a3 x.2.len c3] 115)) o
    exact FAt.of (a1 := a1) (c1 := c1) (a2 := a2) (c2 := c2) (a3 := a3) (c3 := c3) (q 0) (q 1) (q 2) (q 3) (q 4) (q 5) r1 hq r2 r3
  | succ i => simp at hy
end Go.Proofs.YtkjndghkimnjeaaGreat
