/- Those that are done, as data, and how they lie in memory. -/
import Derived.Test.YtgnonbghgcpnoaaDoorRqOwn
namespace Go.Proofs.YtgnonbghgcpnoaaDoor
open Go.ChangeShapes Go.WideShapes Go.ChangeAt Go.RowKit
set_option linter.unusedVariables false

structure Dn where
  id : Int
  code : Int
  ts : Int
  since : Int
  wr : Bool
  defs : List De
  vars : List Ar
  t : ByteArray
def DnAt (lo hi : Nat) (w : World) (rd : Nat → Option Value) (o : Nat) (x : Dn) : Prop := ∃ a c b d, rd o = some (.int .i64 x.id) ∧ rd (o + 1) = some (.int .i64 x.code) ∧ rd (o + 2) = some (.int .i64 x.ts) ∧ rd (o + 3) = some (.int .i64 x.since) ∧ rd (o + 4) = some (.bool x.wr) ∧ rd (o + 5) = some (.slice a x.defs.length c) ∧ rd (o + 6) = some (.slice b x.vars.length d) ∧ rd (o + 7) = some (.string x.t) ∧ DeRow lo hi w a x.defs ∧ ArRow lo hi w b x.vars
def DnRow (lo hi : Nat) (w : World) (a : Option Addr) (l : List Dn) : Prop := Row (DnAt lo hi w) 8 lo hi w a l
theorem DnAt.keep {lo hi : Nat} {w w' : World} {rd : Nat → Option Value} {o : Nat} {x : Dn} (h : DnAt lo hi w rd o x) (hk : Agree lo hi w w') : DnAt lo hi w' rd o x := by
  obtain ⟨a, c, b, d, c0, c1, c2, c3, c4, c5, c6, c7, h1, h2⟩ := h
  exact ⟨a, c, b, d, c0, c1, c2, c3, c4, c5, c6, c7, h1.keep hk, Row.keep h2 hk⟩
theorem DnAt.wide {lo hi lo' hi' : Nat} {w : World} {rd : Nat → Option Value} {o : Nat} {x : Dn} (h : DnAt lo hi w rd o x) (e1 : lo' ≤ lo) (e2 : hi ≤ hi') : DnAt lo' hi' w rd o x := by
  obtain ⟨a, c, b, d, c0, c1, c2, c3, c4, c5, c6, c7, h1, h2⟩ := h
  exact ⟨a, c, b, d, c0, c1, c2, c3, c4, c5, c6, c7, h1.wide e1 e2, Row.wide h2 e1 e2⟩
theorem DnRow.keep {lo hi : Nat} {w w' : World} {a : Option Addr} {l : List Dn} (h : DnRow lo hi w a l) (hk : Agree lo hi w w') : DnRow lo hi w' a l := by
  rcases h with h | ⟨b, o, rfl, h1, h2, h3⟩
  · exact .inl h
  · exact .inr ⟨b, o, rfl, h1, h2, fun i x hx => by rw [hk.rd h1 h2]; exact (h3 i x hx).keep hk⟩
theorem DnRow.wide {lo hi lo' hi' : Nat} {w : World} {a : Option Addr} {l : List Dn} (h : DnRow lo hi w a l) (e1 : lo' ≤ lo) (e2 : hi ≤ hi') : DnRow lo' hi' w a l := by
  rcases h with h | ⟨b, o, rfl, h1, h2, h3⟩
  · exact .inl h
  · exact .inr ⟨b, o, rfl, by omega, by omega, fun i x hx => (h3 i x hx).wide e1 e2⟩
theorem DnRow.up {w w' : World} {a : Option Addr} {l : List Dn} (h : DnRow 0 w.heap.size w a l) (hb : Below w.heap.size w w') : DnRow 0 w'.heap.size w' a l :=
  (h.keep (Below.agree hb (Nat.le_refl _))).wide (Nat.le_refl _) hb.size
theorem DnRow.cells {lo hi : Nat} {w : World} {a0 : Option Addr} {l : List Dn} (h : DnRow lo hi w a0 l) (k : Nat) (hk : k < l.length) :
    ∃ g o a c b d, a0 = some ⟨g, o, none⟩ ∧ lo ≤ g ∧ g < hi ∧ w.cell? ⟨g, o + k * 8, none⟩ = some (.int .i64 l[k].id) ∧ w.cell? ⟨g, o + k * 8 + 1, none⟩ = some (.int .i64 l[k].code) ∧ w.cell? ⟨g, o + k * 8 + 2, none⟩ = some (.int .i64 l[k].ts) ∧ w.cell? ⟨g, o + k * 8 + 3, none⟩ = some (.int .i64 l[k].since) ∧ w.cell? ⟨g, o + k * 8 + 4, none⟩ = some (.bool l[k].wr) ∧ w.cell? ⟨g, o + k * 8 + 5, none⟩ = some (.slice a l[k].defs.length c) ∧ w.cell? ⟨g, o + k * 8 + 6, none⟩ = some (.slice b l[k].vars.length d) ∧ w.cell? ⟨g, o + k * 8 + 7, none⟩ = some (.string l[k].t) ∧ DeRow lo hi w a l[k].defs ∧ ArRow lo hi w b l[k].vars := by
  obtain ⟨g, o, h1, h2, h3, a, c, b, d, h4⟩ := Row.at_ h k hk
  exact ⟨g, o, a, c, b, d, h1, h2, h3, h4⟩

/-- Bounds: of what comes in; of what is not too great. -/
def DnB0 (x : Dn) : Prop := RqBd maxLen x.defs x.vars ∧ x.t.size ≤ maxLen
def DnBd (x : Dn) : Prop := RqSm x.defs x.vars ∧ x.t.size ≤ 1048576
def DnsBd (l : List Dn) : Prop := l.length ≤ 1048576 ∧ ∀ x ∈ l, DnBd x

/-- One that is done, in a block's cells from a place on; its request's lists are its own. -/
def DnOne (w : World) (x : Dn) (cs : Array Value) (o lo hi : Nat) : Prop := ∃ a c b d, cs[o]? = some (.int .i64 x.id) ∧ cs[o + 1]? = some (.int .i64 x.code) ∧ cs[o + 2]? = some (.int .i64 x.ts) ∧ cs[o + 3]? = some (.int .i64 x.since) ∧ cs[o + 4]? = some (.bool x.wr) ∧ cs[o + 5]? = some (.slice a x.defs.length c) ∧ cs[o + 6]? = some (.slice b x.vars.length d) ∧ cs[o + 7]? = some (.string x.t) ∧ RqOwn lo hi w a b x.defs x.vars
def DnSeq (w : World) : List Dn → Array Value → Nat → Nat → Nat → Prop
  | [], _, _, lo, hi => lo ≤ hi
  | x :: r, cs, o, lo, hi => ∃ m, DnOne w x cs o lo m ∧ DnSeq w r cs (o + 8) m hi
def DnOwn (lo hi : Nat) (w : World) (a : Option Addr) (l : List Dn) : Prop :=
  l = [] ∨ ∃ b ds, a = some ⟨b, 0, none⟩ ∧ lo ≤ b ∧ b < hi ∧ w.heap[b]? = some (.cells ds 54 (0, 0)) ∧ l.length * 8 ≤ ds.size ∧ DnSeq w l ds 0 (b + 1) hi
theorem DnOne.le {w : World} {x : Dn} {cs : Array Value} {o lo hi : Nat} (H : DnOne w x cs o lo hi) : lo ≤ hi := by
  obtain ⟨a, c, b, d, _, _, _, _, _, _, _, _, q⟩ := H; exact q.le
theorem DnOne.keep {w w' : World} {x : Dn} {cs : Array Value} {o lo hi : Nat} (H : DnOne w x cs o lo hi) (hk : Agree lo hi w w') : DnOne w' x cs o lo hi := by
  obtain ⟨a, c, b, d, c0, c1, c2, c3, c4, c5, c6, c7, q⟩ := H
  exact ⟨a, c, b, d, c0, c1, c2, c3, c4, c5, c6, c7, q.keep hk⟩
theorem DnSeq.le {w : World} : ∀ {l : List Dn} {cs : Array Value} {o lo hi : Nat}, DnSeq w l cs o lo hi → lo ≤ hi
  | [], _, _, _, _, h => h
  | x :: r, cs, o, lo, hi, H => by
    obtain ⟨m, p, pr⟩ := H
    have := DnSeq.le pr
    have := p.le
    omega
theorem DnSeq.keep {w w' : World} : ∀ {l : List Dn} {cs : Array Value} {o lo hi : Nat}, DnSeq w l cs o lo hi → Agree lo hi w w' → DnSeq w' l cs o lo hi
  | [], _, _, _, _, h, _ => h
  | x :: r, cs, o, lo, hi, H, hk => by
    obtain ⟨m, p, pr⟩ := H
    have hm := DnSeq.le pr
    have hp := p.le
    exact ⟨m, p.keep fun g h1 h2 => hk g (by omega) (by omega), DnSeq.keep pr fun g h1 h2 => hk g (by omega) (by omega)⟩
theorem DnSeq.widen {w : World} : ∀ {l : List Dn} {cs : Array Value} {o lo hi hi' : Nat}, DnSeq w l cs o lo hi → hi ≤ hi' → DnSeq w l cs o lo hi'
  | [], _, _, _, _, _, h, e => Nat.le_trans h e
  | x :: r, cs, o, lo, hi, hi', H, e => by
    obtain ⟨m, p, pr⟩ := H
    exact ⟨m, p, DnSeq.widen pr e⟩
theorem DnOwn.keep {lo hi : Nat} {w w' : World} {a : Option Addr} {l : List Dn} (h : DnOwn lo hi w a l) (hk : Agree lo hi w w') : DnOwn lo hi w' a l := by
  rcases h with h | ⟨b, ds, rfl, f1, f2, f3, f4, f5⟩
  · exact .inl h
  · exact .inr ⟨b, ds, rfl, f1, f2, (hk b (by omega) (by omega)).trans f3, f4, DnSeq.keep f5 fun g h1 h2 => hk g (by omega) (by omega)⟩
theorem DnOwn.wide {lo hi lo' hi' : Nat} {w : World} {a : Option Addr} {l : List Dn} (h : DnOwn lo hi w a l) (e1 : lo' ≤ lo) (e2 : hi ≤ hi') : DnOwn lo' hi' w a l := by
  rcases h with h | ⟨b, ds, rfl, f1, f2, f3, f4, f5⟩
  · exact .inl h
  · exact .inr ⟨b, ds, rfl, by omega, by omega, f3, f4, DnSeq.widen f5 e2⟩
theorem DnOne.cells {w : World} {x : Dn} {cs cs' : Array Value} {o lo hi : Nat} (H : DnOne w x cs o lo hi) (hc : ∀ j, o ≤ j → j < o + 8 → cs'[j]? = cs[j]?) : DnOne w x cs' o lo hi := by
  obtain ⟨a, c, b, d, c0, c1, c2, c3, c4, c5, c6, c7, q⟩ := H
  exact ⟨a, c, b, d, (hc _ (by omega) (by omega)).trans c0, (hc _ (by omega) (by omega)).trans c1, (hc _ (by omega) (by omega)).trans c2, (hc _ (by omega) (by omega)).trans c3, (hc _ (by omega) (by omega)).trans c4, (hc _ (by omega) (by omega)).trans c5, (hc _ (by omega) (by omega)).trans c6, (hc _ (by omega) (by omega)).trans c7, q⟩
theorem DnSeq.cells {w : World} {cs cs' : Array Value} : ∀ {l : List Dn} {o lo hi : Nat}, DnSeq w l cs o lo hi → (∀ j, o ≤ j → j < o + 8 * l.length → cs'[j]? = cs[j]?) → DnSeq w l cs' o lo hi
  | [], _, _, _, h, _ => h
  | x :: r, o, lo, hi, H, hc => by
    obtain ⟨m, p, pr⟩ := H
    simp only [List.length_cons] at hc
    exact ⟨m, p.cells fun j h1 h2 => hc j (by omega) (by omega), DnSeq.cells pr fun j h1 h2 => hc j (by omega) (by omega)⟩
theorem DnSeq.at_ {w : World} {cs : Array Value} : ∀ {l : List Dn} {o p m : Nat}, DnSeq w l cs o p m → ∀ i x, l[i]? = some x → ∃ p' m', p ≤ p' ∧ m' ≤ m ∧ DnOne w x cs (o + i * 8) p' m'
  | [], _, _, _, _, i, x, hx => by simp at hx
  | y :: r, o, p, m, H, 0, x, hx => by
    obtain ⟨m', q, pr⟩ := H
    simp only [List.getElem?_cons_zero, Option.some.injEq] at hx
    subst hx
    exact ⟨p, m', Nat.le_refl _, DnSeq.le pr, by simpa using q⟩
  | y :: r, o, p, m, H, i + 1, x, hx => by
    obtain ⟨m', q, pr⟩ := H
    obtain ⟨p2, m2, f1, f2, f3⟩ := DnSeq.at_ pr i x (by simpa using hx)
    have := q.le
    exact ⟨p2, m2, by omega, f2, by rw [show o + (i + 1) * 8 = o + 8 + i * 8 by omega]; exact f3⟩
theorem DnOwn.row {lo hi : Nat} {w : World} {a : Option Addr} {l : List Dn} (h : DnOwn lo hi w a l) : DnRow lo hi w a l := by
  rcases h with h | ⟨g, ds, rfl, f1, f2, f3, f4, f5⟩
  · exact .inl h
  · refine .inr ⟨g, 0, rfl, f1, f2, fun i x hx => ?_⟩
    obtain ⟨p, m, e1, e2, a, c, b, d, c0, c1, c2, c3, c4, c5, c6, c7, q⟩ := DnSeq.at_ f5 i x hx
    rw [row_rd f3]
    exact ⟨a, c, b, d, c0, c1, c2, c3, c4, c5, c6, c7, DeRow.wide q.rows.1 (by omega) (by omega), Row.wide q.rows.2 (by omega) (by omega)⟩
theorem DnSeq.snoc {w : World} {cs : Array Value} {x : Dn} : ∀ {l : List Dn} {o lo m hi : Nat}, DnSeq w l cs o lo m → DnOne w x cs (o + 8 * l.length) m hi → DnSeq w (l ++ [x]) cs o lo hi
  | [], o, lo, m, hi, H, R => by
    have H : lo ≤ m := H
    obtain ⟨a, c, b, d, c0, c1, c2, c3, c4, c5, c6, c7, q⟩ := R
    simp only [List.length_nil, Nat.mul_zero, Nat.add_zero] at c0 c1 c2 c3 c4 c5 c6 c7
    exact ⟨hi, ⟨a, c, b, d, c0, c1, c2, c3, c4, c5, c6, c7, q.wide H⟩, Nat.le_refl hi⟩
  | y :: r, o, lo, m, hi, H, R => by
    obtain ⟨m', p, pr⟩ := H
    refine ⟨m', p, DnSeq.snoc pr ?_⟩
    rw [show o + 8 + 8 * r.length = o + 8 * (y :: r).length by simp only [List.length_cons]; omega]
    exact R
def put8 (cs : Array Value) (k : Nat) (v0 v1 v2 v3 v4 v5 v6 v7 : Value) : Array Value := (((((((cs.setIfInBounds k v0).setIfInBounds (k + 1) v1).setIfInBounds (k + 2) v2).setIfInBounds (k + 3) v3).setIfInBounds (k + 4) v4).setIfInBounds (k + 5) v5).setIfInBounds (k + 6) v6).setIfInBounds (k + 7) v7
theorem put8_size (cs : Array Value) (k : Nat) (v0 v1 v2 v3 v4 v5 v6 v7 : Value) : (put8 cs k v0 v1 v2 v3 v4 v5 v6 v7).size = cs.size := by simp [put8]
theorem put8_at {cs : Array Value} {k : Nat} {v0 v1 v2 v3 v4 v5 v6 v7 : Value} (h : k + 7 < cs.size) : (put8 cs k v0 v1 v2 v3 v4 v5 v6 v7)[k]? = some v0 ∧ (put8 cs k v0 v1 v2 v3 v4 v5 v6 v7)[k + 1]? = some v1 ∧ (put8 cs k v0 v1 v2 v3 v4 v5 v6 v7)[k + 2]? = some v2 ∧ (put8 cs k v0 v1 v2 v3 v4 v5 v6 v7)[k + 3]? = some v3 ∧ (put8 cs k v0 v1 v2 v3 v4 v5 v6 v7)[k + 4]? = some v4 ∧ (put8 cs k v0 v1 v2 v3 v4 v5 v6 v7)[k + 5]? = some v5 ∧ (put8 cs k v0 v1 v2 v3 v4 v5 v6 v7)[k + 6]? = some v6 ∧ (put8 cs k v0 v1 v2 v3 v4 v5 v6 v7)[k + 7]? = some v7 := by
  unfold put8
  refine ⟨?_, ?_, ?_, ?_, ?_, ?_, ?_, ?_⟩ <;> simp [Array.getElem?_setIfInBounds] <;> omega
theorem put8_ne {cs : Array Value} {k : Nat} {v0 v1 v2 v3 v4 v5 v6 v7 : Value} {j : Nat} (h : j < k ∨ k + 8 ≤ j) : (put8 cs k v0 v1 v2 v3 v4 v5 v6 v7)[j]? = cs[j]? := by
  unfold put8
  rw [Array.getElem?_setIfInBounds_ne (by omega), Array.getElem?_setIfInBounds_ne (by omega), Array.getElem?_setIfInBounds_ne (by omega), Array.getElem?_setIfInBounds_ne (by omega), Array.getElem?_setIfInBounds_ne (by omega), Array.getElem?_setIfInBounds_ne (by omega), Array.getElem?_setIfInBounds_ne (by omega), Array.getElem?_setIfInBounds_ne (by omega)]
section
variable {H : Type} {enc : TypeId × Value → H} {W : World}
theorem eight {α : Type} {l : List α} (h : l.length = 8) : ∃ a b c d e f g i, l = [a, b, c, d, e, f, g, i] := by
  match l, h with
  | [a, b, c, d, e, f, g, i], _ => exact ⟨a, b, c, d, e, f, g, i, rfl⟩
theorem seven {α : Type} {l : List α} (h : l.length = 7) : ∃ a b c d e f g, l = [a, b, c, d, e, f, g] := by
  match l, h with
  | [a, b, c, d, e, f, g], _ => exact ⟨a, b, c, d, e, f, g, rfl⟩
theorem dones_open {fuel : Nat} {cs : List Value} {x : DataW H × List MemPlace} (h : DataW.trod enc Tryd.prog W 0 (fun _ => true) true fuel 22 cs = some x) :
    ∃ a c, ∃ l : List Dn, cs = [.slice a l.length c] ∧ l.length ≤ maxLen ∧ (∀ x ∈ l, DnB0 x) ∧ DnRow 0 W.heap.size W a l := by
  have ci : Tryd.prog.cellsOf 3 = 1 := by kernel_rfl
  have cbo : Tryd.prog.cellsOf 4 = 1 := by kernel_rfl
  have cst : Tryd.prog.cellsOf 9 = 1 := by kernel_rfl
  have crq : Tryd.prog.cellsOf 42 = 2 := by kernel_rfl
  have cdc : Tryd.prog.cellsOf 39 = 1 := by kernel_rfl
  have cdf : Tryd.prog.cellsOf 37 = 1 := by kernel_rfl
  have cbn : Tryd.prog.cellsOf 40 = 1 := by kernel_rfl
  obtain ⟨a, len, cap, rfl, hm, hr⟩ := sl_open Tryd.underlying22 (z := 8) (by kernel_rfl) (by omega) h
  rcases hr with rfl | ⟨n, b, o, rfl, rfl, hb, hx⟩
  · exact ⟨a, cap, [], rfl, Nat.zero_le _, by simp, .inl rfl⟩
  · obtain ⟨l, hl, hp⟩ := list_of (p := fun i x => DnAt 0 W.heap.size W (rdOf W b) (o + i * 8) x ∧ DnB0 x) (fun i hi => by
      obtain ⟨cs', y, hcl, hc, hd⟩ := hx i hi
      obtain ⟨xs, n', rfl, rfl, _, hxl, hf⟩ := DataW.trod_struct Tryd.underlying44 hd
      obtain ⟨v0, v1, v2, v3, v4, v5, v6, v7, rfl⟩ := eight hcl
      obtain ⟨y0, y1, y2, y3, y4, y5, y6, rfl⟩ := seven hxl
      obtain ⟨i0, e0, _, _⟩ := DataW.trod_int Tryd.underlying3 (hf 0 _ rfl)
      obtain ⟨i1, e1, _, _⟩ := DataW.trod_int Tryd.underlying3 (hf 1 _ rfl)
      obtain ⟨i2, e2, _, _⟩ := DataW.trod_int Tryd.underlying3 (hf 2 _ rfl)
      obtain ⟨i3, e3, _, _⟩ := DataW.trod_int Tryd.underlying3 (hf 3 _ rfl)
      obtain ⟨i4, e4, _⟩ := DataW.trod_bool Tryd.underlying4 (hf 4 _ rfl)
      have hq := hf 5 _ rfl
      simp [crq] at hq
      obtain ⟨z0, z1, n2, _, _, g1, g2⟩ := trod_struct2 Tryd.underlying42 hq
      obtain ⟨z2, n3, _, _, g3⟩ := trod_struct1 Tryd.underlying39 (show DataW.trod enc Tryd.prog W 0 (fun _ => true) true n2 39 [v5] = _ by simpa [cdc] using g1)
      obtain ⟨a5, c5, dl, e5, b5, r5⟩ := defs_open (by simpa [cdf] using g3)
      obtain ⟨a6, c6, bs, e6, b6, b7, r6⟩ := binds_open (by simpa [cdc, cbn] using g2)
      obtain ⟨s, e7, _, hs⟩ := DataW.trod_string Tryd.underlying9 (hf 6 _ rfl)
      simp [ci, cbo, cst] at e0 e1 e2 e3 e4 e5 e6 e7
      subst e0 e1 e2 e3 e4 e5 e6 e7
      exact ⟨⟨i0, i1, i2, i3, i4, dl, bs, s⟩, ⟨a5, c5, a6, c6, hc 0 (by omega), hc 1 (by omega), hc 2 (by omega), hc 3 (by omega), hc 4 (by omega), hc 5 (by omega), hc 6 (by omega), hc 7 (by omega), r5, r6⟩, ⟨b5, b6, b7⟩, hs⟩)
    subst hl
    refine ⟨_, cap, l, rfl, hm, fun x hx => ?_, .inr ⟨b, o, rfl, Nat.zero_le _, hb, fun i x hx => (hp i x hx).1⟩⟩
    obtain ⟨i, hi, rfl⟩ := List.getElem_of_mem hx
    exact (hp i _ (List.getElem?_eq_getElem hi)).2
end
end Go.Proofs.YtgnonbghgcpnoaaDoor
