/- Fragments by their names, of several of one name the first: the program's map. -/
import Derived.Test.YthbjihbpjajggaaGreatDocVal
import Derived.Maps.OwnSet
namespace Go.Proofs.YthbjihbpjajggaaGreat
open Go.ChangeShapes Go.WideShapes Go.ChangeAt Go.RowKit
set_option linter.unusedVariables false

def SelFrom (lo hi : Nat) (w : World) (a : Option Addr) (k : Nat) (l : Sels) : Prop :=
  l = .nil ∨ ∃ b o, a = some ⟨b, o, none⟩ ∧ lo ≤ b ∧ b < hi ∧ SelPre lo hi w l (rdOf w b) (o + k * 6) l.len
theorem SelRow.from_ {lo hi : Nat} {w : World} {a : Option Addr} {l : Sels} (h : SelRow lo hi w a l) : SelFrom lo hi w a 0 l := by
  rcases h with h | ⟨b, o, rfl, h1, h2, h3⟩
  · exact .inl h
  · exact .inr ⟨b, o, rfl, h1, h2, by simpa using h3⟩
theorem SelFrom.keep {lo hi : Nat} {w w' : World} {a : Option Addr} {k : Nat} {l : Sels} (h : SelFrom lo hi w a k l) (hk : Agree lo hi w w') : SelFrom lo hi w' a k l := by
  rcases h with h | ⟨b, o, rfl, h1, h2, h3⟩
  · exact .inl h
  · exact .inr ⟨b, o, rfl, h1, h2, by rw [hk.rd h1 h2]; exact h3.keep hk⟩
theorem SelFrom.wide {lo hi lo' hi' : Nat} {w : World} {a : Option Addr} {k : Nat} {l : Sels} (h : SelFrom lo hi w a k l) (e1 : lo' ≤ lo) (e2 : hi ≤ hi') : SelFrom lo' hi' w a k l := by
  rcases h with h | ⟨b, o, rfl, h1, h2, h3⟩
  · exact .inl h
  · exact .inr ⟨b, o, rfl, by omega, by omega, h3.wide e1 e2⟩
/-- The k-th selection's cells, its lists, and the rest. -/
theorem SelFrom.step_cap {lo hi : Nat} {w : World} {a : Option Addr} {k : Nat} {h : Hd} {sub rest : Sels} (H : SelFrom lo hi w a k (.cons h sub rest)) :
    ∃ b o a1 c1 a2 c2 a3 c3, a = some ⟨b, o, none⟩ ∧ lo ≤ b ∧ b < hi ∧ w.cell? ⟨b, o + k * 6, none⟩ = some (.int .i64 h.k) ∧ w.cell? ⟨b, o + k * 6 + 1, none⟩ = some (.string h.al) ∧ w.cell? ⟨b, o + k * 6 + 2, none⟩ = some (.string h.nm) ∧
      w.cell? ⟨b, o + k * 6 + 3, none⟩ = some (.slice a1 h.args.length c1) ∧ w.cell? ⟨b, o + k * 6 + 4, none⟩ = some (.slice a2 h.dirs.length c2) ∧ w.cell? ⟨b, o + k * 6 + 5, none⟩ = some (.slice a3 sub.len c3) ∧
      ArRow lo hi w a1 h.args ∧ DiRow lo hi w a2 h.dirs ∧ SelRow lo hi w a3 sub ∧ SelFrom lo hi w a (k + 1) rest ∧ h.args.length ≤ c1 := by
  rcases H with H | ⟨b, o, rfl, h1, h2, h3⟩
  · cases H
  · obtain ⟨⟨p0, p1, p2, ⟨a1, c1, p3, hq, q3⟩, ⟨a2, c2, p4, q4⟩⟩, ⟨a3, c3, p5, q5⟩, p6⟩ := h3.head
    refine ⟨b, o, a1, c1, a2, c2, a3, c3, rfl, h1, h2, p0, p1, p2, p3, p4, p5, q3, q4, q5, ?_, hq⟩
    exact .inr ⟨b, o, rfl, h1, h2, by rw [show o + (k + 1) * 6 = o + k * 6 + 6 by omega]; exact p6⟩
theorem SelFrom.step {lo hi : Nat} {w : World} {a : Option Addr} {k : Nat} {h : Hd} {sub rest : Sels} (H : SelFrom lo hi w a k (.cons h sub rest)) :
    ∃ b o a1 c1 a2 c2 a3 c3, a = some ⟨b, o, none⟩ ∧ lo ≤ b ∧ b < hi ∧ w.cell? ⟨b, o + k * 6, none⟩ = some (.int .i64 h.k) ∧ w.cell? ⟨b, o + k * 6 + 1, none⟩ = some (.string h.al) ∧ w.cell? ⟨b, o + k * 6 + 2, none⟩ = some (.string h.nm) ∧
      w.cell? ⟨b, o + k * 6 + 3, none⟩ = some (.slice a1 h.args.length c1) ∧ w.cell? ⟨b, o + k * 6 + 4, none⟩ = some (.slice a2 h.dirs.length c2) ∧ w.cell? ⟨b, o + k * 6 + 5, none⟩ = some (.slice a3 sub.len c3) ∧
      ArRow lo hi w a1 h.args ∧ DiRow lo hi w a2 h.dirs ∧ SelRow lo hi w a3 sub ∧ SelFrom lo hi w a (k + 1) rest := by
  obtain ⟨b, o, a1, c1, a2, c2, a3, c3, x0, x1, x2, x3, x4, x5, x6, x7, x8, x9, y0, y1, y2, _⟩ := H.step_cap
  exact ⟨b, o, a1, c1, a2, c2, a3, c3, x0, x1, x2, x3, x4, x5, x6, x7, x8, x9, y0, y1, y2⟩
theorem SelFrom.next {lo hi : Nat} {w : World} {a : Option Addr} {k : Nat} {h : Hd} {sub rest : Sels} (H : SelFrom lo hi w a k (.cons h sub rest)) : SelFrom lo hi w a (k + 1) rest := by
  obtain ⟨_, _, _, _, _, _, _, _, _, _, _, _, _, _, _, _, _, _, _, _, hf⟩ := H.step
  exact hf
theorem Row.cells_ar {lo hi : Nat} {w : World} {a : Option Addr} {l : List Ar} (h : ArRow lo hi w a l) (k : Nat) (hk : k < l.length) :
    ∃ b o, a = some ⟨b, o, none⟩ ∧ lo ≤ b ∧ b < hi ∧ w.cell? ⟨b, o + k * 4, none⟩ = some (.string l[k].nm) ∧ w.cell? ⟨b, o + k * 4 + 1, none⟩ = some (.int .i64 l[k].v.k) ∧ w.cell? ⟨b, o + k * 4 + 2, none⟩ = some (.int .i64 l[k].v.n) ∧ w.cell? ⟨b, o + k * 4 + 3, none⟩ = some (.string l[k].v.t) := by
  obtain ⟨b, o, h1, h2, h3, h4, h5, h6, h7⟩ := h.at_ k hk
  exact ⟨b, o, h1, h2, h3, h4, h5, h6, h7⟩
theorem Row.cells_di {lo hi : Nat} {w : World} {a : Option Addr} {l : List Di} (h : DiRow lo hi w a l) (k : Nat) (hk : k < l.length) :
    ∃ b o, a = some ⟨b, o, none⟩ ∧ lo ≤ b ∧ b < hi ∧ w.cell? ⟨b, o + k * 4, none⟩ = some (.bool l[k].sk) ∧ w.cell? ⟨b, o + k * 4 + 1, none⟩ = some (.int .i64 l[k].v.k) ∧ w.cell? ⟨b, o + k * 4 + 2, none⟩ = some (.int .i64 l[k].v.n) ∧ w.cell? ⟨b, o + k * 4 + 3, none⟩ = some (.string l[k].v.t) := by
  obtain ⟨b, o, h1, h2, h3, h4, h5, h6, h7⟩ := h.at_ k hk
  exact ⟨b, o, h1, h2, h3, h4, h5, h6, h7⟩
theorem DeRow.cells {lo hi : Nat} {w : World} {a : Option Addr} {l : List De} (h : DeRow lo hi w a l) (k : Nat) (hk : k < l.length) :
    ∃ b o a3 c3, a = some ⟨b, o, none⟩ ∧ lo ≤ b ∧ b < hi ∧ w.cell? ⟨b, o + k * 4, none⟩ = some (.int .i64 l[k].k) ∧ w.cell? ⟨b, o + k * 4 + 1, none⟩ = some (.string l[k].nm) ∧ w.cell? ⟨b, o + k * 4 + 2, none⟩ = some (.string l[k].on) ∧ w.cell? ⟨b, o + k * 4 + 3, none⟩ = some (.slice a3 l[k].sels.len c3) ∧ SelRow lo hi w a3 l[k].sels := by
  obtain ⟨b, o, h1, h2, h3, h4, h5, h6, ⟨a3, c3, h7, h8⟩⟩ := Row.at_ h k hk
  exact ⟨b, o, a3, c3, h1, h2, h3, h4, h5, h6, h7, h8⟩
/-- Rows in old memory stay behind a call. -/
theorem Row.up {α : Type} {at_ : (Nat → Option Value) → Nat → α → Prop} {z : Nat} {w w' : World} {a : Option Addr} {l : List α} (h : Row at_ z 0 w.heap.size w a l) (hb : Below w.heap.size w w') : Row at_ z 0 w'.heap.size w' a l :=
  (h.keep (Below.agree hb (Nat.le_refl _))).wide (Nat.le_refl _) hb.size
theorem SelRow.up {w w' : World} {a : Option Addr} {l : Sels} (h : SelRow 0 w.heap.size w a l) (hb : Below w.heap.size w w') : SelRow 0 w'.heap.size w' a l :=
  (h.keep (Below.agree hb (Nat.le_refl _))).wide (Nat.le_refl _) hb.size
theorem SelFrom.up {w w' : World} {a : Option Addr} {k : Nat} {l : Sels} (h : SelFrom 0 w.heap.size w a k l) (hb : Below w.heap.size w w') : SelFrom 0 w'.heap.size w' a k l :=
  (h.keep (Below.agree hb (Nat.le_refl _))).wide (Nat.le_refl _) hb.size
theorem DeRow.up {w w' : World} {a : Option Addr} {l : List De} (h : DeRow 0 w.heap.size w a l) (hb : Below w.heap.size w w') : DeRow 0 w'.heap.size w' a l :=
  (h.keep (Below.agree hb (Nat.le_refl _))).wide (Nat.le_refl _) hb.size
end Go.Proofs.YthbjihbpjajggaaGreat
namespace Go.Proofs.YthbjihbpjajggaaGreat
open Go.ChangeShapes Go.WideShapes Go.ChangeAt Go.RowKit
set_option linter.unusedVariables false

theorem row_cell {w : World} {N : Nat} {e : TypeId} {cs : Array Value} (h : w.heap[N]? = some (.cells cs e (0, 0))) (j : Nat) : w.cell? ⟨N, j, none⟩ = cs[j]? := cell_of_row w N j cs e _ h
theorem row_frozen {w : World} {N : Nat} {e : TypeId} {cs : Array Value} (h : w.heap[N]? = some (.cells cs e (0, 0))) (j : Nat) : w.frozen? ⟨N, j, none⟩ = false := by
  simp [World.frozen?, h]
theorem row_set {w : World} {N : Nat} {e : TypeId} {cs : Array Value} (h : w.heap[N]? = some (.cells cs e (0, 0))) (j : Nat) (v : Value) : (w.setCell ⟨N, j, none⟩ v).heap[N]? = some (.cells (cs.setIfInBounds j v) e (0, 0)) := by
  rw [setCell_eq_setRow w N j cs e _ v h]; exact setRow_heap w N cs _ e _ h
theorem row_rd {w : World} {N : Nat} {e : TypeId} {cs : Array Value} (h : w.heap[N]? = some (.cells cs e (0, 0))) : rdOf w N = fun j => cs[j]? := by
  funext j; exact row_cell h j
theorem Agree.setCell {lo hi : Nat} {w : World} {p : Addr} {v : Value} (h : p.block < lo) : Agree lo hi w (w.setCell p v) := fun g h1 _ => Below.heap_setCell _ _ _ _ (by omega)
theorem Agree.trans {lo hi : Nat} {w w1 w2 : World} (h : Agree lo hi w w1) (h' : Agree lo hi w1 w2) : Agree lo hi w w2 := fun g h1 h2 => (h' g h1 h2).trans (h g h1 h2)

set_option maxHeartbeats 1000000 in
theorem to_arg (x : Ar) (w : World) :
    Calls Tryz.prog 143 #[.agg #[.string x.nm, .int .i64 x.v.k, .int .i64 x.v.n, .string x.v.t]] w fun e w' => e = .returned (.agg #[.string x.nm, .int .i64 x.v.k, .int .i64 x.v.n, .string x.v.t]) ∧ Below w.heap.size w w' := by
  go_enter Tryz.func143, Tryz.ntmps143
  go_wp2_with fail
  refine (to_val _ _ _ _).mono ?_
  rintro e w1 ⟨rfl, hb1⟩
  obtain ⟨hc1, hf1⟩ := bcell hb1
  have k1 := fun o => hc1 (w.heap.size + 1) o (by simp)
  have k2 := fun o => hc1 (w.heap.size + 1 + 1) o (by simp)
  have hz1 := hb1.size
  have q1 : Below w.heap.size w w1 := by
    refine Below.trans ?_ (hb1.mono (by simp; omega))
    repeat (first | exact Below.refl _ _ | refine Below.setCell ?_ (by simp <;> omega) _ | refine Below.alloc ?_ (by simp <;> omega) _)
  go_wp2_with fail
  refine bodyPost_ret (v := .agg #[.string x.nm, .int .i64 x.v.k, .int .i64 x.v.n, .string x.v.t]) (by simp [results, Tryz.results143, go_sem, k1]) rfl ⟨rfl, ?_⟩
  repeat (refine Below.setCell ?_ (by simp <;> omega) _)
  exact q1
set_option maxHeartbeats 1000000 in
theorem to_dir (x : Di) (w : World) :
    Calls Tryz.prog 144 #[.agg #[.bool x.sk, .int .i64 x.v.k, .int .i64 x.v.n, .string x.v.t]] w fun e w' => e = .returned (.agg #[.bool x.sk, .int .i64 x.v.k, .int .i64 x.v.n, .string x.v.t]) ∧ Below w.heap.size w w' := by
  go_enter Tryz.func144, Tryz.ntmps144
  go_wp2_with fail
  refine (to_val _ _ _ _).mono ?_
  rintro e w1 ⟨rfl, hb1⟩
  obtain ⟨hc1, hf1⟩ := bcell hb1
  have k1 := fun o => hc1 (w.heap.size + 1) o (by simp)
  have k2 := fun o => hc1 (w.heap.size + 1 + 1) o (by simp)
  have hz1 := hb1.size
  have q1 : Below w.heap.size w w1 := by
    refine Below.trans ?_ (hb1.mono (by simp; omega))
    repeat (first | exact Below.refl _ _ | refine Below.setCell ?_ (by simp <;> omega) _ | refine Below.alloc ?_ (by simp <;> omega) _)
  go_wp2_with fail
  refine bodyPost_ret (v := .agg #[.bool x.sk, .int .i64 x.v.k, .int .i64 x.v.n, .string x.v.t]) (by simp [results, Tryz.results144, go_sem, k1]) rfl ⟨rfl, ?_⟩
  repeat (refine Below.setCell ?_ (by simp <;> omega) _)
  exact q1

/-- The first k of a row are laid. -/
def LaidR {α : Type} (at_ : (Nat → Option Value) → Nat → α → Prop) (z : Nat) (cs : Array Value) (l : List α) (k : Nat) : Prop := ∀ i x, i < k → l[i]? = some x → at_ (fun j => cs[j]?) (i * z) x
def put4 (cs : Array Value) (k : Nat) (v0 v1 v2 v3 : Value) : Array Value := (((cs.setIfInBounds k v0).setIfInBounds (k + 1) v1).setIfInBounds (k + 2) v2).setIfInBounds (k + 3) v3
theorem put4_size (cs : Array Value) (k : Nat) (v0 v1 v2 v3 : Value) : (put4 cs k v0 v1 v2 v3).size = cs.size := by simp [put4]
theorem put4_at {cs : Array Value} {k : Nat} {v0 v1 v2 v3 : Value} (h : k + 3 < cs.size) : (put4 cs k v0 v1 v2 v3)[k]? = some v0 ∧ (put4 cs k v0 v1 v2 v3)[k + 1]? = some v1 ∧ (put4 cs k v0 v1 v2 v3)[k + 2]? = some v2 ∧ (put4 cs k v0 v1 v2 v3)[k + 3]? = some v3 := by
  unfold put4
  refine ⟨?_, ?_, ?_, ?_⟩ <;> simp [Array.getElem?_setIfInBounds] <;> omega
theorem put4_else {cs : Array Value} {k : Nat} {v0 v1 v2 v3 : Value} {j : Nat} (h : j < k) : (put4 cs k v0 v1 v2 v3)[j]? = cs[j]? := by
  unfold put4
  rw [Array.getElem?_setIfInBounds_ne (by omega), Array.getElem?_setIfInBounds_ne (by omega), Array.getElem?_setIfInBounds_ne (by omega), Array.getElem?_setIfInBounds_ne (by omega)]
theorem LaidR.put_ar {cs : Array Value} {l : List Ar} {k : Nat} (h : LaidR ArAt 4 cs l k) (hk : k < l.length) (hs : cs.size = l.length * 4) : LaidR ArAt 4 (put4 cs (k * 4) (.string l[k].nm) (.int .i64 l[k].v.k) (.int .i64 l[k].v.n) (.string l[k].v.t)) l (k + 1) := by
  intro i x hi hx
  by_cases hik : i = k
  · subst hik
    rw [List.getElem?_eq_getElem hk] at hx
    simp only [Option.some.injEq] at hx
    subst hx
    exact put4_at (by omega)
  · obtain ⟨c0, c1, c2, c3⟩ := h i x (by omega) hx
    exact ⟨(put4_else (by omega)).trans c0, (put4_else (by omega)).trans c1, (put4_else (by omega)).trans c2, (put4_else (by omega)).trans c3⟩
theorem LaidR.put_di {cs : Array Value} {l : List Di} {k : Nat} (h : LaidR DiAt 4 cs l k) (hk : k < l.length) (hs : cs.size = l.length * 4) : LaidR DiAt 4 (put4 cs (k * 4) (.bool l[k].sk) (.int .i64 l[k].v.k) (.int .i64 l[k].v.n) (.string l[k].v.t)) l (k + 1) := by
  intro i x hi hx
  by_cases hik : i = k
  · subst hik
    rw [List.getElem?_eq_getElem hk] at hx
    simp only [Option.some.injEq] at hx
    subst hx
    exact put4_at (by omega)
  · obtain ⟨c0, c1, c2, c3⟩ := h i x (by omega) hx
    exact ⟨(put4_else (by omega)).trans c0, (put4_else (by omega)).trans c1, (put4_else (by omega)).trans c2, (put4_else (by omega)).trans c3⟩
theorem LaidR.row {α : Type} {at_ : (Nat → Option Value) → Nat → α → Prop} {z : Nat} {w : World} {N lo : Nat} {e : TypeId} {cs : Array Value} {l : List α} (h : w.heap[N]? = some (.cells cs e (0, 0))) (hl : LaidR at_ z cs l l.length) (hlo : lo ≤ N) : Row at_ z lo w.heap.size w (some ⟨N, 0, none⟩) l := by
  refine .inr ⟨N, 0, rfl, hlo, (Array.getElem?_eq_some_iff.1 h).1, fun i x hx => ?_⟩
  have hi : i < l.length := (List.getElem?_eq_some_iff.1 hx).1
  rw [row_rd h, Nat.zero_add]
  exact hl i x hi hx

set_option maxRecDepth 100000 in
theorem info_ar : ∃ i, Tryz.prog.info? 168 = some i ∧ i.zero = some (.agg #[.string ⟨#[]⟩, .int .i64 0, .int .i64 0, .string ⟨#[]⟩]) ∧ i.size = 4 ∧ i.bytes = 48 := by
  refine ⟨_, rfl, ?_, ?_, ?_⟩ <;> kernel_rfl
set_option maxRecDepth 100000 in
theorem info_di : ∃ i, Tryz.prog.info? 166 = some i ∧ i.zero = some (.agg #[.bool false, .int .i64 0, .int .i64 0, .string ⟨#[]⟩]) ∧ i.size = 4 ∧ i.bytes = 40 := by
  refine ⟨_, rfl, ?_, ?_, ?_⟩ <;> kernel_rfl
set_option maxHeartbeats 1000000 in
theorem to_args (a : Option Addr) (c : Nat) (l : List Ar) (w : World) (hr : ArRow 0 w.heap.size w a l) (hl : l.length ≤ 1048576) :
    Calls Tryz.prog 129 #[.slice a l.length c] w fun e w' => ∃ a' c', e = .returned (.slice a' l.length c') ∧ ArRow w.heap.size w'.heap.size w' a' l ∧ l.length ≤ c' ∧ Below w.heap.size w w' := by
  have HR : Hid (ArRow 0 w.heap.size w a l) := hr
  clear hr
  obtain ⟨i27, hi, hz, hsz, hby⟩ := info_ar
  have hmk := run_make (P := Tryz.prog) w 116 168 i27 _ Tryz.underlying116 hi hz .i64 .i64 (l.length : Int) (l.length : Int) (by omega) (by omega) (by rw [hby]; omega) (by omega)
  rw [hsz, Int.toNat_natCast] at hmk
  clear hi hz hsz hby
  have hs0 := size_madeCells (Value.agg #[.string ⟨#[]⟩, .int .i64 0, .int .i64 0, .string ⟨#[]⟩]).cells (l.length * 4)
  generalize madeCells (Value.agg #[.string ⟨#[]⟩, .int .i64 0, .int .i64 0, .string ⟨#[]⟩]).cells (l.length * 4) = cs0 at *
  go_enter Tryz.func129, Tryz.ntmps129
  go_wp2_with fail
  go_loopw [4] (fun i w' => ∃ (k : Nat) (cs : Array Value), k ≤ l.length ∧ i = .int .i64 k ∧ Below w.heap.size w w' ∧ Hid (w'.heap[w.heap.size]? = some (.cells cs 168 (0, 0))) ∧ cs.size = l.length * 4 ∧ Hid (LaidR ArAt 4 cs l k)) (fun i _ => l.length - (intOf i).toNat)
  case atStart => exact ⟨0, cs0, by omega, rfl, (Below.refl _ _).alloc (Nat.le_refl _) _, heap_alloc_new _ _, hs0, fun i x h => by omega⟩
  case round =>
    rename_i wr
    obtain ⟨k, cs, hk, rfl, hb, HH, hcs, HL⟩ := hrel
    clear hmk hs0
    by_cases hlt : k < l.length
    · obtain ⟨b, o, ha, _, hbl, c0, c1, c2, c3⟩ := (HR.out.keep (Below.agree hb (Nat.le_refl _))).cells_ar k hlt
      subst ha
      go_wp2_with fail
      refine (to_arg l[k] _).mono ?_
      rintro e w1 ⟨rfl, hb1⟩
      have hN : w.heap.size < wr.heap.size := (Array.getElem?_eq_some_iff.1 HH.out).1
      have HH1 : Hid (w1.heap[w.heap.size]? = some (.cells cs 168 (0, 0))) := (hb1.block _ hN).trans HH.out
      obtain ⟨v0, hv0⟩ : ∃ v, w1.cell? ⟨w.heap.size, k * 4, none⟩ = some v := ⟨_, (row_cell HH1.out _).trans (Array.getElem?_eq_getElem (by omega))⟩
      obtain ⟨v1, hv1⟩ : ∃ v, w1.cell? ⟨w.heap.size, k * 4 + 1, none⟩ = some v := ⟨_, (row_cell HH1.out _).trans (Array.getElem?_eq_getElem (by omega))⟩
      obtain ⟨v2, hv2⟩ : ∃ v, w1.cell? ⟨w.heap.size, k * 4 + 2, none⟩ = some v := ⟨_, (row_cell HH1.out _).trans (Array.getElem?_eq_getElem (by omega))⟩
      obtain ⟨v3, hv3⟩ : ∃ v, w1.cell? ⟨w.heap.size, k * 4 + 3, none⟩ = some v := ⟨_, (row_cell HH1.out _).trans (Array.getElem?_eq_getElem (by omega))⟩
      have hf0 := row_frozen HH1.out (k * 4)
      have hf1 := row_frozen HH1.out (k * 4 + 1)
      have hf2 := row_frozen HH1.out (k * 4 + 2)
      have hf3 := row_frozen HH1.out (k * 4 + 3)
      clear c0 c1 c2 c3
      have qb := hb.trans (hb1.mono hb.size)
      go_wp2_with fail
      exact ⟨⟨k + 1, put4 cs (k * 4) _ _ _ _, by omega, by go_num, (((qb.setCell (Nat.le_refl _) _).setCell (Nat.le_refl _) _).setCell (Nat.le_refl _) _).setCell (Nat.le_refl _) _, row_set (row_set (row_set (row_set HH1.out _ _) _ _) _ _) _ _, by rw [put4_size]; exact hcs, HL.out.put_ar hlt hcs⟩, by simp [intOf]; omega⟩
    · go_wp2_with fail
      go_ret
      obtain rfl : k = l.length := by omega
      exact ⟨_, _, rfl, LaidR.row HH.out HL.out (Nat.le_refl _), Nat.le_refl _, hb⟩
set_option maxHeartbeats 1000000 in
theorem to_dirs (a : Option Addr) (c : Nat) (l : List Di) (w : World) (hr : DiRow 0 w.heap.size w a l) (hl : l.length ≤ 1048576) :
    Calls Tryz.prog 130 #[.slice a l.length c] w fun e w' => ∃ a' c', e = .returned (.slice a' l.length c') ∧ DiRow w.heap.size w'.heap.size w' a' l ∧ Below w.heap.size w w' := by
  have HR : Hid (DiRow 0 w.heap.size w a l) := hr
  clear hr
  obtain ⟨i27, hi, hz, hsz, hby⟩ := info_di
  have hmk := run_make (P := Tryz.prog) w 117 166 i27 _ Tryz.underlying117 hi hz .i64 .i64 (l.length : Int) (l.length : Int) (by omega) (by omega) (by rw [hby]; omega) (by omega)
  rw [hsz, Int.toNat_natCast] at hmk
  clear hi hz hsz hby
  have hs0 := size_madeCells (Value.agg #[.bool false, .int .i64 0, .int .i64 0, .string ⟨#[]⟩]).cells (l.length * 4)
  generalize madeCells (Value.agg #[.bool false, .int .i64 0, .int .i64 0, .string ⟨#[]⟩]).cells (l.length * 4) = cs0 at *
  go_enter Tryz.func130, Tryz.ntmps130
  go_wp2_with fail
  go_loopw [4] (fun i w' => ∃ (k : Nat) (cs : Array Value), k ≤ l.length ∧ i = .int .i64 k ∧ Below w.heap.size w w' ∧ Hid (w'.heap[w.heap.size]? = some (.cells cs 166 (0, 0))) ∧ cs.size = l.length * 4 ∧ Hid (LaidR DiAt 4 cs l k)) (fun i _ => l.length - (intOf i).toNat)
  case atStart => exact ⟨0, cs0, by omega, rfl, (Below.refl _ _).alloc (Nat.le_refl _) _, heap_alloc_new _ _, hs0, fun i x h => by omega⟩
  case round =>
    rename_i wr
    obtain ⟨k, cs, hk, rfl, hb, HH, hcs, HL⟩ := hrel
    clear hmk hs0
    by_cases hlt : k < l.length
    · obtain ⟨b, o, ha, _, hbl, c0, c1, c2, c3⟩ := (HR.out.keep (Below.agree hb (Nat.le_refl _))).cells_di k hlt
      subst ha
      go_wp2_with fail
      refine (to_dir l[k] _).mono ?_
      rintro e w1 ⟨rfl, hb1⟩
      have hN : w.heap.size < wr.heap.size := (Array.getElem?_eq_some_iff.1 HH.out).1
      have HH1 : Hid (w1.heap[w.heap.size]? = some (.cells cs 166 (0, 0))) := (hb1.block _ hN).trans HH.out
      obtain ⟨v0, hv0⟩ : ∃ v, w1.cell? ⟨w.heap.size, k * 4, none⟩ = some v := ⟨_, (row_cell HH1.out _).trans (Array.getElem?_eq_getElem (by omega))⟩
      obtain ⟨v1, hv1⟩ : ∃ v, w1.cell? ⟨w.heap.size, k * 4 + 1, none⟩ = some v := ⟨_, (row_cell HH1.out _).trans (Array.getElem?_eq_getElem (by omega))⟩
      obtain ⟨v2, hv2⟩ : ∃ v, w1.cell? ⟨w.heap.size, k * 4 + 2, none⟩ = some v := ⟨_, (row_cell HH1.out _).trans (Array.getElem?_eq_getElem (by omega))⟩
      obtain ⟨v3, hv3⟩ : ∃ v, w1.cell? ⟨w.heap.size, k * 4 + 3, none⟩ = some v := ⟨_, (row_cell HH1.out _).trans (Array.getElem?_eq_getElem (by omega))⟩
      have hf0 := row_frozen HH1.out (k * 4)
      have hf1 := row_frozen HH1.out (k * 4 + 1)
      have hf2 := row_frozen HH1.out (k * 4 + 2)
      have hf3 := row_frozen HH1.out (k * 4 + 3)
      clear c0 c1 c2 c3
      have qb := hb.trans (hb1.mono hb.size)
      go_wp2_with fail
      exact ⟨⟨k + 1, put4 cs (k * 4) _ _ _ _, by omega, by go_num, (((qb.setCell (Nat.le_refl _) _).setCell (Nat.le_refl _) _).setCell (Nat.le_refl _) _).setCell (Nat.le_refl _) _, row_set (row_set (row_set (row_set HH1.out _ _) _ _) _ _) _ _, by rw [put4_size]; exact hcs, HL.out.put_di hlt hcs⟩, by simp [intOf]; omega⟩
    · go_wp2_with fail
      go_ret
      obtain rfl : k = l.length := by omega
      exact ⟨_, _, rfl, LaidR.row HH.out HL.out (Nat.le_refl _), hb⟩
end Go.Proofs.YthbjihbpjajggaaGreat
namespace Go.Proofs.YthbjihbpjajggaaGreat
open Go.ChangeShapes Go.WideShapes Go.ChangeAt Go.RowKit
set_option linter.unusedVariables false

def de0 : De := ⟨0, ⟨#[]⟩, ⟨#[]⟩, .nil⟩
def deV (x : De) (a : Option Addr) (c : Nat) : Value := .agg #[.int .i64 x.k, .string x.nm, .string x.on, .slice a x.sels.len c]
def isFr (s : ByteArray) (x : De) : Bool := (x.k == 3) && (x.nm.toList == s.toList)
theorem find_at {p : De → Bool} : ∀ {l : List De} {k : Nat} (hk : k < l.length), (∀ x ∈ l.take k, p x = false) → p l[k] = true → l.find? p = some l[k]
  | [], k, hk, _, _ => by simp at hk
  | x :: l, 0, hk, _, h => by
    have h : p x = true := h
    simp [h]
  | x :: l, k + 1, hk, ha, h => by
    have hx : p x = false := ha x (by simp)
    have := find_at (l := l) (k := k) (by simpa using hk) (fun y hy => ha y (by simp [hy])) (by simpa using h)
    simp [hx, this]
theorem find_no {p : De → Bool} {l : List De} (h : ∀ x ∈ l, p x = false) : l.find? p = none := by
  rw [List.find?_eq_none]
  intro x hx; rw [h x hx]; simp
theorem isFr_take {s : ByteArray} {l : List De} {k : Nat} (hk : k < l.length) (h : ∀ x ∈ l.take k, isFr s x = false) (h2 : isFr s l[k] = false) : ∀ x ∈ l.take (k + 1), isFr s x = false := by
  rw [List.take_succ_eq_append_getElem hk]
  intro x hx
  rcases List.mem_append.1 hx with hx | hx
  · exact h x hx
  · simp only [List.mem_singleton] at hx; subst hx; exact h2

set_option maxHeartbeats 4000000 in
set_option maxRecDepth 40000 in
theorem spec_fragment (a : Option Addr) (c : Nat) (l : List De) (s : ByteArray) (w : World) (hr : DeRow 0 w.heap.size w a l) (hl : l.length ≤ 1048576) :
    Calls Tryz.prog 67 #[.agg #[.slice a l.length c], .string s] w fun e w' => ((l.find? (isFr s) = none ∧ e = .returned (.tuple #[.agg #[.int .i64 0, .string ⟨#[]⟩, .string ⟨#[]⟩, .slice none 0 0], .bool false])) ∨ ∃ x a3 c3, l.find? (isFr s) = some x ∧ e = .returned (.tuple #[deV x a3 c3, .bool true]) ∧ SelRow 0 w.heap.size w a3 x.sels) ∧ Below w.heap.size w w' := by
  have HR : Hid (DeRow 0 w.heap.size w a l) := hr
  clear hr
  go_enter Tryz.func67, Tryz.ntmps67
  go_wp2_with fail
  obtain ⟨W, hW⟩ : ∃ W, W = (w.alloc (.cells #[.slice a l.length c] 38)).alloc (.cells #[.int .i64 0, .string ⟨#[]⟩, .string ⟨#[]⟩, .slice none 0 0] 77) := ⟨_, rfl⟩
  rw [← hW]
  have B0 : Below w.heap.size w W := by rw [hW]; exact ((Below.refl _ _).alloc (Nat.le_refl _) _).alloc (by simp) _
  have zW : W.heap.size = w.heap.size + 2 := by rw [hW]; simp
  have kW : ∀ o, W.cell? ⟨w.heap.size, o, none⟩ = (#[.slice a l.length c] : Array Value)[o]? := fun o => by
    rw [hW]
    refine (((Below.refl _ _).alloc (Nat.le_refl _) _).cell (p := ⟨w.heap.size, o, none⟩) (by simp)).trans (row_cell (heap_alloc_new _ _) o)
  have HJ : Hid (W.heap[w.heap.size + 1]? = some (.cells #[.int .i64 0, .string ⟨#[]⟩, .string ⟨#[]⟩, .slice none 0 0] 77 (0, 0))) := by
    unfold Hid
    rw [hW]
    have := heap_alloc_new (w.alloc (.cells #[.slice a l.length c] 38)) (.cells #[.int .i64 0, .string ⟨#[]⟩, .string ⟨#[]⟩, .slice none 0 0] 77)
    simpa using this
  clear hW
  go_loopw [6] (fun i w' => ∃ (k : Nat), k ≤ l.length ∧ i = .int .i64 k ∧ Below W.heap.size W w' ∧ Hid (∀ x ∈ l.take k, isFr s x = false)) (fun i _ => l.length - (intOf i).toNat)
  case atStart => exact ⟨0, by omega, rfl, Below.refl _ _, by simp [Hid]⟩
  case round =>
    obtain ⟨k, hk, rfl, hbw, HA⟩ := hrel
    have hbz := hbw.size
    have ks : wr.cell? ⟨w.heap.size, 0, none⟩ = some (.slice a l.length c) := (hbw.cell (p := ⟨w.heap.size, 0, none⟩) (show w.heap.size < W.heap.size by omega)).trans (kW 0)
    have HJr : Hid (wr.heap[w.heap.size + 1]? = _) := (hbw.block _ (by omega)).trans HJ.out
    have kr := fun o => row_cell HJr.out o
    have jr := fun o => row_frozen HJr.out o
    have Qr : Hid (Below w.heap.size w wr) := B0.trans (hbw.mono (by omega))
    have HBW : Hid _ := hbw
    by_cases hlt : k < l.length
    case neg =>
      have HN : Hid (l.find? (isFr s) = none) := find_no (by have := HA.out; rwa [List.take_of_length_le (by omega)] at this)
      clear hbw
      go_wp2_with fail
      refine bodyPost_ret (v := .tuple #[.agg #[.int .i64 0, .string ⟨#[]⟩, .string ⟨#[]⟩, .slice none 0 0], .bool false]) (by simp [results, Tryz.results67, go_sem, kr]) rfl ⟨.inl ⟨HN.out, rfl⟩, ?_⟩
      repeat (first | exact Qr.out | refine Below.setCell ?_ (by first | omega | (simp <;> omega)) _ | refine Below.alloc ?_ (by first | omega | (simp <;> omega)) _)
    obtain ⟨b, o, a3, c3, ha, _, hbl, d0, d1, d2, d3, r3⟩ := DeRow.cells (HR.out.keep (Below.agree Qr.out (Nat.le_refl _))) k hlt
    subst ha
    obtain ⟨b', o', a3', c3', ha, _, _, _, _, _, d3', r3'⟩ := DeRow.cells HR.out k hlt
    simp only [Option.some.injEq, Addr.mk.injEq, and_true] at ha
    obtain ⟨rfl, rfl⟩ := ha
    have e3 : a3' = a3 := by
      have := (Qr.out.cell (p := ⟨b, o + k * 4 + 3, none⟩) hbl).symm.trans d3
      rw [d3'] at this
      simp only [Option.some.injEq, Value.slice.injEq] at this
      exact this.1
    subst e3
    have R3 : Hid (SelRow 0 w.heap.size w a3' l[k].sels) := r3'
    clear r3 hbw r3' d3'
    cases h3 : (l[k].k == 3) with
    | false =>
      have HF : Hid (isFr s l[k] = false) := by unfold Hid isFr; rw [h3]; rfl
      go_wp2_with fail
      exact ⟨⟨k + 1, by omega, by go_num, HBW.out, isFr_take hlt HA.out HF.out⟩, by simp [intOf]; omega⟩
    | true =>
    cases h4 : (l[k].nm.toList == s.toList) with
    | false =>
      have HF : Hid (isFr s l[k] = false) := by unfold Hid isFr; rw [h3, h4]; rfl
      go_wp2_with fail
      exact ⟨⟨k + 1, by omega, by go_num, HBW.out, isFr_take hlt HA.out HF.out⟩, by simp [intOf]; omega⟩
    | true =>
    have HF : Hid (l.find? (isFr s) = some l[k]) := find_at hlt HA.out (by unfold isFr; rw [h3, h4]; rfl)
    go_wp2_with fail
    refine bodyPost_ret (v := .tuple #[deV l[k] a3' c3, .bool true]) (by simp [results, Tryz.results67, go_sem, kr, deV]) rfl ⟨.inr ⟨_, _, _, HF.out, rfl, R3.out⟩, ?_⟩
    repeat (first | exact Qr.out | refine Below.setCell ?_ (by first | omega | (simp <;> omega)) _ | refine Below.alloc ?_ (by first | omega | (simp <;> omega)) _)

end Go.Proofs.YthbjihbpjajggaaGreat
namespace Go.Proofs.YthbjihbpjajggaaGreat
open Go.ChangeShapes Go.WideShapes Go.ChangeAt Go.RowKit Go.Maps
open Go.WideMaps (keyOf_string_mk)
set_option linter.unusedVariables false

def hasNm (L : List De) (s : ByteArray) : Bool := L.any fun y => y.nm.toList == s.toList
def addFr (L : List De) (x : De) : List De := if (x.k == 3) && !hasNm L x.nm then L ++ [x] else L
def frsOf (l : List De) : List De := l.foldl addFr []
theorem frs_take {l : List De} {k : Nat} (hk : k < l.length) : frsOf (l.take (k + 1)) = addFr (frsOf (l.take k)) l[k] := by
  unfold frsOf; rw [List.take_succ_eq_append_getElem hk, List.foldl_append]; rfl
theorem frs_snoc (l : List De) (x : De) : frsOf (l ++ [x]) = addFr (frsOf l) x := by unfold frsOf; rw [List.foldl_append]; rfl
theorem hasNm_add (L : List De) (x : De) (s : ByteArray) : hasNm (addFr L x) s = (hasNm L s || isFr s x) := by
  unfold addFr isFr
  cases h3 : (x.k == 3)
  · simp
  · cases hh : hasNm L x.nm
    · simp only [Bool.not_false, Bool.and_true, if_true, Bool.true_and]
      unfold hasNm; rw [List.any_append]; simp
    · simp only [Bool.not_true, Bool.and_false, Bool.true_and]
      cases he : (x.nm.toList == s.toList)
      · simp
      · rw [beq_iff_eq] at he
        unfold hasNm at hh ⊢
        rw [he] at hh
        simp [hh]
theorem foldl_snoc_ind {α : Type} {P : List α → Prop} (h0 : P []) (h1 : ∀ l x, P l → P (l ++ [x])) : ∀ l, P l := by
  intro l
  have : ∀ n, ∀ l : List α, l.length = n → P l := by
    intro n
    induction n with
    | zero => intro l hl; rw [List.length_eq_zero_iff.1 hl]; exact h0
    | succ n ih =>
      intro l hl
      have hne : l ≠ [] := by intro e; rw [e] at hl; simp at hl
      rw [← List.dropLast_concat_getLast hne]
      exact h1 _ _ (ih _ (by simp [hl]))
  exact this l.length l rfl
theorem frs_any (l : List De) (s : ByteArray) : hasNm (frsOf l) s = l.any (isFr s) := by
  refine foldl_snoc_ind (P := fun l => hasNm (frsOf l) s = l.any (isFr s)) rfl ?_ l
  intro l x ih
  rw [frs_snoc, hasNm_add, ih, List.any_append]
  simp
theorem frs_sub (l : List De) : ∀ x ∈ frsOf l, x ∈ l := by
  refine foldl_snoc_ind (P := fun l => ∀ x ∈ frsOf l, x ∈ l) (by simp [frsOf]) ?_ l
  intro l y ih x hx
  rw [frs_snoc] at hx
  unfold addFr at hx
  split at hx
  · rcases List.mem_append.1 hx with hx | hx
    · exact List.mem_append_left _ (ih x hx)
    · exact List.mem_append_right _ hx
  · exact List.mem_append_left _ (ih x hx)

theorem frs_len (l : List De) : (frsOf l).length ≤ l.length := by
  refine foldl_snoc_ind (P := fun l => (frsOf l).length ≤ l.length) (Nat.le_refl _) ?_ l
  intro l y ih
  rw [frs_snoc]
  unfold addFr
  split <;> simp <;> omega
/-- An element of a map is read as itself. -/
def heldE (v : Value) : Option (DataW Value × List MemPlace) := some (.held v, [])
def FrHeld (w0 w : World) (B : Nat) (L : List De) : Prop := ∃ (D : DataW Value) (n : Nat), w.ownsMap Tryz.prog 9 heldE B n D ∧ n ≤ L.length ∧ Maps.size D = L.length ∧ (∀ s : ByteArray, Maps.has D (.string s.toList) = hasNm L s) ∧
  ∀ x ∈ L, ∃ a c, (∀ z, D.atKey (.string x.nm.toList) z = .held (deV x a c)) ∧ SelRow 0 w0.heap.size w0 a x.sels
theorem law9 : Keyed Tryz.prog 9 := string_keyed Tryz.underlying9
theorem zeroDef (w : World) : (zeroValue 77).run Tryz.prog w = .ok (deV de0 none 0) w := by kernel_rfl
theorem make_frs (w : World) : (Instr.makeMap 96 none).run Tryz.prog w = .ok (.map (some w.heap.size)) (w.alloc (.map #[] 0)) := by kernel_rfl
theorem key_of {s : ByteArray} (hs : s.size ≤ maxLen) : keyOf Tryz.prog 9 (.string s) = some (.string s.toList) := by
  rw [ByteArray.toList_eq]; exact keyOf_string_mk Tryz.underlying9 hs
theorem key_ne {s t : ByteArray} (h : (t.toList == s.toList) = false) : Lit.string s.toList ≠ Lit.string t.toList := by
  intro e
  simp only [Lit.string.injEq] at e
  rw [e] at h; simp at h
theorem FrHeld.lt {w0 w : World} {B : Nat} {L : List De} (h : FrHeld w0 w B L) : B < w.heap.size := by
  obtain ⟨D, n, h, _⟩ := h
  exact h.lt
theorem FrHeld.keep {w0 w w' : World} {B : Nat} {L : List De} (h : FrHeld w0 w B L) (hb : w'.heap[B]? = w.heap[B]?) : FrHeld w0 w' B L := by
  obtain ⟨D, n, ⟨es, clock, h1, h2⟩, h3⟩ := h
  exact ⟨D, n, ⟨es, clock, hb.trans h1, h2⟩, h3⟩
theorem FrHeld.none (w0 w : World) : FrHeld w0 (w.alloc (.map #[] 0)) w.heap.size [] :=
  ⟨.map [], 0, World.ownsMap_made _ _ _ _, Nat.zero_le _, rfl, fun s => rfl, fun x h => by simp at h⟩
theorem FrHeld.at_ {w0 w : World} {B : Nat} {L : List De} (h : FrHeld w0 w B L) (s : ByteArray) : ∃ (D : DataW Value) (n : Nat), w.ownsMap Tryz.prog 9 heldE B n D ∧ Maps.has D (.string s.toList) = hasNm L s ∧
    ((hasNm L s = false ∧ D.atKey (.string s.toList) (.held (deV de0 .none 0)) = .held (deV de0 .none 0)) ∨ ∃ x ∈ L, ∃ a c, (x.nm.toList == s.toList) = true ∧ hasNm L s = true ∧ D.atKey (.string s.toList) (.held (deV de0 .none 0)) = .held (deV x a c) ∧ SelRow 0 w0.heap.size w0 a x.sels) := by
  obtain ⟨D, n, h1, _, _, h3, h4⟩ := h
  refine ⟨D, n, h1, h3 s, ?_⟩
  cases hh : hasNm L s with
  | false => exact .inl ⟨rfl, atKey_of_not_has (by rw [h3, hh]) _⟩
  | true =>
    have hc := hh
    unfold hasNm at hc
    rw [List.any_eq_true] at hc
    obtain ⟨x, hx, he⟩ := hc
    obtain ⟨a, c, h5, h6⟩ := h4 x hx
    exact .inr ⟨x, hx, a, c, he, rfl, by rw [← beq_iff_eq.1 he]; exact h5 _, h6⟩
theorem wpList_lookup_held {P : Program} (w : World) {ops : Array Oper} {rest : List Oper} {o : Oper} {a : Act} {Q : Exit → Act → World → Prop} (hg : o.guard = none) (m x : Operand) (t : TypeId) (hop : o.op = Op.lookup t m x true)
    (k e : TypeId) (K : Keyed P k) (ht : P.underlying t = some (.map k e)) {z : Value} (hz : (zeroValue e).run P w = .ok z w) (b n : Nat) (D : DataW Value)
    (hm : a.eval m = .map (some b)) (hown : w.ownsMap P k heldE b n D) (key : Value) (kl : Lit) (hx : a.eval x = key) (hkey : keyOf P k key = some kl) (u : Value) (hu : D.atKey kl (.held z) = .held u) (f : Bool) (hf : Maps.has D kl = f)
    (hK : wpList P ops Q rest (a.put o.dst (.tuple #[u, .bool f])) w) : wpList P ops Q (o :: rest) a w := by
  subst hf
  refine wpList_lookup_own_ok w hg m x t hop k e K ht heldE hz (.held z) [] rfl b n D hm hown key kl hx hkey (fun v ps hv => ?_)
  rw [hu] at hv
  simp only [heldE, Option.some.injEq, Prod.mk.injEq, DataW.held.injEq] at hv
  rw [hv.1]; exact hK
theorem FrHeld.put {w0 w' : World} {B n : Nat} {L : List De} {x : De} {a : Option Addr} {c : Nat} {D : DataW Value} (hD : Tidy D) (hn : hasNm L x.nm = false) (hle : n ≤ L.length) (h0 : Maps.size D = L.length)
    (h1 : ∀ s : ByteArray, Maps.has D (.string s.toList) = hasNm L s) (h2 : ∀ x ∈ L, ∃ a c, (∀ z, D.atKey (.string x.nm.toList) z = .held (deV x a c)) ∧ SelRow 0 w0.heap.size w0 a x.sels) (hr : SelRow 0 w0.heap.size w0 a x.sels)
    (h : w'.ownsMap Tryz.prog 9 heldE B (n + 1) (D.put (.string x.nm.toList) (.held (deV x a c)))) : FrHeld w0 w' B (L ++ [x]) := by
  refine ⟨_, _, h, by rw [List.length_append]; simpa using hle, ?_, fun s => ?_, fun y hy => ?_⟩
  · rw [size_put hD, h1, hn, h0]; simp
  · by_cases hs : (x.nm.toList == s.toList) = true
    · have e : s.toList = x.nm.toList := by simpa using (beq_iff_eq.1 hs).symm
      rw [e, has_put_same (k := .string x.nm.toList) hD.isMap trivial]
      unfold hasNm; rw [List.any_append]; simp [e]
    · have hs : (x.nm.toList == s.toList) = false := by simpa using hs
      rw [has_put_other (key_ne hs), h1]
      unfold hasNm; rw [List.any_append]; simp [hs]
  · rcases List.mem_append.1 hy with hy | hy
    · obtain ⟨a', c', h5, h6⟩ := h2 y hy
      have hne : (x.nm.toList == y.nm.toList) = false := by
        cases hc : (x.nm.toList == y.nm.toList)
        · rfl
        · have : hasNm L x.nm = true := by
            unfold hasNm; rw [List.any_eq_true]
            exact ⟨y, hy, by rw [beq_iff_eq] at hc; simp [hc]⟩
          rw [hn] at this; cases this
      exact ⟨a', c', fun z => by rw [atKey_put_other (key_ne hne), h5 z], h6⟩
    · simp only [List.mem_singleton] at hy
      subst hy
      exact ⟨a, c, fun z => by rw [atKey_put_same (k := .string y.nm.toList) hD.isMap trivial], hr⟩

set_option maxHeartbeats 1000000 in
theorem frs_has (w0 : World) (B : Nat) (L : List De) (s : ByteArray) (w : World) (h : FrHeld w0 w B L) (hs : s.size ≤ maxLen) :
    Calls Tryz.prog 90 #[.map (some B), .string s] w fun e w' => e = .returned (.bool (hasNm L s)) ∧ Below w.heap.size w w' := by
  obtain ⟨D, n, hown, hh, hat⟩ := h.at_ s
  have hkey := key_of hs
  obtain ⟨u, hu, x, a, c, rfl⟩ : ∃ u, D.atKey (.string s.toList) (.held (deV de0 .none 0)) = .held u ∧ ∃ x a c, u = deV x a c := by
    rcases hat with ⟨_, hat⟩ | ⟨x, _, a, c, _, _, hat, _⟩
    · exact ⟨_, hat, _, _, _, rfl⟩
    · exact ⟨_, hat, _, _, _, rfl⟩
  clear hat
  generalize hasNm L s = f at *
  go_enter Tryz.func90, Tryz.ntmps90
  unfold deV at hu
  go_wp2_with (first
    | (at_lookup; refine wpList_lookup_held _ rfl _ _ 96 rfl 9 77 law9 Tryz.underlying96 (zeroDef _) B n D rfl hown _ _ rfl hkey _ hu f hh ?_)
    | go_in)
  go_ret
  exact ⟨rfl, by repeat (first | exact Below.refl _ _ | refine Below.setCell ?_ (by first | omega | (simp <;> omega)) _ | refine Below.alloc ?_ (by first | omega | (simp <;> omega)) _)⟩

set_option maxHeartbeats 4000000 in
set_option maxRecDepth 40000 in
theorem frs_of (a : Option Addr) (c : Nat) (l : List De) (w : World) (hr : DeRow 0 w.heap.size w a l) (hb : DefsBd 1048576 l) :
    Calls Tryz.prog 55 #[.agg #[.slice a l.length c]] w fun e w' => ∃ B, e = .returned (.map (some B)) ∧ w.heap.size ≤ B ∧ FrHeld w w' B (frsOf l) ∧ Below w.heap.size w w' := by
  have HR : Hid (DeRow 0 w.heap.size w a l) := hr
  have HB : Hid (DefsBd 1048576 l) := hb
  have hl : l.length ≤ 1048576 := hb.1
  clear hr hb
  have hmk := make_frs (w.alloc (.cells #[.slice a l.length c] 38))
  rw [show (w.alloc (.cells #[.slice a l.length c] 38)).heap.size = w.heap.size + 1 by simp] at hmk
  go_enter Tryz.func55, Tryz.ntmps55
  go_wp2_with fail
  obtain ⟨W, hW⟩ : ∃ W, W = (w.alloc (.cells #[.slice a l.length c] 38)).alloc (.map #[] 0) := ⟨_, rfl⟩
  rw [← hW]
  have B0 : Below w.heap.size w W := by rw [hW]; exact ((Below.refl _ _).alloc (Nat.le_refl _) _).alloc (by simp) _
  have F0 : Hid (FrHeld w W (w.heap.size + 1) (frsOf (l.take 0))) := by
    have := FrHeld.none w (w.alloc (.cells #[.slice a l.length c] 38))
    unfold Hid
    rw [hW, List.take_zero]
    change FrHeld w _ (w.heap.size + 1) []
    simpa using this
  clear hW hmk
  go_loopw [10] (fun i w' => ∃ (k : Nat), k ≤ l.length ∧ i = .int .i64 k ∧ Below w.heap.size w w' ∧ Hid (FrHeld w w' (w.heap.size + 1) (frsOf (l.take k)))) (fun i _ => l.length - (intOf i).toNat)
  case atStart => exact ⟨0, by omega, rfl, B0, F0⟩
  case round =>
    obtain ⟨k, hk, rfl, hb, HF⟩ := hrel
    have hbz := hb.size
    have hBl : w.heap.size + 1 < wr.heap.size := HF.out.lt
    by_cases hlt : k < l.length
    case neg =>
      have HN : Hid (FrHeld w wr (w.heap.size + 1) (frsOf l)) := by have := HF.out; rwa [List.take_of_length_le (by omega)] at this
      go_wp2_with fail
      go_ret
      exact ⟨_, rfl, by omega, HN.out, hb⟩
    obtain ⟨b, o, a3, c3, ha, _, hbl, d0, d1, d2, d3, r3⟩ := DeRow.cells HR.out k hlt
    subst ha
    have e0 := (hb.cell (p := ⟨b, o + k * 4, none⟩) hbl).trans d0
    have e1 := (hb.cell (p := ⟨b, o + k * 4 + 1, none⟩) hbl).trans d1
    have e2 := (hb.cell (p := ⟨b, o + k * 4 + 2, none⟩) hbl).trans d2
    have e3 := (hb.cell (p := ⟨b, o + k * 4 + 3, none⟩) hbl).trans d3
    have R3 : Hid (SelRow 0 w.heap.size w a3 l[k].sels) := r3
    have hsz : l[k].nm.size ≤ 1048576 := (HB.out.2 _ (List.getElem_mem hlt)).1
    clear d0 d1 d2 d3 r3
    have HL : Hid ((frsOf (l.take k)).length ≤ 1048576) := by have := frs_len (l.take k); rw [List.length_take] at this; unfold Hid; omega
    have HT : Hid (frsOf (l.take (k + 1)) = addFr (frsOf (l.take k)) l[k]) := frs_take hlt
    generalize frsOf (l.take k) = L at *
    cases h3 : (l[k].k == 3) with
    | false =>
      have HE : Hid (frsOf (l.take (k + 1)) = L) := by rw [Hid, HT.out]; unfold addFr; rw [h3]; rfl
      go_wp2_with fail
      exact ⟨⟨k + 1, by omega, by go_num, hb.alloc (by omega) _, by rw [HE.out]; exact HF.out.keep (Below.heap_alloc _ _ _ hBl)⟩, by simp [intOf]; omega⟩
    | true =>
    go_wp2_with fail
    refine (frs_has w (w.heap.size + 1) L l[k].nm _ (HF.out.keep (Below.heap_alloc _ _ _ hBl)) (by unfold maxLen; omega)).mono ?_
    rintro e w1 ⟨rfl, hb1⟩
    have z1 : wr.heap.size + 1 ≤ w1.heap.size := by have := hb1.size; simpa using this
    have P1 : Hid (Below wr.heap.size wr w1) := ((Below.refl _ _).alloc (Nat.le_refl _) _).trans (hb1.mono (by simp))
    have H1 : Hid (FrHeld w w1 (w.heap.size + 1) L) := HF.out.keep (P1.out.block _ hBl)
    have k1 := fun o => hb1.cell (p := ⟨wr.heap.size, o, none⟩) (by simp)
    have Q1 : Hid (Below w.heap.size w w1) := hb.trans (P1.out.mono hbz)
    clear hb1 e0 e1 e2 e3
    cases hh : hasNm L l[k].nm with
    | true =>
      have HE : Hid (frsOf (l.take (k + 1)) = L) := by rw [Hid, HT.out]; unfold addFr; rw [h3, hh]; rfl
      go_wp2_with fail
      exact ⟨⟨k + 1, by omega, by go_num, Q1.out, by rw [HE.out]; exact H1.out⟩, by simp [intOf]; omega⟩
    | false =>
    have HE : Hid (frsOf (l.take (k + 1)) = L ++ [l[k]]) := by rw [Hid, HT.out]; unfold addFr; rw [h3, hh]; rfl
    obtain ⟨D, n, hown, hn1, hn2, hn3, hn4⟩ := H1.out
    have HO : Hid _ := hown
    have hkey : keyOf Tryz.prog 9 (.string l[k].nm) = some (.string l[k].nm.toList) := key_of (by unfold maxLen; omega)
    have HP : Hid (∀ W', W'.ownsMap Tryz.prog 9 heldE (w.heap.size + 1) (n + 1) (D.put (.string l[k].nm.toList) (.held (.agg #[.int .i64 l[k].k, .string l[k].nm, .string l[k].on, .slice a3 l[k].sels.len c3]))) → FrHeld w W' (w.heap.size + 1) (L ++ [l[k]])) :=
      fun W' h => FrHeld.put (hown.tidy law9) hh hn1 hn2 hn3 hn4 R3.out h
    have hnm : n < maxLen := by have := HL.out; unfold maxLen; omega
    clear hown hn1 hn2 hn3 hn4 hh H1
    go_wp2_with (first
      | (at_mapUpdate; refine wpList_mapUpdate_in _ rfl _ _ _ 96 rfl 9 77 law9 Tryz.underlying96 heldE (w.heap.size + 1) n D rfl HO.out hnm _ _ _ rfl rfl hkey _ [] rfl ?_; intro w2 hown2 hturn)
      | fail)
    have H2 : Hid (FrHeld w w2 (w.heap.size + 1) (L ++ [l[k]])) := HP.out _ hown2
    have Q2 : Hid (Below w.heap.size w w2) := Q1.out.grown hturn.grown (by omega) (fun k hk => by simp at hk; omega)
    clear hown2 hturn k1
    go_wp2_with fail
    exact ⟨⟨k + 1, by omega, by go_num, Q2.out, by rw [HE.out]; exact H2.out⟩, by simp [intOf]; omega⟩
end Go.Proofs.YthbjihbpjajggaaGreat
