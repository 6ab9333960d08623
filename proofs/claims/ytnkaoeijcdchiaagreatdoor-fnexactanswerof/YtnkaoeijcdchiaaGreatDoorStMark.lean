/- The law's marks written into a store that the call owns, and held. -/
import Derived.Test.YtnkaoeijcdchiaaGreatDoorNameOK
import Derived.Below
import Derived.Deep.Slices
import Derived.Deep.Strs
import Derived.Lib.SmallJoins
import Derived.Deep.QuietTactic
import Derived.BigQuiet
import Derived.Deep.RegionWith
import Derived.Laws.EntriesVeiled
import Derived.WalkSmall
namespace Go.Proofs.YtnkaoeijcdchiaaGreatDoor.G
open Go.ChangeShapes Go.WideShapes Go.ChangeAt Go.RowKit
set_option linter.unusedVariables false

def rdOf (w : World) (b : Nat) : Nat → Option Value := fun j => w.cell? ⟨b, j, none⟩
/-- A row of elements of some cells each, in a block from lo up and below hi; any place where there is none. -/
def Row {α : Type} (at_ : (Nat → Option Value) → Nat → α → Prop) (z : Nat) (lo hi : Nat) (w : World) (a : Option Addr) (l : List α) : Prop :=
  l = [] ∨ ∃ b o, a = some ⟨b, o, none⟩ ∧ lo ≤ b ∧ b < hi ∧ ∀ i x, l[i]? = some x → at_ (rdOf w b) (o + i * z) x
/-- Two worlds agree on the blocks from lo up and below hi. -/
def Agree (lo hi : Nat) (w w' : World) : Prop := ∀ g, lo ≤ g → g < hi → w'.heap[g]? = w.heap[g]?
theorem Agree.rd {lo hi : Nat} {w w' : World} (h : Agree lo hi w w') {b : Nat} (h1 : lo ≤ b) (h2 : b < hi) : rdOf w' b = rdOf w b := by
  funext j; simp only [rdOf, World.cell?, h b h1 h2]
theorem agree {B : Nat} {w w' : World} (h : Below B w w') {lo hi : Nat} (hh : hi ≤ B) : Agree lo hi w w' := fun g _ h2 => h.block g (by omega)
theorem Row.at_ {α : Type} {at_ : (Nat → Option Value) → Nat → α → Prop} {z lo hi : Nat} {w : World} {a : Option Addr} {l : List α} (h : Row at_ z lo hi w a l) (k : Nat) (hk : k < l.length) :
    ∃ b o, a = some ⟨b, o, none⟩ ∧ lo ≤ b ∧ b < hi ∧ at_ (rdOf w b) (o + k * z) l[k] := by
  rcases h with rfl | ⟨b, o, rfl, h1, h2, h3⟩
  · simp at hk
  · exact ⟨b, o, rfl, h1, h2, h3 k l[k] (List.getElem?_eq_getElem hk)⟩
theorem Row.of {α : Type} {at1 at2 : (Nat → Option Value) → Nat → α → Prop} {z lo hi : Nat} {w w' : World} {a : Option Addr} {l : List α} (h : Row at1 z lo hi w a l) (hk : Agree lo hi w w') (hi' : ∀ rd o x, at1 rd o x → at2 rd o x) : Row at2 z lo hi w' a l := by
  rcases h with h | ⟨b, o, rfl, h1, h2, h3⟩
  · exact .inl h
  · exact .inr ⟨b, o, rfl, h1, h2, fun i x hx => by rw [hk.rd h1 h2]; exact hi' _ _ _ (h3 i x hx)⟩
theorem Row.out {α : Type} {at1 at2 : (Nat → Option Value) → Nat → α → Prop} {z lo hi lo' hi' : Nat} {w : World} {a : Option Addr} {l : List α} (h : Row at1 z lo hi w a l) (e1 : lo' ≤ lo) (e2 : hi ≤ hi') (hx : ∀ rd o x, at1 rd o x → at2 rd o x) : Row at2 z lo' hi' w a l := by
  rcases h with h | ⟨b, o, rfl, h1, h2, h3⟩
  · exact .inl h
  · exact .inr ⟨b, o, rfl, by omega, by omega, fun i x h => hx _ _ _ (h3 i x h)⟩

theorem cell_lt {W : World} {a : Addr} {v : Value} (h : W.cell? a = some v) : a.block < W.heap.size := by
  refine Nat.lt_of_not_le fun hle => ?_
  simp [World.cell?, Array.getElem?_eq_none hle] at h
theorem list_of {α : Type} {len : Nat} {p : Nat → α → Prop} (h : ∀ i, i < len → ∃ x, p i x) : ∃ l : List α, l.length = len ∧ ∀ i x, l[i]? = some x → p i x := by
  induction len with
  | zero => exact ⟨[], rfl, by simp⟩
  | succ n ih =>
    obtain ⟨l, hl, hp⟩ := ih fun i hi => h i (by omega)
    obtain ⟨y, hy⟩ := h n (by omega)
    refine ⟨l ++ [y], by simp [hl], fun i x hx => ?_⟩
    by_cases hi : i < n
    · rw [List.getElem?_append_left (by omega)] at hx; exact hp i x hx
    · rw [List.getElem?_append_right (by omega)] at hx
      have : i - l.length < 1 := by have := (List.getElem?_eq_some_iff.1 hx).1; simpa using this
      obtain rfl : i = n := by omega
      rw [hl, Nat.sub_self] at hx
      simp at hx; subst hx; exact hy
section
variable {H : Type} {enc : TypeId × Value → H} {W : World}
/-- A slice's cell opened: its elements' cells, each with its own reading. -/
theorem sl_open {t e : TypeId} {z : Nat} {fuel : Nat} {cs : List Value} {x : DataW H × List MemPlace} (ht : Tryz.prog.underlying t = some (.slice e)) (hz : Tryz.prog.cellsOf e = z) (hz0 : 0 < z) (h : DataW.trod enc Tryz.prog W 0 (fun _ => true) true fuel t cs = some x) :
    ∃ a len cap, cs = [.slice a len cap] ∧ len ≤ maxLen ∧ (len = 0 ∨ ∃ n b o, fuel = n + 1 ∧ a = some ⟨b, o, none⟩ ∧ b < W.heap.size ∧
      ∀ i, i < len → ∃ cs' y, cs'.length = z ∧ (∀ j, j < z → rdOf W b (o + i * z + j) = cs'[j]?) ∧ DataW.trod enc Tryz.prog W 0 (fun _ => true) true n e cs' = some y) := by
  rcases DataW.trod_slice ht h with ⟨rfl, _⟩ | ⟨a, len, cap, elems, rest, n, rfl, rfl, _, hb, hl, hm, hlen, hel, _, _⟩
  · exact ⟨none, 0, 0, rfl, Nat.zero_le _, .inl rfl⟩
  · refine ⟨some a, len, cap, rfl, by omega, ?_⟩
    by_cases h0 : len = 0
    · exact .inl h0
    rw [hz] at hel
    have key : ∀ i, i < len → ∃ cs' y, cs'.length = z ∧ (∀ j, j < z → W.cell? ((a.add (i * z)).add j) = cs'[j]?) ∧ DataW.trod enc Tryz.prog W 0 (fun _ => true) true n e cs' = some y := by
      intro i hi
      have := hel i hi
      rw [List.getElem?_eq_getElem (by omega), Option.bind_eq_some_iff] at this
      obtain ⟨cs', h1, h2⟩ := this
      obtain ⟨_, hcl, hc⟩ := World.cells?_some h1
      exact ⟨cs', _, hcl, hc, h2⟩
    obtain ⟨b, o, spot⟩ := a
    obtain ⟨cs', y, hcl, hc, _⟩ := key 0 (by omega)
    have hc0 := hc 0 hz0
    rw [List.getElem?_eq_getElem (by omega)] at hc0
    have hspot : spot = none := by
      have := World.cell?_spot hc0
      simpa [Addr.add] using this
    subst hspot
    refine .inr ⟨n, b, o, rfl, rfl, (by have := cell_lt hc0; simpa [Addr.add] using this), fun i hi => ?_⟩
    obtain ⟨cs', y, hcl, hc, hd⟩ := key i hi
    refine ⟨cs', y, hcl, fun j hj => ?_, hd⟩
    have := hc j hj
    simp only [add_plain] at this
    exact this
end
def Sz (n m : Int) (p : Prop) : Prop := m ≤ n ∧ -1 ≤ m ∧ (0 ≤ m → p)
theorem Sz.mono {n n' m : Int} {p q : Prop} (h : Sz n m p) (hn : n ≤ n') (hp : p → q) : Sz n' m q := ⟨by have := h.1; omega, h.2.1, fun h0 => hp (h.2.2 h0)⟩
theorem Sz.neg {n : Int} {p : Prop} (h : 0 ≤ n) : Sz n (-1) p := ⟨by omega, by omega, fun h => by omega⟩
theorem all_take {α : Type} {p : α → Prop} {l : List α} {k : Nat} (hk : k < l.length) (h : ∀ x ∈ l.take k, p x) (h2 : p l[k]) : ∀ x ∈ l.take (k + 1), p x := by
  rw [List.take_succ_eq_append_getElem hk]
  intro x hx
  rcases List.mem_append.1 hx with hx | hx
  · exact h x hx
  · simp only [List.mem_singleton] at hx; subst hx; exact h2
theorem all_take_b {α : Type} {p : α → Bool} {l : List α} {k : Nat} (hk : k < l.length) (h : (l.take k).all p = true) (h2 : p l[k] = true) : (l.take (k + 1)).all p = true := by
  rw [List.take_succ_eq_append_getElem hk, List.all_append, h]; simp [h2]
theorem all_no_b {α : Type} {p : α → Bool} {l : List α} {k : Nat} (hk : k < l.length) (h2 : p l[k] = false) : l.all p = false := by
  rw [List.all_eq_false]
  exact ⟨l[k], List.getElem_mem hk, by simp [h2]⟩
theorem size_one {w w' : World} {o : Obj} {B : Nat} (hb : Below B (w.alloc o) w') : w.heap.size + 1 ≤ w'.heap.size := by have := hb.size; simpa using this
theorem below_one {w w1 : World} {o : Obj} (h : Below (w.alloc o).heap.size (w.alloc o) w1) : Below w.heap.size w w1 := ((Below.refl _ _).alloc (Nat.le_refl _) _).trans (h.mono (by simp))
theorem ret_ints {a b c d : Int} (h1 : a = b) (h2 : c = d) : Ending.returned (.tuple #[.int .i64 a, .int .i64 c]) = .returned (.tuple #[.int .i64 b, .int .i64 d]) := by rw [h1, h2]
theorem ret_int {a b : Int} (h1 : a = b) : Ending.returned (.int .i64 a) = .returned (.int .i64 b) := by rw [h1]
theorem row_cell {w : World} {N : Nat} {e : TypeId} {cs : Array Value} (h : w.heap[N]? = some (.cells cs e (0, 0))) (j : Nat) : w.cell? ⟨N, j, none⟩ = cs[j]? := cell_of_row w N j cs e _ h
theorem row_frozen {w : World} {N : Nat} {e : TypeId} {cs : Array Value} (h : w.heap[N]? = some (.cells cs e (0, 0))) (j : Nat) : w.frozen? ⟨N, j, none⟩ = false := by
  simp [World.frozen?, h]
theorem row_set {w : World} {N : Nat} {e : TypeId} {cs : Array Value} (h : w.heap[N]? = some (.cells cs e (0, 0))) (j : Nat) (v : Value) : (w.setCell ⟨N, j, none⟩ v).heap[N]? = some (.cells (cs.setIfInBounds j v) e (0, 0)) := by
  rw [setCell_eq_setRow w N j cs e _ v h]; exact setRow_heap w N cs _ e _ h
theorem row_rd {w : World} {N : Nat} {e : TypeId} {cs : Array Value} (h : w.heap[N]? = some (.cells cs e (0, 0))) : rdOf w N = fun j => cs[j]? := by
  funext j; exact row_cell h j
theorem heap_set (w : World) (b o : Nat) (v : Value) (g : Nat) (h : g ≠ b) : (w.setCell ⟨b, o, none⟩ v).heap[g]? = w.heap[g]? := Below.heap_setCell _ _ _ _ h
/-- The first k of a row are laid. -/
def LaidR {α : Type} (at_ : (Nat → Option Value) → Nat → α → Prop) (z : Nat) (cs : Array Value) (l : List α) (k : Nat) : Prop := ∀ i x, i < k → l[i]? = some x → at_ (fun j => cs[j]?) (i * z) x
end Go.Proofs.YtnkaoeijcdchiaaGreatDoor.G
namespace Go.Proofs.YtnkaoeijcdchiaaGreatDoor.G
open Go.ChangeShapes Go.WideShapes Go.ChangeAt Go.RowKit
set_option linter.unusedVariables false

structure Ve where
  ts : Int
  v : Int
abbrev Chs := List (List Ve)
def VeAt (rd : Nat → Option Value) (o : Nat) (x : Ve) : Prop := rd o = some (.int .i64 x.ts) ∧ rd (o + 1) = some (.int .i64 x.v)
abbrev VeRow (lo hi : Nat) (w : World) (a : Option Addr) (l : List Ve) : Prop := Row VeAt 2 lo hi w a l
theorem VeRow.keep {lo hi : Nat} {w w' : World} {a : Option Addr} {l : List Ve} (h : VeRow lo hi w a l) (hk : Agree lo hi w w') : VeRow lo hi w' a l := Row.of h hk fun _ _ _ hx => hx
theorem VeRow.wide {lo hi lo' hi' : Nat} {w : World} {a : Option Addr} {l : List Ve} (h : VeRow lo hi w a l) (e1 : lo' ≤ lo) (e2 : hi ≤ hi') : VeRow lo' hi' w a l := Row.out h e1 e2 fun _ _ _ hx => hx
theorem VeRow.up {w w' : World} {a : Option Addr} {l : List Ve} (h : VeRow 0 w.heap.size w a l) (hb : Below w.heap.size w w') : VeRow 0 w'.heap.size w' a l := VeRow.wide (VeRow.keep h (agree hb (Nat.le_refl _))) (Nat.le_refl _) hb.size
theorem VeRow.cells {lo hi : Nat} {w : World} {a : Option Addr} {l : List Ve} (h : VeRow lo hi w a l) (k : Nat) (hk : k < l.length) :
    ∃ b o, a = some ⟨b, o, none⟩ ∧ lo ≤ b ∧ b < hi ∧ w.cell? ⟨b, o + k * 2, none⟩ = some (.int .i64 l[k].ts) ∧ w.cell? ⟨b, o + k * 2 + 1, none⟩ = some (.int .i64 l[k].v) := by
  obtain ⟨b, o, e1, e2, e3, h0, h1⟩ := Row.at_ h k hk
  exact ⟨b, o, e1, e2, e3, h0, h1⟩
/-- A chain's cell: a slice over its versions. -/
def ChAt (lo hi : Nat) (w : World) (rd : Nat → Option Value) (o : Nat) (x : List Ve) : Prop := ∃ a c, rd o = some (.slice a x.length c) ∧ x.length ≤ c ∧ VeRow lo hi w a x
abbrev ChRow (lo hi : Nat) (w : World) (a : Option Addr) (l : Chs) : Prop := Row (ChAt lo hi w) 1 lo hi w a l
def ChsBd (m : Nat) (l : Chs) : Prop := l.length ≤ m ∧ ∀ x ∈ l, x.length ≤ m
theorem ChAt.keep {lo hi : Nat} {w w' : World} {rd : Nat → Option Value} {o : Nat} {x : List Ve} (hh : ChAt lo hi w rd o x) (hk : Agree lo hi w w') : ChAt lo hi w' rd o x := by
  obtain ⟨a, c, p, q, r⟩ := hh
  exact ⟨a, c, p, q, VeRow.keep r hk⟩
theorem ChAt.wide {lo hi lo' hi' : Nat} {w : World} {rd : Nat → Option Value} {o : Nat} {x : List Ve} (hh : ChAt lo hi w rd o x) (e1 : lo' ≤ lo) (e2 : hi ≤ hi') : ChAt lo' hi' w rd o x := by
  obtain ⟨a, c, p, q, r⟩ := hh
  exact ⟨a, c, p, q, VeRow.wide r e1 e2⟩
theorem ChRow.keep {lo hi : Nat} {w w' : World} {a : Option Addr} {l : Chs} (h : ChRow lo hi w a l) (hk : Agree lo hi w w') : ChRow lo hi w' a l := Row.of h hk fun _ _ _ hx => ChAt.keep hx hk
theorem ChRow.wide {lo hi lo' hi' : Nat} {w : World} {a : Option Addr} {l : Chs} (h : ChRow lo hi w a l) (e1 : lo' ≤ lo) (e2 : hi ≤ hi') : ChRow lo' hi' w a l := Row.out h e1 e2 fun _ _ _ hx => ChAt.wide hx e1 e2
theorem ChRow.up {w w' : World} {a : Option Addr} {l : Chs} (h : ChRow 0 w.heap.size w a l) (hb : Below w.heap.size w w') : ChRow 0 w'.heap.size w' a l := ChRow.wide (ChRow.keep h (agree hb (Nat.le_refl _))) (Nat.le_refl _) hb.size
theorem ChRow.cells {lo hi : Nat} {w : World} {a : Option Addr} {l : Chs} (h : ChRow lo hi w a l) (k : Nat) (hk : k < l.length) :
    ∃ b o a3 c3, a = some ⟨b, o, none⟩ ∧ lo ≤ b ∧ b < hi ∧ w.cell? ⟨b, o + k, none⟩ = some (.slice a3 l[k].length c3) ∧ l[k].length ≤ c3 ∧ VeRow lo hi w a3 l[k] := by
  obtain ⟨b, o, e1, e2, e3, a3, c3, h0, h1, h2⟩ := Row.at_ h k hk
  rw [Nat.mul_one] at h0
  exact ⟨b, o, a3, c3, e1, e2, e3, h0, h1, h2⟩
theorem listTwo {α : Type} {l : List α} (h : l.length = 2) : ∃ v0 v1, l = [v0, v1] := by
  match l, h with
  | [v0, v1], _ => exact ⟨v0, v1, rfl⟩
section
variable {H : Type} {enc : TypeId × Value → H} {W : World}
end
end Go.Proofs.YtnkaoeijcdchiaaGreatDoor.G
namespace Go.Proofs.YtnkaoeijcdchiaaGreatDoor.G
open Go.ChangeShapes Go.WideShapes Go.ChangeAt Go.RowKit
set_option linter.unusedVariables false

end Go.Proofs.YtnkaoeijcdchiaaGreatDoor.G
namespace Go.Proofs.YtnkaoeijcdchiaaGreatDoor.G
open Go.ChangeShapes Go.WideShapes Go.ChangeAt Go.RowKit
set_option linter.unusedVariables false

def VeCell (cs : Array Value) (o : Nat) (x : Ve) : Prop := cs[o]? = some (.int .i64 x.ts) ∧ cs[o + 1]? = some (.int .i64 x.v)
def bput (bs : Nat → Nat) (k g : Nat) : Nat → Nat := fun i => if i = k then g else bs i
theorem bput_at (bs : Nat → Nat) (k g : Nat) : bput bs k g k = g := by simp [bput]
theorem bput_ne (bs : Nat → Nat) (k g : Nat) {i : Nat} (h : i ≠ k) : bput bs k g i = bs i := by simp [bput, h]
theorem put_ve {cs : Array Value} {l : List Ve} {k : Nat} (hs : cs.size = l.length * 2) (hk : k < l.length) (h : ∀ i x, i < k → l[i]? = some x → VeCell cs (i * 2) x) :
    ∀ i x, i < k + 1 → l[i]? = some x → VeCell ((cs.setIfInBounds (k * 2) (.int .i64 l[k].ts)).setIfInBounds (k * 2 + 1) (.int .i64 l[k].v)) (i * 2) x := by
  intro i x hi hx
  by_cases hik : i = k
  · subst hik
    rw [List.getElem?_eq_getElem hk] at hx
    simp only [Option.some.injEq] at hx
    subst hx
    refine ⟨?_, ?_⟩ <;> simp [Array.getElem?_setIfInBounds] <;> omega
  · obtain ⟨c0, c1⟩ := h i x (by omega) hx
    refine ⟨?_, ?_⟩
    · rw [Array.getElem?_setIfInBounds_ne (by omega), Array.getElem?_setIfInBounds_ne (by omega)]; exact c0
    · rw [Array.getElem?_setIfInBounds_ne (by omega), Array.getElem?_setIfInBounds_ne (by omega)]; exact c1

end Go.Proofs.YtnkaoeijcdchiaaGreatDoor.G
namespace Go.Proofs.YtnkaoeijcdchiaaGreatDoor.G
open Go.ChangeShapes Go.WideShapes Go.ChangeAt Go.RowKit
set_option linter.unusedVariables false

end Go.Proofs.YtnkaoeijcdchiaaGreatDoor.G
namespace Go.Proofs.YtnkaoeijcdchiaaGreatDoor.G
set_option linter.unusedVariables false

def intB (v : Int) : Bool := decide (-2147483648 ≤ v ∧ v ≤ 2147483647)
def nodeB (v : Int) : Bool := decide (0 ≤ v ∧ v ≤ 8)
/-- A value of a key. -/
def valB (key v : Int) : Bool := if key % 2 = 1 then nodeB v else intB v
def keyS (key : Int) : Bool := decide (0 ≤ key ∧ key < 16)
def putB (key v : Int) : Bool := keyS key && valB key v
def tsAt (l : List Ve) (i : Nat) : Int := (l[i]?.map Ve.ts).getD 0
def vAt (l : List Ve) (i : Nat) : Int := (l[i]?.map Ve.v).getD 0
/-- The hour of the version ahead of one; 0 ahead of the first. -/
def prevTs (l : List Ve) : Nat → Int
  | 0 => 0
  | i + 1 => tsAt l i
def okB (key : Int) (now : Int) (l : List Ve) (i : Nat) : Bool := decide (prevTs l i < tsAt l i) && decide (tsAt l i ≤ now) && valB key (vAt l i)
def chainB (key : Int) (now : Int) (l : List Ve) : Bool := (List.range l.length).all (okB key now l)
def chAt (l : Chs) (i : Nat) : List Ve := l[i]?.getD []
def chainsB (l : Chs) (now : Int) : Bool := (List.range l.length).all (fun i => chainB i now (chAt l i))
def storeB (l : Chs) (now : Int) : Bool := decide (l.length = 16) && decide (0 ≤ now ∧ now ≤ 100000) && chainsB l now

theorem tsAt_eq {l : List Ve} {i : Nat} (h : i < l.length) : tsAt l i = l[i].ts := by simp [tsAt, h]
theorem vAt_eq {l : List Ve} {i : Nat} (h : i < l.length) : vAt l i = l[i].v := by simp [vAt, h]
theorem chAt_eq {l : Chs} {i : Nat} (h : i < l.length) : chAt l i = l[i] := by simp [chAt, h]
theorem chainB_true {key now : Int} {l : List Ve} (h : ∀ i, i < l.length → okB key now l i = true) : chainB key now l = true := by
  unfold chainB; rw [List.all_eq_true]; intro i hi; exact h i (List.mem_range.1 hi)
theorem chainB_false {key now : Int} {l : List Ve} {i : Nat} (hi : i < l.length) (h : okB key now l i = false) : chainB key now l = false := by
  unfold chainB; rw [List.all_eq_false]; exact ⟨i, List.mem_range.2 hi, by simp [h]⟩
theorem chainB_at {key now : Int} {l : List Ve} (h : chainB key now l = true) {i : Nat} (hi : i < l.length) : okB key now l i = true := by
  unfold chainB at h; rw [List.all_eq_true] at h; exact h i (List.mem_range.2 hi)
theorem chainsB_true {l : Chs} {now : Int} (h : ∀ i (hi : i < l.length), chainB i now l[i] = true) : chainsB l now = true := by
  unfold chainsB; rw [List.all_eq_true]; intro i hi; have hi := List.mem_range.1 hi; rw [chAt_eq hi]; exact h i hi
theorem chainsB_false {l : Chs} {now : Int} {i : Nat} (hi : i < l.length) (h : chainB i now l[i] = false) : chainsB l now = false := by
  unfold chainsB; rw [List.all_eq_false]; exact ⟨i, List.mem_range.2 hi, by simp [chAt_eq hi, h]⟩
theorem chainsB_at {l : Chs} {now : Int} (h : chainsB l now = true) {i : Nat} (hi : i < l.length) : chainB i now l[i] = true := by
  unfold chainsB at h; rw [List.all_eq_true] at h; have := h i (List.mem_range.2 hi); rwa [chAt_eq hi] at this
theorem storeB_len {l : Chs} {now : Int} (h : l.length ≠ 16) : storeB l now = false := by simp [storeB, h]
theorem storeB_now {l : Chs} {now : Int} (h : ¬ (0 ≤ now ∧ now ≤ 100000)) : storeB l now = false := by
  have : decide (0 ≤ now ∧ now ≤ 100000) = false := by simpa using h
  simp only [storeB, this]; simp
theorem storeB_chains {l : Chs} {now : Int} (h : l.length = 16) (h2 : 0 ≤ now ∧ now ≤ 100000) : storeB l now = chainsB l now := by simp [storeB, h, h2]
theorem storeB_all {l : Chs} {now : Int} (h : storeB l now = true) : l.length = 16 ∧ 0 ≤ now ∧ now ≤ 100000 ∧ chainsB l now = true := by
  simp only [storeB, Bool.and_eq_true, decide_eq_true_eq] at h
  exact ⟨h.1.1, h.1.2.1, h.1.2.2, h.2⟩
theorem okB_parts {key now : Int} {l : List Ve} {i : Nat} (h : okB key now l i = true) : prevTs l i < tsAt l i ∧ tsAt l i ≤ now ∧ valB key (vAt l i) = true := by
  simp only [okB, Bool.and_eq_true, decide_eq_true_eq] at h
  exact ⟨h.1.1, h.1.2, h.2⟩
theorem okB_mk {key now : Int} {l : List Ve} {i : Nat} (h1 : prevTs l i < tsAt l i) (h2 : tsAt l i ≤ now) (h3 : valB key (vAt l i) = true) : okB key now l i = true := by
  simp [okB, h1, h2, h3]
theorem okB_no1 {key now : Int} {l : List Ve} {i : Nat} (h1 : ¬ prevTs l i < tsAt l i) : okB key now l i = false := by simp [okB, h1]
theorem okB_no2 {key now : Int} {l : List Ve} {i : Nat} (h1 : ¬ tsAt l i ≤ now) : okB key now l i = false := by simp [okB, h1]
theorem okB_no3 {key now : Int} {l : List Ve} {i : Nat} (h1 : valB key (vAt l i) = false) : okB key now l i = false := by simp [okB, h1]
/-- The hours of a right chain rise. -/
theorem chain_rise {key now : Int} {l : List Ve} (h : chainB key now l = true) : ∀ i j, i < j → j < l.length → tsAt l i < tsAt l j := by
  intro i j hij hj
  induction j with
  | zero => omega
  | succ j ih =>
    have h1 := (okB_parts (chainB_at h hj)).1
    simp only [prevTs] at h1
    by_cases e : i = j
    · subst e; exact h1
    · have := ih (by omega) (by omega); omega
theorem chain_pos {key now : Int} {l : List Ve} (h : chainB key now l = true) : ∀ i, i < l.length → 1 ≤ tsAt l i ∧ tsAt l i ≤ now := by
  intro i hi
  have h0 := okB_parts (chainB_at h (show 0 < l.length by omega))
  simp only [prevTs] at h0
  have h1 := okB_parts (chainB_at h hi)
  by_cases e : i = 0
  · subst e; omega
  · have := chain_rise h 0 i (by omega) hi; omega
end Go.Proofs.YtnkaoeijcdchiaaGreatDoor.G
namespace Go.Proofs.YtnkaoeijcdchiaaGreatDoor.G
open Go.ChangeShapes Go.WideShapes Go.ChangeAt Go.RowKit
set_option linter.unusedVariables false

theorem ret_b {a b : Bool} (h : a = b) : Ending.returned (.bool a) = .returned (.bool b) := by rw [h]
set_option maxHeartbeats 400000 in
theorem impl_isKey (key : Int) (w : World) : Calls Tryz.prog 116 #[.int .i64 key] w fun e w' => e = .returned (.bool (keyS key)) ∧ w' = w := by
  go_enter Tryz.func116, Tryz.ntmps116
  go_wp2
  all_goals (go_ret; exact ⟨ret_b (by unfold keyS; rw [Bool.eq_iff_iff]; simp; try omega), rfl⟩)
set_option maxHeartbeats 400000 in
theorem impl_isInt (v : Int) (w : World) : Calls Tryz.prog 117 #[.int .i64 v] w fun e w' => e = .returned (.bool (intB v)) ∧ w' = w := by
  go_enter Tryz.func117, Tryz.ntmps117
  go_wp2
  all_goals (go_ret; exact ⟨ret_b (by unfold intB; rw [Bool.eq_iff_iff]; simp; try omega), rfl⟩)
theorem keyB_iff (key : Int) : keyS key = true ↔ 0 ≤ key ∧ key < 16 := by simp [keyS]
set_option maxHeartbeats 1000000 in
theorem impl_putOK (key v : Int) (w : World) : Calls Tryz.prog 88 #[.agg #[.int .i64 key, .int .i64 v]] w fun e w' => e = .returned (.bool (putB key v)) ∧ Below w.heap.size w w' := by
  have B0 : Hid (Below w.heap.size w (w.alloc (.cells #[.int .i64 key, .int .i64 v] 79))) := (Below.refl _ _).alloc (Nat.le_refl _) _
  cases hk : keyS key
  · have HN : Hid (false = putB key v) := by simp [Hid, putB, hk]
    go_enter Tryz.func88, Tryz.ntmps88
    go_wp2_with (first | (go_at_call 116; refine (impl_isKey _ _).mono ?_; rintro e w' ⟨rfl, rfl⟩; rw [hk]))
    go_ret
    exact ⟨ret_b HN.out, B0.out⟩
  · obtain ⟨g1, g2⟩ := (keyB_iff key).1 hk
    by_cases h2 : key % 2 = 0
    · have HN : Hid (intB v = putB key v) := by simp only [Hid, putB, hk, valB]; rw [if_neg (by omega)]; simp
      have h2' : (key % 2 == 0) = true := by simpa using h2
      go_enter Tryz.func88, Tryz.ntmps88
      go_wp2_with (first | (go_at_call 116; refine (impl_isKey _ _).mono ?_; rintro e w' ⟨rfl, rfl⟩; rw [hk]) | (go_at_call 117; refine (impl_isInt _ _).mono ?_; rintro e w' ⟨rfl, rfl⟩))
      go_ret
      exact ⟨ret_b HN.out, B0.out⟩
    · have HN : Hid (nodeB v = putB key v) := by simp only [Hid, putB, hk, valB]; rw [if_pos (by omega)]; simp
      have h2' : (key % 2 == 0) = false := by simpa using h2
      go_enter Tryz.func88, Tryz.ntmps88
      go_wp2_with (first | (go_at_call 116; refine (impl_isKey _ _).mono ?_; rintro e w' ⟨rfl, rfl⟩; rw [hk]) | (go_at_call 117; refine (impl_isInt _ _).mono ?_; rintro e w' ⟨rfl, rfl⟩))
      all_goals (go_ret; exact ⟨ret_b (by rw [← HN.out]; unfold nodeB; rw [Bool.eq_iff_iff]; simp; try omega), B0.out⟩)
end Go.Proofs.YtnkaoeijcdchiaaGreatDoor.G
namespace Go.Proofs.YtnkaoeijcdchiaaGreatDoor.G
open Go.ChangeShapes Go.WideShapes Go.ChangeAt Go.RowKit
set_option linter.unusedVariables false

def inS (v lo hi : Int) : Bool := decide (lo ≤ v ∧ v ≤ hi)
theorem inS_iff (v lo hi : Int) : inS v lo hi = true ↔ lo ≤ v ∧ v ≤ hi := by simp [inS]
theorem inB_not {v lo hi : Int} : inS v lo hi = false ↔ ¬ (lo ≤ v ∧ v ≤ hi) := by rw [← Bool.not_eq_true, inS_iff]
set_option maxHeartbeats 400000 in
theorem spec_inS (v lo hi : Int) (w : World) {b : Bool} (h : inS v lo hi = b) : Calls Tryz.prog 75 #[.int .i64 v, .int .i64 lo, .int .i64 hi] w fun e w' => e = .returned (.bool b) ∧ w' = w := by
  have H : Hid (inS v lo hi = b) := h
  clear h
  go_enter Tryz.func75, Tryz.ntmps75
  go_wp2
  all_goals (go_ret; exact ⟨ret_b (by rw [← H.out]; unfold inS; rw [Bool.eq_iff_iff]; simp; try omega), rfl⟩)
set_option maxHeartbeats 400000 in
theorem spec_isInt (v : Int) (w : World) : Calls Tryz.prog 104 #[.int .i64 v] w fun e w' => e = .returned (.bool (intB v)) ∧ w' = w := by
  go_enter Tryz.func104, Tryz.ntmps104
  go_wp2_with (first | (go_at_call 75; refine (spec_inS _ _ _ _ rfl).mono ?_; rintro e w' ⟨rfl, rfl⟩))
  all_goals (go_ret; exact ⟨ret_b (by unfold intB; first | rfl | (rw [Bool.eq_iff_iff]; simp; try omega)), rfl⟩)
set_option maxHeartbeats 400000 in
theorem spec_value (key v : Int) (w : World) (h0 : 0 ≤ key) {b : Bool} (h : valB key v = b) : Calls Tryz.prog 79 #[.int .i64 key, .int .i64 v] w fun e w' => e = .returned (.bool b) ∧ w' = w := by
  have H : Hid (valB key v = b) := h
  clear h
  by_cases h2 : key % 2 = 1
  · have h2' : (key % 2 == 1) = true := by simpa using h2
    have HV : Hid (inS v 0 8 = b) := by rw [Hid, ← H.out, valB, if_pos h2]; rfl
    go_enter Tryz.func79, Tryz.ntmps79
    go_wp2_with (first | (go_at_call 75; refine (spec_inS _ _ _ _ HV.out).mono ?_; rintro e w' ⟨rfl, rfl⟩) | (go_at_call 104; refine (spec_isInt _ _).mono ?_; rintro e w' ⟨rfl, rfl⟩))
    go_ret
    exact ⟨rfl, rfl⟩
  · have h2' : (key % 2 == 1) = false := by simpa using h2
    have HV : Hid (intB v = b) := by rw [Hid, ← H.out, valB, if_neg h2]
    go_enter Tryz.func79, Tryz.ntmps79
    go_wp2_with (first | (go_at_call 75; refine (spec_inS _ _ _ _ HV.out).mono ?_; rintro e w' ⟨rfl, rfl⟩) | (go_at_call 104; refine (spec_isInt _ _).mono ?_; rintro e w' ⟨rfl, rfl⟩))
    go_ret
    exact ⟨ret_b HV.out, rfl⟩
/-- One version as the specification looks at it. -/
theorem okB_spec {key now : Int} {l : List Ve} {k : Nat} (hlt : k < l.length) (hp : ∀ i, i < k → okB key now l i = true) (h1 : 1 ≤ l[k].ts) (h2 : l[k].ts ≤ now) (h3 : valB key l[k].v = true) (h4 : ∀ (h : 0 < k), (l[k - 1]'(by omega)).ts < l[k].ts) : okB key now l k = true := by
  refine okB_mk ?_ (by rw [tsAt_eq hlt]; exact h2) (by rw [vAt_eq hlt]; exact h3)
  rw [tsAt_eq hlt]
  cases k with
  | zero => simp only [prevTs]; omega
  | succ k => simp only [prevTs]; rw [tsAt_eq (by omega)]; exact h4 (by omega)
theorem okB_spec1 {key now : Int} {l : List Ve} {k : Nat} (hlt : k < l.length) (hp : ∀ i, i < k → okB key now l i = true) (h1 : ¬ (1 ≤ l[k].ts ∧ l[k].ts ≤ now)) : okB key now l k = false := by
  by_cases h2 : l[k].ts ≤ now
  · refine okB_no1 ?_
    rw [tsAt_eq hlt]
    cases k with
    | zero => simp only [prevTs]; omega
    | succ k =>
      simp only [prevTs]
      have hc : chainB key now (l.take (k + 1)) = true := chainB_true (fun i hi => by
        have hi' : i < k + 1 := by simp at hi; omega
        have := hp i hi'
        unfold okB at this ⊢
        rw [show tsAt (l.take (k + 1)) i = tsAt l i by simp [tsAt, hi'], show vAt (l.take (k + 1)) i = vAt l i by simp [vAt, hi'], show prevTs (l.take (k + 1)) i = prevTs l i by
          cases i with
          | zero => rfl
          | succ i => simp only [prevTs]; simp [tsAt, show i < k + 1 by omega]]
        exact this)
      have := (chain_pos hc k (by simp; omega)).1
      rw [show tsAt (l.take (k + 1)) k = tsAt l k by simp [tsAt]] at this
      omega
  · exact okB_no2 (by rw [tsAt_eq hlt]; exact h2)
theorem okB_spec4 {key now : Int} {l : List Ve} {k : Nat} (hlt : k < l.length) (h0 : 0 < k) (h1 : (l[k - 1]'(by omega)).ts ≥ l[k].ts) : okB key now l k = false := by
  refine okB_no1 ?_
  rw [tsAt_eq hlt]
  obtain ⟨j, rfl⟩ : ∃ j, k = j + 1 := ⟨k - 1, by omega⟩
  simp only [prevTs]
  rw [tsAt_eq (by omega)]
  simp only [Nat.add_sub_cancel] at h1
  omega
end Go.Proofs.YtnkaoeijcdchiaaGreatDoor.G
namespace Go.Proofs.YtnkaoeijcdchiaaGreatDoor.G
set_option linter.unusedVariables false

/-- How many versions are not behind an hour. -/
def UpTo (l : List Ve) (ts : Int) (n : Nat) : Prop := n ≤ l.length ∧ (∀ i, i < n → tsAt l i ≤ ts) ∧ (∀ i, n ≤ i → i < l.length → ts < tsAt l i)
def Rise (l : List Ve) : Prop := ∀ i j, i < j → j < l.length → tsAt l i < tsAt l j
def readV (l : List Ve) (ts : Int) : Int := l.foldl (fun v x => if x.ts ≤ ts then x.v else v) 0
def chgB (l : List Ve) (ts : Int) : Bool := decide (0 < l.length) && decide (ts < tsAt l (l.length - 1))
def hourN (l : Chs) (now ts : Int) : Int := if storeB l now = true then (if inS ts 0 now = true then 0 else 4) else 1
def askN (l : Chs) (now key ts : Int) : Int := if hourN l now ts = 0 then (if keyS key = true then 0 else 4) else hourN l now ts
theorem UpTo.one {l : List Ve} {ts : Int} {n m : Nat} (h : UpTo l ts n) (k : UpTo l ts m) : n = m := by
  by_cases h1 : n < m
  · have a := k.2.1 n h1; have b := h.2.2 n (Nat.le_refl _) (by have := k.1; omega); omega
  · by_cases h2 : m < n
    · have a := h.2.1 m h2; have b := k.2.2 m (Nat.le_refl _) (by have := h.1; omega); omega
    · omega
theorem readV_take {l : List Ve} {ts : Int} {k : Nat} (hk : k < l.length) : readV (l.take (k + 1)) ts = if l[k].ts ≤ ts then l[k].v else readV (l.take k) ts := by
  unfold readV; rw [List.take_succ_eq_append_getElem hk, List.foldl_append]; rfl
theorem readV_upto {l : List Ve} {ts : Int} {n : Nat} (h : UpTo l ts n) : readV l ts = if n = 0 then 0 else vAt l (n - 1) := by
  have key : ∀ k, n ≤ k → k ≤ l.length → readV (l.take k) ts = readV (l.take n) ts := by
    intro k hk hkl
    induction k with
    | zero => rw [show n = 0 by omega]
    | succ k ih =>
      by_cases e : n = k + 1
      · rw [e]
      · rw [readV_take (by omega), if_neg, ih (by omega) (by omega)]
        have := h.2.2 k (by omega) (by omega)
        rw [tsAt_eq (by omega)] at this
        omega
  have hl := key l.length h.1 (Nat.le_refl _)
  rw [List.take_length] at hl
  rw [hl]
  by_cases e : n = 0
  · subst e; rw [if_pos rfl]; rfl
  · obtain ⟨m, rfl⟩ : ∃ m, n = m + 1 := ⟨n - 1, by omega⟩
    have h1 := h.1
    rw [if_neg (by omega), readV_take (by omega), if_pos, Nat.add_sub_cancel, vAt_eq (by omega)]
    have := h.2.1 m (by omega)
    rw [tsAt_eq (by omega)] at this
    exact this
theorem chgB_upto {l : List Ve} {ts : Int} {n : Nat} (h : UpTo l ts n) : chgB l ts = decide ((n : Int) < l.length) := by
  obtain ⟨h1, h2, h3⟩ := h
  unfold chgB
  rw [Bool.eq_iff_iff]
  simp only [Bool.and_eq_true, decide_eq_true_eq]
  constructor
  · rintro ⟨a, b⟩
    by_cases e : n < l.length
    · omega
    · have := h2 (l.length - 1) (by omega); omega
  · intro a
    exact ⟨by omega, h3 (l.length - 1) (by omega) (by omega)⟩
theorem hourN_zero {l : Chs} {now ts : Int} (h : hourN l now ts = 0) : storeB l now = true ∧ 0 ≤ ts ∧ ts ≤ now := by
  unfold hourN at h
  by_cases h1 : storeB l now = true
  · rw [if_pos h1] at h
    by_cases h2 : inS ts 0 now = true
    · exact ⟨h1, (inS_iff _ _ _).1 h2⟩
    · rw [if_neg h2] at h; omega
  · rw [if_neg h1] at h; omega
theorem askN_zero {l : Chs} {now key ts : Int} (h : askN l now key ts = 0) : storeB l now = true ∧ 0 ≤ ts ∧ ts ≤ now ∧ 0 ≤ key ∧ key < 16 := by
  unfold askN at h
  by_cases h1 : hourN l now ts = 0
  · rw [if_pos h1] at h
    by_cases h2 : keyS key = true
    · have := (keyB_iff key).1 h2
      have h3 := hourN_zero h1
      exact ⟨h3.1, h3.2.1, h3.2.2, this.1, this.2⟩
    · rw [if_neg h2] at h; omega
  · rw [if_neg h1] at h; omega
theorem store_rise {l : Chs} {now : Int} (h : storeB l now = true) {k : Nat} (hk : k < l.length) : Rise l[k] := chain_rise (chainsB_at (storeB_all h).2.2.2 hk)
end Go.Proofs.YtnkaoeijcdchiaaGreatDoor.G
namespace Go.Proofs.YtnkaoeijcdchiaaGreatDoor.G
open Go.ChangeShapes Go.WideShapes Go.ChangeAt Go.RowKit
set_option linter.unusedVariables false

theorem ret_i {a b : Int} (h : a = b) : Ending.returned (.int .i64 a) = .returned (.int .i64 b) := by rw [h]
/-- A chain and an hour that lie boxed. -/
def UpAt (w : World) (B : Nat) (a : Option Addr) (len c : Nat) (ts : Int) : Prop := w.cell? ⟨B, 0, none⟩ = some (.slice a len c) ∧ w.cell? ⟨B + 1, 0, none⟩ = some (.int .i64 ts)
theorem UpAt.drewN {w : World} {B : Nat} {a : Option Addr} {len c : Nat} {ts : Int} (h : UpAt w B a len c ts) (q : Nat) : UpAt (w.drewN q) B a len c ts := h
theorem VeRow.drewN {w : World} {a : Option Addr} {l : List Ve} (h : VeRow 0 w.heap.size w a l) (q : Nat) : VeRow 0 (w.drewN q).heap.size (w.drewN q) a l := h
end Go.Proofs.YtnkaoeijcdchiaaGreatDoor.G
namespace Go.Proofs.YtnkaoeijcdchiaaGreatDoor.G
open Go.ChangeShapes Go.WideShapes Go.ChangeAt Go.RowKit
set_option linter.unusedVariables false

end Go.Proofs.YtnkaoeijcdchiaaGreatDoor.G
namespace Go.Proofs.YtnkaoeijcdchiaaGreatDoor.G
open Go.ChangeShapes Go.WideShapes Go.ChangeAt Go.RowKit
set_option linter.unusedVariables false

end Go.Proofs.YtnkaoeijcdchiaaGreatDoor.G
namespace Go.Proofs.YtnkaoeijcdchiaaGreatDoor.G
open Go.ChangeShapes Go.WideShapes Go.ChangeAt Go.RowKit
set_option linter.unusedVariables false

def readR (l : Chs) (now key ts : Int) : Int := if askN l now key ts = 0 then readV (chAt l key.toNat) ts else 0
def chgR (l : Chs) (now key ts : Int) : Bool := if askN l now key ts = 0 then chgB (chAt l key.toNat) ts else false
def sizeN (l : Chs) : Nat := (l.map List.length).sum
def sizeR (l : Chs) (now : Int) : Int := if storeB l now = true then sizeN l else 0
def badN (l : Chs) (now : Int) : Int := if storeB l now = true then 0 else 1
theorem sizeN_take {l : Chs} {k : Nat} (hk : k < l.length) : sizeN (l.take (k + 1)) = sizeN (l.take k) + l[k].length := by
  unfold sizeN; rw [List.take_succ_eq_append_getElem hk, List.map_append, List.sum_append]; simp only [List.map_cons, List.map_nil, List.sum_cons, List.sum_nil]; omega
theorem sizeN_le {l : Chs} (h : ∀ x ∈ l, x.length ≤ 1048576) : sizeN l ≤ l.length * 1048576 := by
  induction l with
  | nil => simp [sizeN]
  | cons x l ih =>
    have h1 := h x (by simp)
    have h2 := ih (fun y hy => h y (by simp [hy]))
    unfold sizeN at h2 ⊢
    simp only [List.map_cons, List.sum_cons, List.length_cons]
    omega
theorem ret_2 {a b c d : Int} (h1 : a = b) (h2 : c = d) : Ending.returned (.tuple #[.int .i64 a, .int .i64 c]) = .returned (.tuple #[.int .i64 b, .int .i64 d]) := by rw [h1, h2]
theorem ret_b2 {a b : Bool} {c d : Int} (h1 : a = b) (h2 : c = d) : Ending.returned (.tuple #[.bool a, .int .i64 c]) = .returned (.tuple #[.bool b, .int .i64 d]) := by rw [h1, h2]
end Go.Proofs.YtnkaoeijcdchiaaGreatDoor.G
namespace Go.Proofs.YtnkaoeijcdchiaaGreatDoor.G
open Go.ChangeShapes Go.WideShapes Go.ChangeAt Go.RowKit
set_option linter.unusedVariables false

/-- Nothing has turned but blocks from lo up and below hi, and new ones were made. -/
structure KeptS (lo hi : Nat) (w w' : World) : Prop where
  os : w'.os = w.os
  tape : w'.tape = w.tape
  output : w'.output = w.output
  size : w.heap.size ≤ w'.heap.size
  block : ∀ k, k < w.heap.size → ¬ (lo ≤ k ∧ k < hi) → w'.heap[k]? = w.heap[k]?
theorem KeptS.refl (lo hi : Nat) (w : World) : KeptS lo hi w w := ⟨rfl, rfl, rfl, Nat.le_refl _, fun _ _ _ => rfl⟩
theorem KeptS.trans {lo hi : Nat} {a b c : World} (h : KeptS lo hi a b) (k : KeptS lo hi b c) : KeptS lo hi a c :=
  ⟨k.os.trans h.os, k.tape.trans h.tape, k.output.trans h.output, Nat.le_trans h.size k.size, fun g hg hn => (k.block g (Nat.lt_of_lt_of_le hg h.size) hn).trans (h.block g hg hn)⟩
theorem KeptS.mono {lo hi lo' hi' : Nat} {a b : World} (h : KeptS lo hi a b) (e1 : lo' ≤ lo) (e2 : hi ≤ hi') : KeptS lo' hi' a b := ⟨h.os, h.tape, h.output, h.size, fun g hg hn => h.block g hg (fun hx => hn ⟨by omega, by omega⟩)⟩
theorem KeptS.of {lo hi : Nat} {a b : World} (h : Below a.heap.size a b) : KeptS lo hi a b := ⟨h.os, h.tape, h.output, h.size, fun g hg _ => h.block g hg⟩
theorem KeptS.set {lo hi : Nat} {a b : World} (h : KeptS lo hi a b) {p : Addr} (h1 : lo ≤ p.block) (h2 : p.block < hi) (v : Value) : KeptS lo hi a (b.setCell p v) := by
  have hb : Below (p.block) b (b.setCell p v) := (Below.refl _ _).setCell (Nat.le_refl _) v
  exact h.trans ⟨hb.os, hb.tape, hb.output, hb.size, fun g _ hn => Below.heap_setCell _ _ _ _ (fun e => hn (e ▸ ⟨h1, h2⟩))⟩
theorem KeptS.below {lo hi : Nat} {a b : World} (h : KeptS lo hi a b) {B : Nat} (hB : B ≤ a.heap.size) (hs : B ≤ lo) : Below B a b :=
  ⟨h.os, h.tape, h.output, h.size, fun g hg => h.block g (by omega) (fun hx => by omega)⟩
theorem KeptS.agree {lo hi lo' hi' : Nat} {a b : World} (h : KeptS lo hi a b) (hB : hi' ≤ a.heap.size) (hs : hi' ≤ lo ∨ hi ≤ lo') : Agree lo' hi' a b :=
  fun g h1 h2 => h.block g (by omega) (fun hx => by omega)
theorem mk_put {cs : Array Value} {K : Int} {k n : Nat} (hs : n * 2 ≤ cs.size) (hk : k < n) (h : ∀ i : Nat, i < k → cs[i * 2]? = some (.int .i64 (K + 2 * i)) ∧ cs[i * 2 + 1]? = some (.int .i64 (K + 2 * i + 1))) {v0 v1 : Int} (e0 : v0 = K + 2 * k) (e1 : v1 = K + 2 * k + 1) :
    ∀ i : Nat, i < k + 1 → ((cs.setIfInBounds (k * 2) (.int .i64 v0)).setIfInBounds (k * 2 + 1) (.int .i64 v1))[i * 2]? = some (.int .i64 (K + 2 * i)) ∧ ((cs.setIfInBounds (k * 2) (.int .i64 v0)).setIfInBounds (k * 2 + 1) (.int .i64 v1))[i * 2 + 1]? = some (.int .i64 (K + 2 * i + 1)) := by
  subst e0 e1
  intro i hi
  by_cases hik : i = k
  · subst hik
    refine ⟨?_, ?_⟩ <;> simp [Array.getElem?_setIfInBounds] <;> omega
  · obtain ⟨c0, c1⟩ := h i (by omega)
    refine ⟨?_, ?_⟩
    · rw [Array.getElem?_setIfInBounds_ne (by omega), Array.getElem?_setIfInBounds_ne (by omega)]; exact c0
    · rw [Array.getElem?_setIfInBounds_ne (by omega), Array.getElem?_setIfInBounds_ne (by omega)]; exact c1
theorem sizeN_take_le (l : Chs) (k : Nat) : sizeN (l.take k) ≤ sizeN l := by
  have : sizeN l = sizeN (l.take k) + sizeN (l.drop k) := by
    unfold sizeN; rw [← List.sum_append, ← List.map_append, List.take_append_drop]
  omega
end Go.Proofs.YtnkaoeijcdchiaaGreatDoor.G
