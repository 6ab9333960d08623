/- A set in memory from its k-th selection on. -/
import Derived.Test.YtdchpeifpiglmaaGreatDoorSels
import Derived.Deep.Slices
import Derived.Deep.Strs
import Derived.Lib.SmallJoins
import Derived.Deep.QuietTactic
import Derived.BigQuiet
namespace Go.Proofs.YtdchpeifpiglmaaGreatDoor
open Go.ChangeShapes Go.WideShapes Go.ChangeAt Go.RowKit
set_option linter.unusedVariables false

def VaBd (m : Nat) (v : Va) : Prop := v.t.size ≤ m
def ArBd (m : Nat) (x : Ar) : Prop := x.nm.size ≤ m ∧ x.v.t.size ≤ m
def DiBd (m : Nat) (x : Di) : Prop := x.v.t.size ≤ m
def HdBd (m : Nat) (h : Hd) : Prop := h.al.size ≤ m ∧ h.nm.size ≤ m ∧ h.args.length ≤ m ∧ (∀ x ∈ h.args, ArBd m x) ∧ h.dirs.length ≤ m ∧ ∀ x ∈ h.dirs, DiBd m x
def SelsBd (m : Nat) : Sels → Prop
  | .nil => True
  | .cons h sub rest => HdBd m h ∧ sub.len ≤ m ∧ SelsBd m sub ∧ SelsBd m rest
def DeBd (m : Nat) (x : De) : Prop := x.nm.size ≤ m ∧ x.on.size ≤ m ∧ x.sels.len ≤ m ∧ SelsBd m x.sels
def DefsBd (m : Nat) (l : List De) : Prop := l.length ≤ m ∧ ∀ x ∈ l, DeBd m x

theorem cell_lt {W : World} {a : Addr} {v : Value} (h : W.cell? a = some v) : a.block < W.heap.size := by
  refine Nat.lt_of_not_le fun hle => ?_
  simp [World.cell?, Array.getElem?_eq_none hle] at h
theorem list_of {α : Type} {len : Nat} {p : Nat → α → Prop} (h : ∀ i, i < len → ∃ x, p i x) : ∃ l : List α, l.length = len ∧ ∀ i x, l[i]? = some x → p i x := by
  induction len with
  | zero => exact ⟨[], rfl, by simp⟩
  | succ n ih =>
    obtain ⟨l, hl, hp⟩ := ih fun i hi => h i (by omega)
    obtain ⟨y, hy⟩ := h n (by omega)
    refine ⟨l ++ [y], by simp [hl], fun i x hx => ?_⟩
    by_cases hi : i < n
    · rw [List.getElem?_append_left (by omega)] at hx; exact hp i x hx
    · rw [List.getElem?_append_right (by omega)] at hx
      have : i - l.length < 1 := by have := (List.getElem?_eq_some_iff.1 hx).1; simpa using this
      obtain rfl : i = n := by omega
      rw [hl, Nat.sub_self] at hx
      simp at hx; subst hx; exact hy

theorem list3 {α : Type} {l : List α} (h : l.length = 3) : ∃ a b c, l = [a, b, c] := by
  match l, h with
  | [a, b, c], _ => exact ⟨a, b, c, rfl⟩
theorem list4 {α : Type} {l : List α} (h : l.length = 4) : ∃ a b c d, l = [a, b, c, d] := by
  match l, h with
  | [a, b, c, d], _ => exact ⟨a, b, c, d, rfl⟩
theorem list6 {α : Type} {l : List α} (h : l.length = 6) : ∃ a b c d e f, l = [a, b, c, d, e, f] := by
  match l, h with
  | [a, b, c, d, e, f], _ => exact ⟨a, b, c, d, e, f, rfl⟩

section
variable {H : Type} {enc : TypeId × Value → H} {W : World}
/-- A slice's cell opened: its elements' cells, each with its own reading. -/
theorem sl_open {t e : TypeId} {z : Nat} {fuel : Nat} {cs : List Value} {x : DataW H × List MemPlace} (ht : Tryz.prog.underlying t = some (.slice e)) (hz : Tryz.prog.cellsOf e = z) (hz0 : 0 < z) (h : DataW.trod enc Tryz.prog W 0 (fun _ => true) true fuel t cs = some x) :
    ∃ a len cap, cs = [.slice a len cap] ∧ len ≤ maxLen ∧ (len = 0 ∨ ∃ n b o, fuel = n + 1 ∧ a = some ⟨b, o, none⟩ ∧ b < W.heap.size ∧
      ∀ i, i < len → ∃ cs' y, cs'.length = z ∧ (∀ j, j < z → rdOf W b (o + i * z + j) = cs'[j]?) ∧ DataW.trod enc Tryz.prog W 0 (fun _ => true) true n e cs' = some y) := by
  rcases DataW.trod_slice ht h with ⟨rfl, _⟩ | ⟨a, len, cap, elems, rest, n, rfl, rfl, _, hb, hl, hm, hlen, hel, _, _⟩
  · exact ⟨none, 0, 0, rfl, Nat.zero_le _, .inl rfl⟩
  · refine ⟨some a, len, cap, rfl, by omega, ?_⟩
    by_cases h0 : len = 0
    · exact .inl h0
    rw [hz] at hel
    have key : ∀ i, i < len → ∃ cs' y, cs'.length = z ∧ (∀ j, j < z → W.cell? ((a.add (i * z)).add j) = cs'[j]?) ∧ DataW.trod enc Tryz.prog W 0 (fun _ => true) true n e cs' = some y := by
      intro i hi
      have := hel i hi
      rw [List.getElem?_eq_getElem (by omega), Option.bind_eq_some_iff] at this
      obtain ⟨cs', h1, h2⟩ := this
      obtain ⟨_, hcl, hc⟩ := World.cells?_some h1
      exact ⟨cs', _, hcl, hc, h2⟩
    obtain ⟨b, o, spot⟩ := a
    obtain ⟨cs', y, hcl, hc, _⟩ := key 0 (by omega)
    have hc0 := hc 0 hz0
    rw [List.getElem?_eq_getElem (by omega)] at hc0
    have hspot : spot = none := by
      have := World.cell?_spot hc0
      simpa [Addr.add] using this
    subst hspot
    refine .inr ⟨n, b, o, rfl, rfl, (by have := cell_lt hc0; simpa [Addr.add] using this), fun i hi => ?_⟩
    obtain ⟨cs', y, hcl, hc, hd⟩ := key i hi
    refine ⟨cs', y, hcl, fun j hj => ?_, hd⟩
    have := hc j hj
    simp only [add_plain] at this
    exact this

theorem va_cells {n : Nat} {cs : List Value} {x : DataW H × List MemPlace} (h : DataW.trod enc Tryz.prog W 0 (fun _ => true) true n 170 cs = some x) : ∃ v : Va, cs = [.int .i64 v.k, .int .i64 v.n, .string v.t] ∧ VaBd maxLen v := by
  have ci : Tryz.prog.cellsOf 3 = 1 := by kernel_rfl
  have cst : Tryz.prog.cellsOf 9 = 1 := by kernel_rfl
  have cv : Tryz.prog.cellsOf 170 = 3 := by kernel_rfl
  obtain ⟨y0, y1, y2, m, _, hlen, h0, h1, h2⟩ := Deep.trod_struct3 Tryz.underlying170 h
  rw [cv] at hlen
  obtain ⟨v0, v1, v2, rfl⟩ := list3 hlen
  obtain ⟨k, e0, _, _⟩ := DataW.trod_int Tryz.underlying3 h0
  obtain ⟨j, e1, _, _⟩ := DataW.trod_int Tryz.underlying3 h1
  obtain ⟨s, e2, _, hs⟩ := DataW.trod_string Tryz.underlying9 h2
  simp [ci, cst] at e0 e1 e2
  subst e0 e1 e2
  exact ⟨⟨k, j, s⟩, rfl, hs⟩
theorem ar_cells {n : Nat} {cs : List Value} {x : DataW H × List MemPlace} (h : DataW.trod enc Tryz.prog W 0 (fun _ => true) true n 172 cs = some x) : ∃ v : Ar, cs = [.string v.nm, .int .i64 v.v.k, .int .i64 v.v.n, .string v.v.t] ∧ ArBd maxLen v := by
  have cst : Tryz.prog.cellsOf 9 = 1 := by kernel_rfl
  have cv : Tryz.prog.cellsOf 170 = 3 := by kernel_rfl
  have ca : Tryz.prog.cellsOf 172 = 4 := by kernel_rfl
  obtain ⟨y0, y1, m, _, hlen, h0, h1⟩ := trod_struct2 Tryz.underlying172 h
  rw [ca] at hlen
  obtain ⟨v0, v1, v2, v3, rfl⟩ := list4 hlen
  obtain ⟨s, e0, _, hs⟩ := DataW.trod_string Tryz.underlying9 h0
  obtain ⟨v, e1, hv⟩ := va_cells h1
  simp [cst, cv] at e0 e1
  obtain ⟨rfl, rfl, rfl⟩ := e1
  subst e0
  exact ⟨⟨s, v⟩, rfl, hs, hv⟩
theorem di_cells {n : Nat} {cs : List Value} {x : DataW H × List MemPlace} (h : DataW.trod enc Tryz.prog W 0 (fun _ => true) true n 175 cs = some x) : ∃ v : Di, cs = [.bool v.sk, .int .i64 v.v.k, .int .i64 v.v.n, .string v.v.t] ∧ DiBd maxLen v := by
  have cb : Tryz.prog.cellsOf 4 = 1 := by kernel_rfl
  have cv : Tryz.prog.cellsOf 170 = 3 := by kernel_rfl
  have ca : Tryz.prog.cellsOf 175 = 4 := by kernel_rfl
  obtain ⟨y0, y1, m, _, hlen, h0, h1⟩ := trod_struct2 Tryz.underlying175 h
  rw [ca] at hlen
  obtain ⟨v0, v1, v2, v3, rfl⟩ := list4 hlen
  obtain ⟨s, e0, _⟩ := DataW.trod_bool Tryz.underlying4 h0
  obtain ⟨v, e1, hv⟩ := va_cells h1
  simp [cb, cv] at e0 e1
  obtain ⟨rfl, rfl, rfl⟩ := e1
  subst e0
  exact ⟨⟨s, v⟩, rfl, hv⟩
theorem args_open {fuel : Nat} {cs : List Value} {x : DataW H × List MemPlace} (h : DataW.trod enc Tryz.prog W 0 (fun _ => true) true fuel 129 cs = some x) :
    ∃ a c, ∃ l : List Ar, cs = [.slice a l.length c] ∧ l.length ≤ maxLen ∧ (∀ x ∈ l, ArBd maxLen x) ∧ ArRow 0 W.heap.size W a l := by
  obtain ⟨a, len, cap, rfl, hm, hr⟩ := sl_open Tryz.underlying129 (z := 4) (by kernel_rfl) (by omega) h
  rcases hr with rfl | ⟨n, b, o, rfl, rfl, hb, hx⟩
  · exact ⟨a, cap, [], rfl, Nat.zero_le _, by simp, .inl rfl⟩
  · obtain ⟨l, hl, hp⟩ := list_of (p := fun i x => ArAt (rdOf W b) (o + i * 4) x ∧ ArBd maxLen x) (fun i hi => by
      obtain ⟨cs', y, hcl, hc, hd⟩ := hx i hi
      obtain ⟨v, rfl, hv⟩ := ar_cells hd
      exact ⟨v, ⟨hc 0 (by omega), hc 1 (by omega), hc 2 (by omega), hc 3 (by omega)⟩, hv⟩)
    subst hl
    refine ⟨_, cap, l, rfl, hm, fun x hx => ?_, .inr ⟨b, o, rfl, Nat.zero_le _, hb, fun i x hx => (hp i x hx).1⟩⟩
    obtain ⟨i, hi, rfl⟩ := List.getElem_of_mem hx
    exact (hp i _ (List.getElem?_eq_getElem hi)).2
theorem dirs_open {fuel : Nat} {cs : List Value} {x : DataW H × List MemPlace} (h : DataW.trod enc Tryz.prog W 0 (fun _ => true) true fuel 130 cs = some x) :
    ∃ a c, ∃ l : List Di, cs = [.slice a l.length c] ∧ l.length ≤ maxLen ∧ (∀ x ∈ l, DiBd maxLen x) ∧ DiRow 0 W.heap.size W a l := by
  obtain ⟨a, len, cap, rfl, hm, hr⟩ := sl_open Tryz.underlying130 (z := 4) (by kernel_rfl) (by omega) h
  rcases hr with rfl | ⟨n, b, o, rfl, rfl, hb, hx⟩
  · exact ⟨a, cap, [], rfl, Nat.zero_le _, by simp, .inl rfl⟩
  · obtain ⟨l, hl, hp⟩ := list_of (p := fun i x => DiAt (rdOf W b) (o + i * 4) x ∧ DiBd maxLen x) (fun i hi => by
      obtain ⟨cs', y, hcl, hc, hd⟩ := hx i hi
      obtain ⟨v, rfl, hv⟩ := di_cells hd
      exact ⟨v, ⟨hc 0 (by omega), hc 1 (by omega), hc 2 (by omega), hc 3 (by omega)⟩, hv⟩)
    subst hl
    refine ⟨_, cap, l, rfl, hm, fun x hx => ?_, .inr ⟨b, o, rfl, Nat.zero_le _, hb, fun i x hx => (hp i x hx).1⟩⟩
    obtain ⟨i, hi, rfl⟩ := List.getElem_of_mem hx
    exact (hp i _ (List.getElem?_eq_getElem hi)).2

/-- Selections by index are a set. -/
theorem sels_of {lo hi : Nat} {w : World} {rd : Nat → Option Value} {m : Nat} : ∀ {l : List (Hd × Sels)} {o : Nat}, (∀ i x, l[i]? = some x → HdAt lo hi w rd (o + i * 6) x.1 ∧ (∃ a c, rd (o + i * 6 + 5) = some (.slice a x.2.len c) ∧ SelRow lo hi w a x.2) ∧ HdBd m x.1 ∧ x.2.len ≤ m ∧ SelsBd m x.2) →
    SelPre lo hi w (app l .nil) rd o l.length ∧ SelsBd m (app l .nil)
  | [], _, _ => ⟨trivial, trivial⟩
  | x :: l, o, h => by
    obtain ⟨h1, h2, h3, h4, h5⟩ := h 0 x rfl
    have := sels_of (l := l) (o := o + 6) (fun i y hy => by
      have := h (i + 1) y (by simpa using hy)
      rw [show o + (i + 1) * 6 = o + 6 + i * 6 by omega] at this
      exact this)
    simp only [Nat.zero_mul, Nat.add_zero] at h1 h2
    exact ⟨.inr ⟨h1, h2, this.1⟩, h3, h4, h5, this.2⟩
theorem sels_open : ∀ {fuel : Nat} {cs : List Value} {x : DataW H × List MemPlace}, DataW.trod enc Tryz.prog W 0 (fun _ => true) true fuel 78 cs = some x →
    ∃ a c, ∃ l : Sels, cs = [.slice a l.len c] ∧ l.len ≤ maxLen ∧ SelsBd maxLen l ∧ SelRow 0 W.heap.size W a l := by
  intro fuel
  induction fuel using Nat.strongRecOn with
  | _ fuel ih =>
  intro cs x h
  have ci : Tryz.prog.cellsOf 3 = 1 := by kernel_rfl
  have cst : Tryz.prog.cellsOf 9 = 1 := by kernel_rfl
  have cs1 : Tryz.prog.cellsOf 129 = 1 := by kernel_rfl
  have cs2 : Tryz.prog.cellsOf 130 = 1 := by kernel_rfl
  have cs3 : Tryz.prog.cellsOf 78 = 1 := by kernel_rfl
  obtain ⟨a, len, cap, rfl, hm, hr⟩ := sl_open Tryz.underlying78 (z := 6) (by kernel_rfl) (by omega) h
  rcases hr with rfl | ⟨n, b, o, rfl, rfl, hb, hx⟩
  · exact ⟨a, cap, .nil, rfl, Nat.zero_le _, trivial, .inl rfl⟩
  · obtain ⟨l, hl, hp⟩ := list_of (p := fun i (x : Hd × Sels) => HdAt 0 W.heap.size W (rdOf W b) (o + i * 6) x.1 ∧ (∃ a c, rdOf W b (o + i * 6 + 5) = some (.slice a x.2.len c) ∧ SelRow 0 W.heap.size W a x.2) ∧ HdBd maxLen x.1 ∧ x.2.len ≤ maxLen ∧ SelsBd maxLen x.2) (fun i hi => by
      obtain ⟨cs', y, hcl, hc, hd⟩ := hx i hi
      obtain ⟨xs, n', rfl, rfl, _, hxl, hf⟩ := DataW.trod_struct Tryz.underlying132 hd
      obtain ⟨v0, v1, v2, v3, v4, v5, rfl⟩ := list6 hcl
      obtain ⟨y0, y1, y2, y3, y4, y5, rfl⟩ := list6 hxl
      obtain ⟨k, e0, _, _⟩ := DataW.trod_int Tryz.underlying3 (hf 0 _ rfl)
      obtain ⟨al, e1, _, hal⟩ := DataW.trod_string Tryz.underlying9 (hf 1 _ rfl)
      obtain ⟨nm, e2, _, hnm⟩ := DataW.trod_string Tryz.underlying9 (hf 2 _ rfl)
      obtain ⟨a3, c3, args, e3, b3, d3, r3⟩ := args_open (hf 3 _ rfl)
      obtain ⟨a4, c4, dirs, e4, b4, d4, r4⟩ := dirs_open (hf 4 _ rfl)
      obtain ⟨a5, c5, sub, e5, b5, d5, r5⟩ := ih n' (by omega) (hf 5 _ rfl)
      simp [ci, cst, cs1, cs2, cs3] at e0 e1 e2 e3 e4 e5
      subst e0 e1 e2 e3 e4 e5
      exact ⟨(⟨k, al, nm, args, dirs⟩, sub), ⟨hc 0 (by omega), hc 1 (by omega), hc 2 (by omega), ⟨a3, c3, hc 3 (by omega), r3⟩, ⟨a4, c4, hc 4 (by omega), r4⟩⟩, ⟨a5, c5, hc 5 (by omega), r5⟩, ⟨hal, hnm, b3, d3, b4, d4⟩, b5, d5⟩)
    obtain ⟨q1, q2⟩ := sels_of hp
    have hal : (app l .nil).len = len := by rw [app_len, hl]; rfl
    refine ⟨_, cap, app l .nil, by rw [hal], by omega, q2, .inr ⟨b, o, rfl, Nat.zero_le _, hb, ?_⟩⟩
    rw [hal, ← hl]; exact q1
theorem defs_open {fuel : Nat} {cs : List Value} {x : DataW H × List MemPlace} (h : DataW.trod enc Tryz.prog W 0 (fun _ => true) true fuel 22 cs = some x) :
    ∃ a c, ∃ l : List De, cs = [.slice a l.length c] ∧ DefsBd maxLen l ∧ DeRow 0 W.heap.size W a l := by
  have ci : Tryz.prog.cellsOf 3 = 1 := by kernel_rfl
  have cst : Tryz.prog.cellsOf 9 = 1 := by kernel_rfl
  have cs3 : Tryz.prog.cellsOf 78 = 1 := by kernel_rfl
  obtain ⟨a, len, cap, rfl, hm, hr⟩ := sl_open Tryz.underlying22 (z := 4) (by kernel_rfl) (by omega) h
  rcases hr with rfl | ⟨n, b, o, rfl, rfl, hb, hx⟩
  · exact ⟨a, cap, [], rfl, ⟨Nat.zero_le _, by simp⟩, .inl rfl⟩
  · obtain ⟨l, hl, hp⟩ := list_of (p := fun i x => DeAt 0 W.heap.size W (rdOf W b) (o + i * 4) x ∧ DeBd maxLen x) (fun i hi => by
      obtain ⟨cs', y, hcl, hc, hd⟩ := hx i hi
      obtain ⟨xs, n', rfl, rfl, _, hxl, hf⟩ := DataW.trod_struct Tryz.underlying80 hd
      obtain ⟨v0, v1, v2, v3, rfl⟩ := list4 hcl
      obtain ⟨y0, y1, y2, y3, rfl⟩ := list4 hxl
      obtain ⟨k, e0, _, _⟩ := DataW.trod_int Tryz.underlying3 (hf 0 _ rfl)
      obtain ⟨nm, e1, _, hnm⟩ := DataW.trod_string Tryz.underlying9 (hf 1 _ rfl)
      obtain ⟨on, e2, _, hon⟩ := DataW.trod_string Tryz.underlying9 (hf 2 _ rfl)
      obtain ⟨a5, c5, sub, e5, b5, d5, r5⟩ := sels_open (hf 3 _ rfl)
      simp [ci, cst, cs3] at e0 e1 e2 e5
      subst e0 e1 e2 e5
      exact ⟨⟨k, nm, on, sub⟩, ⟨hc 0 (by omega), hc 1 (by omega), hc 2 (by omega), ⟨a5, c5, hc 3 (by omega), r5⟩⟩, hnm, hon, b5, d5⟩)
    subst hl
    refine ⟨_, cap, l, rfl, ⟨hm, fun x hx => ?_⟩, .inr ⟨b, o, rfl, Nat.zero_le _, hb, fun i x hx => (hp i x hx).1⟩⟩
    obtain ⟨i, hi, rfl⟩ := List.getElem_of_mem hx
    exact (hp i _ (List.getElem?_eq_getElem hi)).2
end
end Go.Proofs.YtdchpeifpiglmaaGreatDoor
namespace Go.Proofs.YtdchpeifpiglmaaGreatDoor
open Go.ChangeShapes Go.WideShapes Go.ChangeAt Go.RowKit
set_option linter.unusedVariables false

def noB (s : ByteArray) : Bool := s.toList.isEmpty
def onB (s : ByteArray) : Bool := s.toList == [111, 110]
def valB (v : Va) : Bool :=
  if v.k = 1 then intB v.n && noB v.t
  else if v.k = 2 then (v.n == 0 || v.n == 1) && noB v.t
  else if v.k = 3 then (v.n == 0) && noB v.t
  else if v.k = 4 then (v.n == 0) && nameB v.t
  else false
def arB (x : Ar) : Bool := nameB x.nm && valB x.v
def diB (x : Di) : Bool := valB x.v
def argsB (l : List Ar) : Bool := decide (l.length ≤ 4) && l.all arB
def dirsB (l : List Di) : Bool := decide (l.length ≤ 4) && l.all diB
def kindB (h : Hd) (z : Bool) : Bool :=
  if h.k = 1 then nameB h.nm && (noB h.al || nameB h.al)
  else if h.k = 2 then nameB h.nm && !onB h.nm && noB h.al && h.args.isEmpty && z
  else if h.k = 3 then (noB h.nm || nameB h.nm) && noB h.al && h.args.isEmpty && !z
  else false
def hdB (h : Hd) (z : Bool) : Bool := argsB h.args && dirsB h.dirs && kindB h z
def okS : Nat → Sels → Bool
  | _, .nil => true
  | d, .cons h sub rest => decide (0 < d) && hdB h sub.isNil && okS (d - 1) sub && okS d rest
def headB (x : De) : Bool :=
  if x.k = 1 ∨ x.k = 2 then (noB x.nm || nameB x.nm) && noB x.on
  else if x.k = 3 then nameB x.nm && !onB x.nm && nameB x.on
  else false
def defB (x : De) : Bool := headB x && !x.sels.isNil && okS 7 x.sels
def sizeL : List De → Nat
  | [] => 0
  | x :: l => x.sels.size + sizeL l
def docB (l : List De) : Bool := decide (1 ≤ l.length) && decide (l.length ≤ 6) && l.all defB && decide (sizeL l ≤ 60)
namespace Sels
def depth : Sels → Nat
  | .nil => 0
  | .cons _ sub rest => max (1 + sub.depth) rest.depth
theorem depth_le : ∀ {d : Nat} {l : Sels}, okS d l = true → l.depth ≤ d
  | _, .nil, _ => Nat.zero_le _
  | d, .cons h sub rest, hk => by
    simp only [okS, Bool.and_eq_true, decide_eq_true_eq] at hk
    have h1 := depth_le hk.1.2
    have h2 := depth_le hk.2
    simp only [depth]; omega
end Sels
def depthL : List De → Nat
  | [] => 0
  | x :: l => max x.sels.depth (depthL l)
theorem sizeL_append (a b : List De) : sizeL (a ++ b) = sizeL a + sizeL b := by
  induction a with
  | nil => simp [sizeL]
  | cons x a ih => simp only [List.cons_append, sizeL, ih]; omega
theorem sizeL_take {l : List De} {k : Nat} (hk : k < l.length) : sizeL (l.take (k + 1)) = sizeL (l.take k) + l[k].sels.size := by
  rw [List.take_succ_eq_append_getElem hk, sizeL_append]; simp [sizeL]
theorem sizeL_le (l : List De) (k : Nat) : sizeL (l.take k) ≤ sizeL l := by
  have : sizeL l = sizeL (l.take k) + sizeL (l.drop k) := by rw [← sizeL_append, List.take_append_drop]
  omega
end Go.Proofs.YtdchpeifpiglmaaGreatDoor
namespace Go.Proofs.YtdchpeifpiglmaaGreatDoor
open Go.ChangeShapes Go.WideShapes Go.ChangeAt Go.RowKit
set_option linter.unusedVariables false

def inB (n a b : Int) : Bool := decide (a ≤ n ∧ n ≤ b)
set_option maxHeartbeats 400000 in
theorem spec_in (n a b : Int) (w : World) : Calls Tryz.prog 61 #[.int .i64 n, .int .i64 a, .int .i64 b] w fun e w' => e = .returned (.bool (inB n a b)) ∧ w' = w := by
  go_enter Tryz.func61, Tryz.ntmps61
  go_wp2
  all_goals (go_ret; exact ⟨ret_bool (by unfold inB; rw [Bool.eq_iff_iff]; simp; omega), rfl⟩)

theorem no_of {s : ByteArray} (h : s.toList = []) : noB s = true := by unfold noB; rw [h]; rfl
theorem no_not {s : ByteArray} (h : ¬ s.toList = []) : noB s = false := by unfold noB; cases hs : s.toList with | nil => exact absurd hs h | cons a l => rfl

set_option maxHeartbeats 1000000 in
theorem spec_val (v : Va) (w : World) (hs : v.t.size ≤ maxLen) :
    Calls Tryz.prog 100 #[.agg #[.int .i64 v.k, .int .i64 v.n, .string v.t]] w fun e w' => e = .returned (.bool (valB v)) ∧ Below w.heap.size w w' := by
  obtain ⟨k, n, s⟩ := v
  simp only at hs ⊢
  have k0 : (s.toList == []) = noB s := by unfold noB; cases s.toList <;> rfl
  have aB : Below w.heap.size w (w.alloc (.cells #[.int .i64 k, .int .i64 n, .string s] 146)) := (Below.refl _ _).alloc (Nat.le_refl _) _
  by_cases h1 : k = 1
  · have H : Hid (valB ⟨k, n, s⟩ = (intB n && noB s)) := by unfold Hid valB; rw [if_pos h1]
    subst h1
    cases hb : intB n
    all_goals
      go_enter Tryz.func100, Tryz.ntmps100
      go_wp2_with (go_at_call 81; refine (spec_isInt _ _).mono ?_; rintro e w1 ⟨rfl, rfl⟩)
      go_ret
      exact ⟨ret_bool (by rw [H.out, hb]; simp), aB⟩
  have g1 : (k == 1) = false := by rw [beq_eq_false_iff_ne]; omega
  by_cases h2 : k = 2
  · have H : Hid (valB ⟨k, n, s⟩ = ((n == 0 || n == 1) && noB s)) := by unfold Hid valB; rw [if_neg h1, if_pos h2]
    subst h2
    clear g1 h1
    have hin : inB n 0 1 = (n == 0 || n == 1) := by unfold inB; rw [Bool.eq_iff_iff]; simp; omega
    cases hb : (n == 0 || n == 1)
    all_goals
      rw [hb] at hin
      go_enter Tryz.func100, Tryz.ntmps100
      go_wp2_with (go_at_call 61; refine (spec_in _ _ _ _).mono ?_; rw [hin]; rintro e w1 ⟨rfl, rfl⟩)
      go_ret
      exact ⟨ret_bool (by rw [H.out, hb]; simp), aB⟩
  have g2 : (k == 2) = false := by rw [beq_eq_false_iff_ne]; omega
  by_cases h3 : k = 3
  · have H : Hid (valB ⟨k, n, s⟩ = ((n == 0) && noB s)) := by unfold Hid valB; rw [if_neg h1, if_neg h2, if_pos h3]
    subst h3
    clear g1 h1 g2 h2
    cases hb : (n == 0)
    all_goals
      go_enter Tryz.func100, Tryz.ntmps100
      go_wp2_with fail
      go_ret
      exact ⟨ret_bool (by rw [H.out, hb]; simp), aB⟩
  have g3 : (k == 3) = false := by rw [beq_eq_false_iff_ne]; omega
  by_cases h4 : k = 4
  · have H : Hid (valB ⟨k, n, s⟩ = ((n == 0) && nameB s)) := by unfold Hid valB; rw [if_neg h1, if_neg h2, if_neg h3, if_pos h4]
    subst h4
    clear g1 h1 g2 h2 g3 h3
    cases hb : (n == 0)
    all_goals
      go_enter Tryz.func100, Tryz.ntmps100
      go_wp2_with (go_at_call 63; refine (spec_nameOK _ _ hs).mono ?_; rintro e w1 ⟨rfl, rfl⟩)
      go_ret
      exact ⟨ret_bool (by rw [H.out, hb]; simp), aB⟩
  have g4 : (k == 4) = false := by rw [beq_eq_false_iff_ne]; omega
  have H2 : Hid (false = valB ⟨k, n, s⟩) := by unfold Hid valB; rw [if_neg h1, if_neg h2, if_neg h3, if_neg h4]
  clear h1 h2 h3 h4
  go_enter Tryz.func100, Tryz.ntmps100
  go_wp2_with fail
  go_ret
  exact ⟨ret_bool H2.out, aB⟩

set_option maxHeartbeats 1000000 in
theorem impl_val (v : Va) (w : World) (hs : v.t.size ≤ maxLen) :
    Calls Tryz.prog 121 #[.agg #[.int .i64 v.k, .int .i64 v.n, .string v.t]] w fun e w' => e = .returned (.bool (valB v)) ∧ Below w.heap.size w w' := by
  obtain ⟨k, n, s⟩ := v
  simp only at hs ⊢
  have aB : Below w.heap.size w (w.alloc (.cells #[.int .i64 k, .int .i64 n, .string s] 146)) := (Below.refl _ _).alloc (Nat.le_refl _) _
  have aN : ∀ w1, Below (w.alloc (.cells #[.int .i64 k, .int .i64 n, .string s] 146)).heap.size (w.alloc (.cells #[.int .i64 k, .int .i64 n, .string s] 146)) w1 → Below w.heap.size w w1 := fun w1 h => aB.trans (h.mono (by simp))
  have HA : Hid _ := aB
  have HN : Hid _ := aN
  clear aB aN
  by_cases h1 : k = 1
  · have H : Hid (valB ⟨k, n, s⟩ = (intB n && noB s)) := by unfold Hid valB; rw [if_pos h1]
    subst h1
    by_cases hz : s.toList = []
    · have H2 : Hid (intB n = valB ⟨1, n, s⟩) := by rw [Hid, H.out, no_of hz]; simp
      go_enter Tryz.func121, Tryz.ntmps121
      go_wp2_with (go_at_call 94; refine (impl_isInt _ _).mono ?_; rintro e w1 ⟨rfl, rfl⟩)
      go_ret
      exact ⟨ret_bool H2.out, HA.out⟩
    · have H2 : Hid (false = valB ⟨1, n, s⟩) := by rw [Hid, H.out, no_not hz]; simp
      go_enter Tryz.func121, Tryz.ntmps121
      go_wp2_with (go_at_call 94; refine (impl_isInt _ _).mono ?_; rintro e w1 ⟨rfl, rfl⟩)
      go_ret
      exact ⟨ret_bool H2.out, HA.out⟩
  have g1 : (k == 1) = false := by rw [beq_eq_false_iff_ne]; omega
  by_cases h2 : k = 2
  · have H : Hid (valB ⟨k, n, s⟩ = ((n == 0 || n == 1) && noB s)) := by unfold Hid valB; rw [if_neg h1, if_pos h2]
    subst h2
    clear g1 h1
    by_cases hz : s.toList = []
    · cases hb : (n == 0)
      · have H2 : Hid ((n == 1) = valB ⟨2, n, s⟩) := by rw [Hid, H.out, no_of hz, hb]; simp
        go_enter Tryz.func121, Tryz.ntmps121
        go_wp2_with fail
        go_ret
        exact ⟨ret_bool H2.out, HA.out⟩
      · have H2 : Hid (true = valB ⟨2, n, s⟩) := by rw [Hid, H.out, no_of hz, hb]; simp
        go_enter Tryz.func121, Tryz.ntmps121
        go_wp2_with fail
        go_ret
        exact ⟨ret_bool H2.out, HA.out⟩
    · have H2 : Hid (false = valB ⟨2, n, s⟩) := by rw [Hid, H.out, no_not hz]; simp
      go_enter Tryz.func121, Tryz.ntmps121
      go_wp2_with fail
      go_ret
      exact ⟨ret_bool H2.out, HA.out⟩
  have g2 : (k == 2) = false := by rw [beq_eq_false_iff_ne]; omega
  by_cases h3 : k = 3
  · have H : Hid (valB ⟨k, n, s⟩ = ((n == 0) && noB s)) := by unfold Hid valB; rw [if_neg h1, if_neg h2, if_pos h3]
    subst h3
    clear g1 h1 g2 h2
    by_cases hz : s.toList = []
    · have H2 : Hid ((n == 0) = valB ⟨3, n, s⟩) := by rw [Hid, H.out, no_of hz]; simp
      go_enter Tryz.func121, Tryz.ntmps121
      go_wp2_with fail
      go_ret
      exact ⟨ret_bool H2.out, HA.out⟩
    · have H2 : Hid (false = valB ⟨3, n, s⟩) := by rw [Hid, H.out, no_not hz]; simp
      go_enter Tryz.func121, Tryz.ntmps121
      go_wp2_with fail
      go_ret
      exact ⟨ret_bool H2.out, HA.out⟩
  have g3 : (k == 3) = false := by rw [beq_eq_false_iff_ne]; omega
  by_cases h4 : k = 4
  · have H : Hid (valB ⟨k, n, s⟩ = ((n == 0) && nameB s)) := by unfold Hid valB; rw [if_neg h1, if_neg h2, if_neg h3, if_pos h4]
    subst h4
    clear g1 h1 g2 h2 g3 h3
    cases hb : (n == 0)
    · have H2 : Hid (false = valB ⟨4, n, s⟩) := by rw [Hid, H.out, hb]; simp
      go_enter Tryz.func121, Tryz.ntmps121
      go_wp2_with (go_at_call 88; refine (impl_nameOK _ _ hs).mono ?_; rintro e w1 ⟨rfl, hb1⟩)
      go_ret
      exact ⟨ret_bool H2.out, HA.out⟩
    · have H2 : Hid (nameB s = valB ⟨4, n, s⟩) := by rw [Hid, H.out, hb]; simp
      go_enter Tryz.func121, Tryz.ntmps121
      go_wp2_with (go_at_call 88; refine (impl_nameOK _ _ hs).mono ?_; rintro e w1 ⟨rfl, hb1⟩)
      go_ret
      exact ⟨ret_bool H2.out, HN.out _ hb1⟩
  have g4 : (k == 4) = false := by rw [beq_eq_false_iff_ne]; omega
  have H2 : Hid (false = valB ⟨k, n, s⟩) := by unfold Hid valB; rw [if_neg h1, if_neg h2, if_neg h3, if_neg h4]
  clear h1 h2 h3 h4
  go_enter Tryz.func121, Tryz.ntmps121
  go_wp2_with fail
  go_ret
  exact ⟨ret_bool H2.out, HA.out⟩

/-- What is left of n, and what is known then. -/
def Sz (n m : Int) (p : Prop) : Prop := m ≤ n ∧ -1 ≤ m ∧ (0 ≤ m → p)
set_option maxHeartbeats 1000000 in
theorem sz_val (v : Va) (n : Int) (w : World) (hs : v.t.size ≤ maxLen) (h0 : 0 ≤ n) (h1 : n ≤ 1048576) :
    Calls Tryz.prog 129 #[.agg #[.int .i64 v.k, .int .i64 v.n, .string v.t], .int .i64 n] w fun e w' => ∃ m, e = .returned (.int .i64 m) ∧ Sz n m (VaBd 1048576 v) ∧ Below w.heap.size w w' := by
  obtain ⟨a, b, s⟩ := v
  simp only at hs ⊢
  unfold maxLen at hs
  by_cases h : n - s.size < 0
  · go_enter Tryz.func129, Tryz.ntmps129
    go_wp2
    go_ret
    exact ⟨-1, rfl, ⟨by omega, by omega, fun h => by omega⟩, (Below.refl _ _).alloc (Nat.le_refl _) _⟩
  · go_enter Tryz.func129, Tryz.ntmps129
    go_wp2
    go_ret
    exact ⟨n - s.size, rfl, ⟨by omega, by omega, fun _ => by unfold VaBd; simp only; omega⟩, (Below.refl _ _).alloc (Nat.le_refl _) _⟩
set_option maxHeartbeats 1000000 in
theorem to_val (a b : Int) (s : ByteArray) (w : World) :
    Calls Tryz.prog 130 #[.agg #[.int .i64 a, .int .i64 b, .string s]] w fun e w' => e = .returned (.agg #[.int .i64 a, .int .i64 b, .string s]) ∧ Below w.heap.size w w' := by
  go_enter Tryz.func130, Tryz.ntmps130
  go_wp2
  refine bodyPost_ret (v := .agg #[.int .i64 a, .int .i64 b, .string s]) (by simp [results, Tryz.results130, go_sem]) rfl ⟨rfl, ?_⟩
  repeat (first | exact Below.refl _ _ | refine Below.setCell ?_ (by simp <;> omega) _ | refine Below.alloc ?_ (by simp <;> omega) _)
end Go.Proofs.YtdchpeifpiglmaaGreatDoor
namespace Go.Proofs.YtdchpeifpiglmaaGreatDoor
open Go.ChangeShapes Go.WideShapes Go.ChangeAt Go.RowKit
set_option linter.unusedVariables false

def SelFrom (lo hi : Nat) (w : World) (a : Option Addr) (k : Nat) (l : Sels) : Prop :=
  l = .nil ∨ ∃ b o, a = some ⟨b, o, none⟩ ∧ lo ≤ b ∧ b < hi ∧ SelPre lo hi w l (rdOf w b) (o + k * 6) l.len
theorem SelRow.from_ {lo hi : Nat} {w : World} {a : Option Addr} {l : Sels} (h : SelRow lo hi w a l) : SelFrom lo hi w a 0 l := by
  rcases h with h | ⟨b, o, rfl, h1, h2, h3⟩
  · exact .inl h
  · exact .inr ⟨b, o, rfl, h1, h2, by simpa using h3⟩
theorem SelFrom.keep {lo hi : Nat} {w w' : World} {a : Option Addr} {k : Nat} {l : Sels} (h : SelFrom lo hi w a k l) (hk : Agree lo hi w w') : SelFrom lo hi w' a k l := by
  rcases h with h | ⟨b, o, rfl, h1, h2, h3⟩
  · exact .inl h
  · exact .inr ⟨b, o, rfl, h1, h2, by rw [hk.rd h1 h2]; exact h3.keep hk⟩
theorem SelFrom.wide {lo hi lo' hi' : Nat} {w : World} {a : Option Addr} {k : Nat} {l : Sels} (h : SelFrom lo hi w a k l) (e1 : lo' ≤ lo) (e2 : hi ≤ hi') : SelFrom lo' hi' w a k l := by
  rcases h with h | ⟨b, o, rfl, h1, h2, h3⟩
  · exact .inl h
  · exact .inr ⟨b, o, rfl, by omega, by omega, h3.wide e1 e2⟩
/-- The k-th selection's cells, its lists, and the rest. -/
theorem SelFrom.step {lo hi : Nat} {w : World} {a : Option Addr} {k : Nat} {h : Hd} {sub rest : Sels} (H : SelFrom lo hi w a k (.cons h sub rest)) :
    ∃ b o a1 c1 a2 c2 a3 c3, a = some ⟨b, o, none⟩ ∧ lo ≤ b ∧ b < hi ∧ w.cell? ⟨b, o + k * 6, none⟩ = some (.int .i64 h.k) ∧ w.cell? ⟨b, o + k * 6 + 1, none⟩ = some (.string h.al) ∧ w.cell? ⟨b, o + k * 6 + 2, none⟩ = some (.string h.nm) ∧
      w.cell? ⟨b, o + k * 6 + 3, none⟩ = some (.slice a1 h.args.length c1) ∧ w.cell? ⟨b, o + k * 6 + 4, none⟩ = some (.slice a2 h.dirs.length c2) ∧ w.cell? ⟨b, o + k * 6 + 5, none⟩ = some (.slice a3 sub.len c3) ∧
      ArRow lo hi w a1 h.args ∧ DiRow lo hi w a2 h.dirs ∧ SelRow lo hi w a3 sub ∧ SelFrom lo hi w a (k + 1) rest := by
  rcases H with H | ⟨b, o, rfl, h1, h2, h3⟩
  · cases H
  · obtain ⟨⟨p0, p1, p2, ⟨a1, c1, p3, q3⟩, ⟨a2, c2, p4, q4⟩⟩, ⟨a3, c3, p5, q5⟩, p6⟩ := h3.head
    refine ⟨b, o, a1, c1, a2, c2, a3, c3, rfl, h1, h2, p0, p1, p2, p3, p4, p5, q3, q4, q5, ?_⟩
    exact .inr ⟨b, o, rfl, h1, h2, by rw [show o + (k + 1) * 6 = o + k * 6 + 6 by omega]; exact p6⟩
theorem SelFrom.next {lo hi : Nat} {w : World} {a : Option Addr} {k : Nat} {h : Hd} {sub rest : Sels} (H : SelFrom lo hi w a k (.cons h sub rest)) : SelFrom lo hi w a (k + 1) rest := by
  obtain ⟨_, _, _, _, _, _, _, _, _, _, _, _, _, _, _, _, _, _, _, _, hf⟩ := H.step
  exact hf
theorem Row.cells_ar {lo hi : Nat} {w : World} {a : Option Addr} {l : List Ar} (h : ArRow lo hi w a l) (k : Nat) (hk : k < l.length) :
    ∃ b o, a = some ⟨b, o, none⟩ ∧ lo ≤ b ∧ b < hi ∧ w.cell? ⟨b, o + k * 4, none⟩ = some (.string l[k].nm) ∧ w.cell? ⟨b, o + k * 4 + 1, none⟩ = some (.int .i64 l[k].v.k) ∧ w.cell? ⟨b, o + k * 4 + 2, none⟩ = some (.int .i64 l[k].v.n) ∧ w.cell? ⟨b, o + k * 4 + 3, none⟩ = some (.string l[k].v.t) := by
  obtain ⟨b, o, h1, h2, h3, h4, h5, h6, h7⟩ := h.at_ k hk
  exact ⟨b, o, h1, h2, h3, h4, h5, h6, h7⟩
theorem Row.cells_di {lo hi : Nat} {w : World} {a : Option Addr} {l : List Di} (h : DiRow lo hi w a l) (k : Nat) (hk : k < l.length) :
    ∃ b o, a = some ⟨b, o, none⟩ ∧ lo ≤ b ∧ b < hi ∧ w.cell? ⟨b, o + k * 4, none⟩ = some (.bool l[k].sk) ∧ w.cell? ⟨b, o + k * 4 + 1, none⟩ = some (.int .i64 l[k].v.k) ∧ w.cell? ⟨b, o + k * 4 + 2, none⟩ = some (.int .i64 l[k].v.n) ∧ w.cell? ⟨b, o + k * 4 + 3, none⟩ = some (.string l[k].v.t) := by
  obtain ⟨b, o, h1, h2, h3, h4, h5, h6, h7⟩ := h.at_ k hk
  exact ⟨b, o, h1, h2, h3, h4, h5, h6, h7⟩
theorem DeRow.cells {lo hi : Nat} {w : World} {a : Option Addr} {l : List De} (h : DeRow lo hi w a l) (k : Nat) (hk : k < l.length) :
    ∃ b o a3 c3, a = some ⟨b, o, none⟩ ∧ lo ≤ b ∧ b < hi ∧ w.cell? ⟨b, o + k * 4, none⟩ = some (.int .i64 l[k].k) ∧ w.cell? ⟨b, o + k * 4 + 1, none⟩ = some (.string l[k].nm) ∧ w.cell? ⟨b, o + k * 4 + 2, none⟩ = some (.string l[k].on) ∧ w.cell? ⟨b, o + k * 4 + 3, none⟩ = some (.slice a3 l[k].sels.len c3) ∧ SelRow lo hi w a3 l[k].sels := by
  obtain ⟨b, o, h1, h2, h3, h4, h5, h6, ⟨a3, c3, h7, h8⟩⟩ := Row.at_ h k hk
  exact ⟨b, o, a3, c3, h1, h2, h3, h4, h5, h6, h7, h8⟩
/-- Rows in old memory stay behind a call. -/
theorem Row.up {α : Type} {at_ : (Nat → Option Value) → Nat → α → Prop} {z : Nat} {w w' : World} {a : Option Addr} {l : List α} (h : Row at_ z 0 w.heap.size w a l) (hb : Below w.heap.size w w') : Row at_ z 0 w'.heap.size w' a l :=
  (h.keep (Below.agree hb (Nat.le_refl _))).wide (Nat.le_refl _) hb.size
theorem SelRow.up {w w' : World} {a : Option Addr} {l : Sels} (h : SelRow 0 w.heap.size w a l) (hb : Below w.heap.size w w') : SelRow 0 w'.heap.size w' a l :=
  (h.keep (Below.agree hb (Nat.le_refl _))).wide (Nat.le_refl _) hb.size
theorem SelFrom.up {w w' : World} {a : Option Addr} {k : Nat} {l : Sels} (h : SelFrom 0 w.heap.size w a k l) (hb : Below w.heap.size w w') : SelFrom 0 w'.heap.size w' a k l :=
  (h.keep (Below.agree hb (Nat.le_refl _))).wide (Nat.le_refl _) hb.size
theorem DeRow.up {w w' : World} {a : Option Addr} {l : List De} (h : DeRow 0 w.heap.size w a l) (hb : Below w.heap.size w w') : DeRow 0 w'.heap.size w' a l :=
  (h.keep (Below.agree hb (Nat.le_refl _))).wide (Nat.le_refl _) hb.size
end Go.Proofs.YtdchpeifpiglmaaGreatDoor
