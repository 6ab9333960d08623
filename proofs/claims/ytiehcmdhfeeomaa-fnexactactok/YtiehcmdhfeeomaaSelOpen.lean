/- A document that came in, opened. -/
import Derived.Test.YtiehcmdhfeeomaaSels
import Derived.Deep.Slices
import Derived.Deep.Strs
import Derived.Lib.SmallJoins
namespace Go.Proofs.Ytiehcmdhfeeomaa
open Go.ChangeShapes Go.WideShapes Go.ChangeAt Go.RowKit
set_option linter.unusedVariables false

def VaBd (m : Nat) (v : Va) : Prop := v.t.size ≤ m
def ArBd (m : Nat) (x : Ar) : Prop := x.nm.size ≤ m ∧ x.v.t.size ≤ m
def DiBd (m : Nat) (x : Di) : Prop := x.v.t.size ≤ m
def HdBd (m : Nat) (h : Hd) : Prop := h.al.size ≤ m ∧ h.nm.size ≤ m ∧ h.args.length ≤ m ∧ (∀ x ∈ h.args, ArBd m x) ∧ h.dirs.length ≤ m ∧ ∀ x ∈ h.dirs, DiBd m x
def SelsBd (m : Nat) : Sels → Prop
  | .nil => True
  | .cons h sub rest => HdBd m h ∧ sub.len ≤ m ∧ SelsBd m sub ∧ SelsBd m rest
def DeBd (m : Nat) (x : De) : Prop := x.nm.size ≤ m ∧ x.on.size ≤ m ∧ x.sels.len ≤ m ∧ SelsBd m x.sels
def DefsBd (m : Nat) (l : List De) : Prop := l.length ≤ m ∧ ∀ x ∈ l, DeBd m x

theorem cell_lt {W : World} {a : Addr} {v : Value} (h : W.cell? a = some v) : a.block < W.heap.size := by
  refine Nat.lt_of_not_le fun hle => ?_
  simp [World.cell?, Array.getElem?_eq_none hle] at h
theorem list_of {α : Type} {len : Nat} {p : Nat → α → Prop} (h : ∀ i, i < len → ∃ x, p i x) : ∃ l : List α, l.length = len ∧ ∀ i x, l[i]? = some x → p i x := by
  induction len with
  | zero => exact ⟨[], rfl, by simp⟩
  | succ n ih =>
    obtain ⟨l, hl, hp⟩ := ih fun i hi => h i (by omega)
    obtain ⟨y, hy⟩ := h n (by omega)
    refine ⟨l ++ [y], by simp [hl], fun i x hx => ?_⟩
    by_cases hi : i < n
    · rw [List.getElem?_append_left (by omega)] at hx; exact hp i x hx
    · rw [List.getElem?_append_right (by omega)] at hx
      have : i - l.length < 1 := by have := (List.getElem?_eq_some_iff.1 hx).1; simpa using this
      obtain rfl : i = n := by omega
      rw [hl, Nat.sub_self] at hx
      simp at hx; subst hx; exact hy

theorem list3 {α : Type} {l : List α} (h : l.length = 3) : ∃ a b c, l = [a, b, c] := by
  match l, h with
  | [a, b, c], _ => exact ⟨a, b, c, rfl⟩
theorem list4 {α : Type} {l : List α} (h : l.length = 4) : ∃ a b c d, l = [a, b, c, d] := by
  match l, h with
  | [a, b, c, d], _ => exact ⟨a, b, c, d, rfl⟩
theorem list6 {α : Type} {l : List α} (h : l.length = 6) : ∃ a b c d e f, l = [a, b, c, d, e, f] := by
  match l, h with
  | [a, b, c, d, e, f], _ => exact ⟨a, b, c, d, e, f, rfl⟩

section
variable {H : Type} {enc : TypeId × Value → H} {W : World}
/-- A slice's cell opened: its elements' cells, each with its own reading. -/
theorem sl_open {t e : TypeId} {z : Nat} {fuel : Nat} {cs : List Value} {x : DataW H × List MemPlace} (ht : Try.prog.underlying t = some (.slice e)) (hz : Try.prog.cellsOf e = z) (hz0 : 0 < z) (h : DataW.trod enc Try.prog W 0 (fun _ => true) true fuel t cs = some x) :
    ∃ a len cap, cs = [.slice a len cap] ∧ len ≤ maxLen ∧ (len = 0 ∨ ∃ n b o, fuel = n + 1 ∧ a = some ⟨b, o, none⟩ ∧ b < W.heap.size ∧
      ∀ i, i < len → ∃ cs' y, cs'.length = z ∧ (∀ j, j < z → rdOf W b (o + i * z + j) = cs'[j]?) ∧ DataW.trod enc Try.prog W 0 (fun _ => true) true n e cs' = some y) := by
  rcases DataW.trod_slice ht h with ⟨rfl, _⟩ | ⟨a, len, cap, elems, rest, n, rfl, rfl, _, hb, hl, hm, hlen, hel, _, _⟩
  · exact ⟨none, 0, 0, rfl, Nat.zero_le _, .inl rfl⟩
  · refine ⟨some a, len, cap, rfl, by omega, ?_⟩
    by_cases h0 : len = 0
    · exact .inl h0
    rw [hz] at hel
    have key : ∀ i, i < len → ∃ cs' y, cs'.length = z ∧ (∀ j, j < z → W.cell? ((a.add (i * z)).add j) = cs'[j]?) ∧ DataW.trod enc Try.prog W 0 (fun _ => true) true n e cs' = some y := by
      intro i hi
      have := hel i hi
      rw [List.getElem?_eq_getElem (by omega), Option.bind_eq_some_iff] at this
      obtain ⟨cs', h1, h2⟩ := this
      obtain ⟨_, hcl, hc⟩ := World.cells?_some h1
      exact ⟨cs', _, hcl, hc, h2⟩
    obtain ⟨b, o, spot⟩ := a
    obtain ⟨cs', y, hcl, hc, _⟩ := key 0 (by omega)
    have hc0 := hc 0 hz0
    rw [List.getElem?_eq_getElem (by omega)] at hc0
    have hspot : spot = none := by
      have := World.cell?_spot hc0
      simpa [Addr.add] using this
    subst hspot
    refine .inr ⟨n, b, o, rfl, rfl, (by have := cell_lt hc0; simpa [Addr.add] using this), fun i hi => ?_⟩
    obtain ⟨cs', y, hcl, hc, hd⟩ := key i hi
    refine ⟨cs', y, hcl, fun j hj => ?_, hd⟩
    have := hc j hj
    simp only [add_plain] at this
    exact this

theorem va_cells {n : Nat} {cs : List Value} {x : DataW H × List MemPlace} (h : DataW.trod enc Try.prog W 0 (fun _ => true) true n 87 cs = some x) : ∃ v : Va, cs = [.int .i64 v.k, .int .i64 v.n, .string v.t] ∧ VaBd maxLen v := by
  have ci : Try.prog.cellsOf 3 = 1 := by kernel_rfl
  have cst : Try.prog.cellsOf 9 = 1 := by kernel_rfl
  have cv : Try.prog.cellsOf 87 = 3 := by kernel_rfl
  obtain ⟨y0, y1, y2, m, _, hlen, h0, h1, h2⟩ := Deep.trod_struct3 Try.underlying87 h
  rw [cv] at hlen
  obtain ⟨v0, v1, v2, rfl⟩ := list3 hlen
  obtain ⟨k, e0, _, _⟩ := DataW.trod_int Try.underlying3 h0
  obtain ⟨j, e1, _, _⟩ := DataW.trod_int Try.underlying3 h1
  obtain ⟨s, e2, _, hs⟩ := DataW.trod_string Try.underlying9 h2
  simp [ci, cst] at e0 e1 e2
  subst e0 e1 e2
  exact ⟨⟨k, j, s⟩, rfl, hs⟩
theorem ar_cells {n : Nat} {cs : List Value} {x : DataW H × List MemPlace} (h : DataW.trod enc Try.prog W 0 (fun _ => true) true n 149 cs = some x) : ∃ v : Ar, cs = [.string v.nm, .int .i64 v.v.k, .int .i64 v.v.n, .string v.v.t] ∧ ArBd maxLen v := by
  have cst : Try.prog.cellsOf 9 = 1 := by kernel_rfl
  have cv : Try.prog.cellsOf 87 = 3 := by kernel_rfl
  have ca : Try.prog.cellsOf 149 = 4 := by kernel_rfl
  obtain ⟨y0, y1, m, _, hlen, h0, h1⟩ := trod_struct2 Try.underlying149 h
  rw [ca] at hlen
  obtain ⟨v0, v1, v2, v3, rfl⟩ := list4 hlen
  obtain ⟨s, e0, _, hs⟩ := DataW.trod_string Try.underlying9 h0
  obtain ⟨v, e1, hv⟩ := va_cells h1
  simp [cst, cv] at e0 e1
  obtain ⟨rfl, rfl, rfl⟩ := e1
  subst e0
  exact ⟨⟨s, v⟩, rfl, hs, hv⟩
theorem di_cells {n : Nat} {cs : List Value} {x : DataW H × List MemPlace} (h : DataW.trod enc Try.prog W 0 (fun _ => true) true n 152 cs = some x) : ∃ v : Di, cs = [.bool v.sk, .int .i64 v.v.k, .int .i64 v.v.n, .string v.v.t] ∧ DiBd maxLen v := by
  have cb : Try.prog.cellsOf 4 = 1 := by kernel_rfl
  have cv : Try.prog.cellsOf 87 = 3 := by kernel_rfl
  have ca : Try.prog.cellsOf 152 = 4 := by kernel_rfl
  obtain ⟨y0, y1, m, _, hlen, h0, h1⟩ := trod_struct2 Try.underlying152 h
  rw [ca] at hlen
  obtain ⟨v0, v1, v2, v3, rfl⟩ := list4 hlen
  obtain ⟨s, e0, _⟩ := DataW.trod_bool Try.underlying4 h0
  obtain ⟨v, e1, hv⟩ := va_cells h1
  simp [cb, cv] at e0 e1
  obtain ⟨rfl, rfl, rfl⟩ := e1
  subst e0
  exact ⟨⟨s, v⟩, rfl, hv⟩
theorem args_open {fuel : Nat} {cs : List Value} {x : DataW H × List MemPlace} (h : DataW.trod enc Try.prog W 0 (fun _ => true) true fuel 124 cs = some x) :
    ∃ a c, ∃ l : List Ar, cs = [.slice a l.length c] ∧ l.length ≤ maxLen ∧ (∀ x ∈ l, ArBd maxLen x) ∧ ArRow 0 W.heap.size W a l := by
  obtain ⟨a, len, cap, rfl, hm, hr⟩ := sl_open Try.underlying124 (z := 4) (by kernel_rfl) (by omega) h
  rcases hr with rfl | ⟨n, b, o, rfl, rfl, hb, hx⟩
  · exact ⟨a, cap, [], rfl, Nat.zero_le _, by simp, .inl rfl⟩
  · obtain ⟨l, hl, hp⟩ := list_of (p := fun i x => ArAt (rdOf W b) (o + i * 4) x ∧ ArBd maxLen x) (fun i hi => by
      obtain ⟨cs', y, hcl, hc, hd⟩ := hx i hi
      obtain ⟨v, rfl, hv⟩ := ar_cells hd
      exact ⟨v, ⟨hc 0 (by omega), hc 1 (by omega), hc 2 (by omega), hc 3 (by omega)⟩, hv⟩)
    subst hl
    refine ⟨_, cap, l, rfl, hm, fun x hx => ?_, .inr ⟨b, o, rfl, Nat.zero_le _, hb, fun i x hx => (hp i x hx).1⟩⟩
    obtain ⟨i, hi, rfl⟩ := List.getElem_of_mem hx
    exact (hp i _ (List.getElem?_eq_getElem hi)).2
theorem dirs_open {fuel : Nat} {cs : List Value} {x : DataW H × List MemPlace} (h : DataW.trod enc Try.prog W 0 (fun _ => true) true fuel 125 cs = some x) :
    ∃ a c, ∃ l : List Di, cs = [.slice a l.length c] ∧ l.length ≤ maxLen ∧ (∀ x ∈ l, DiBd maxLen x) ∧ DiRow 0 W.heap.size W a l := by
  obtain ⟨a, len, cap, rfl, hm, hr⟩ := sl_open Try.underlying125 (z := 4) (by kernel_rfl) (by omega) h
  rcases hr with rfl | ⟨n, b, o, rfl, rfl, hb, hx⟩
  · exact ⟨a, cap, [], rfl, Nat.zero_le _, by simp, .inl rfl⟩
  · obtain ⟨l, hl, hp⟩ := list_of (p := fun i x => DiAt (rdOf W b) (o + i * 4) x ∧ DiBd maxLen x) (fun i hi => by
      obtain ⟨cs', y, hcl, hc, hd⟩ := hx i hi
      obtain ⟨v, rfl, hv⟩ := di_cells hd
      exact ⟨v, ⟨hc 0 (by omega), hc 1 (by omega), hc 2 (by omega), hc 3 (by omega)⟩, hv⟩)
    subst hl
    refine ⟨_, cap, l, rfl, hm, fun x hx => ?_, .inr ⟨b, o, rfl, Nat.zero_le _, hb, fun i x hx => (hp i x hx).1⟩⟩
    obtain ⟨i, hi, rfl⟩ := List.getElem_of_mem hx
    exact (hp i _ (List.getElem?_eq_getElem hi)).2

/-- Selections by index are a set. -/
theorem sels_of {lo hi : Nat} {w : World} {rd : Nat → Option Value} {m : Nat} : ∀ {l : List (Hd × Sels)} {o : Nat}, (∀ i x, l[i]? = some x → HdAt lo hi w rd (o + i * 6) x.1 ∧ (∃ a c, rd (o + i * 6 + 5) = some (.slice a x.2.len c) ∧ SelRow lo hi w a x.2) ∧ HdBd m x.1 ∧ x.2.len ≤ m ∧ SelsBd m x.2) →
    SelPre lo hi w (app l .nil) rd o l.length ∧ SelsBd m (app l .nil)
  | [], _, _ => ⟨trivial, trivial⟩
  | x :: l, o, h => by
    obtain ⟨h1, h2, h3, h4, h5⟩ := h 0 x rfl
    have := sels_of (l := l) (o := o + 6) (fun i y hy => by
      have := h (i + 1) y (by simpa using hy)
      rw [show o + (i + 1) * 6 = o + 6 + i * 6 by omega] at this
      exact this)
    simp only [Nat.zero_mul, Nat.add_zero] at h1 h2
    exact ⟨.inr ⟨h1, h2, this.1⟩, h3, h4, h5, this.2⟩
theorem sels_open : ∀ {fuel : Nat} {cs : List Value} {x : DataW H × List MemPlace}, DataW.trod enc Try.prog W 0 (fun _ => true) true fuel 66 cs = some x →
    ∃ a c, ∃ l : Sels, cs = [.slice a l.len c] ∧ l.len ≤ maxLen ∧ SelsBd maxLen l ∧ SelRow 0 W.heap.size W a l := by
  intro fuel
  induction fuel using Nat.strongRecOn with
  | _ fuel ih =>
  intro cs x h
  have ci : Try.prog.cellsOf 3 = 1 := by kernel_rfl
  have cst : Try.prog.cellsOf 9 = 1 := by kernel_rfl
  have cs1 : Try.prog.cellsOf 124 = 1 := by kernel_rfl
  have cs2 : Try.prog.cellsOf 125 = 1 := by kernel_rfl
  have cs3 : Try.prog.cellsOf 66 = 1 := by kernel_rfl
  obtain ⟨a, len, cap, rfl, hm, hr⟩ := sl_open Try.underlying66 (z := 6) (by kernel_rfl) (by omega) h
  rcases hr with rfl | ⟨n, b, o, rfl, rfl, hb, hx⟩
  · exact ⟨a, cap, .nil, rfl, Nat.zero_le _, trivial, .inl rfl⟩
  · obtain ⟨l, hl, hp⟩ := list_of (p := fun i (x : Hd × Sels) => HdAt 0 W.heap.size W (rdOf W b) (o + i * 6) x.1 ∧ (∃ a c, rdOf W b (o + i * 6 + 5) = some (.slice a x.2.len c) ∧ SelRow 0 W.heap.size W a x.2) ∧ HdBd maxLen x.1 ∧ x.2.len ≤ maxLen ∧ SelsBd maxLen x.2) (fun i hi => by
      obtain ⟨cs', y, hcl, hc, hd⟩ := hx i hi
      obtain ⟨xs, n', rfl, rfl, _, hxl, hf⟩ := DataW.trod_struct Try.underlying127 hd
      obtain ⟨v0, v1, v2, v3, v4, v5, rfl⟩ := list6 hcl
      obtain ⟨y0, y1, y2, y3, y4, y5, rfl⟩ := list6 hxl
      obtain ⟨k, e0, _, _⟩ := DataW.trod_int Try.underlying3 (hf 0 _ rfl)
      obtain ⟨al, e1, _, hal⟩ := DataW.trod_string Try.underlying9 (hf 1 _ rfl)
      obtain ⟨nm, e2, _, hnm⟩ := DataW.trod_string Try.underlying9 (hf 2 _ rfl)
      obtain ⟨a3, c3, args, e3, b3, d3, r3⟩ := args_open (hf 3 _ rfl)
      obtain ⟨a4, c4, dirs, e4, b4, d4, r4⟩ := dirs_open (hf 4 _ rfl)
      obtain ⟨a5, c5, sub, e5, b5, d5, r5⟩ := ih n' (by omega) (hf 5 _ rfl)
      simp [ci, cst, cs1, cs2, cs3] at e0 e1 e2 e3 e4 e5
      subst e0 e1 e2 e3 e4 e5
      exact ⟨(⟨k, al, nm, args, dirs⟩, sub), ⟨hc 0 (by omega), hc 1 (by omega), hc 2 (by omega), ⟨a3, c3, hc 3 (by omega), r3⟩, ⟨a4, c4, hc 4 (by omega), r4⟩⟩, ⟨a5, c5, hc 5 (by omega), r5⟩, ⟨hal, hnm, b3, d3, b4, d4⟩, b5, d5⟩)
    obtain ⟨q1, q2⟩ := sels_of hp
    have hal : (app l .nil).len = len := by rw [app_len, hl]; rfl
    refine ⟨_, cap, app l .nil, by rw [hal], by omega, q2, .inr ⟨b, o, rfl, Nat.zero_le _, hb, ?_⟩⟩
    rw [hal, ← hl]; exact q1
theorem defs_open {fuel : Nat} {cs : List Value} {x : DataW H × List MemPlace} (h : DataW.trod enc Try.prog W 0 (fun _ => true) true fuel 22 cs = some x) :
    ∃ a c, ∃ l : List De, cs = [.slice a l.length c] ∧ DefsBd maxLen l ∧ DeRow 0 W.heap.size W a l := by
  have ci : Try.prog.cellsOf 3 = 1 := by kernel_rfl
  have cst : Try.prog.cellsOf 9 = 1 := by kernel_rfl
  have cs3 : Try.prog.cellsOf 66 = 1 := by kernel_rfl
  obtain ⟨a, len, cap, rfl, hm, hr⟩ := sl_open Try.underlying22 (z := 4) (by kernel_rfl) (by omega) h
  rcases hr with rfl | ⟨n, b, o, rfl, rfl, hb, hx⟩
  · exact ⟨a, cap, [], rfl, ⟨Nat.zero_le _, by simp⟩, .inl rfl⟩
  · obtain ⟨l, hl, hp⟩ := list_of (p := fun i x => DeAt 0 W.heap.size W (rdOf W b) (o + i * 4) x ∧ DeBd maxLen x) (fun i hi => by
      obtain ⟨cs', y, hcl, hc, hd⟩ := hx i hi
      obtain ⟨xs, n', rfl, rfl, _, hxl, hf⟩ := DataW.trod_struct Try.underlying68 hd
      obtain ⟨v0, v1, v2, v3, rfl⟩ := list4 hcl
      obtain ⟨y0, y1, y2, y3, rfl⟩ := list4 hxl
      obtain ⟨k, e0, _, _⟩ := DataW.trod_int Try.underlying3 (hf 0 _ rfl)
      obtain ⟨nm, e1, _, hnm⟩ := DataW.trod_string Try.underlying9 (hf 1 _ rfl)
      obtain ⟨on, e2, _, hon⟩ := DataW.trod_string Try.underlying9 (hf 2 _ rfl)
      obtain ⟨a5, c5, sub, e5, b5, d5, r5⟩ := sels_open (hf 3 _ rfl)
      simp [ci, cst, cs3] at e0 e1 e2 e5
      subst e0 e1 e2 e5
      exact ⟨⟨k, nm, on, sub⟩, ⟨hc 0 (by omega), hc 1 (by omega), hc 2 (by omega), ⟨a5, c5, hc 3 (by omega), r5⟩⟩, hnm, hon, b5, d5⟩)
    subst hl
    refine ⟨_, cap, l, rfl, ⟨hm, fun x hx => ?_⟩, .inr ⟨b, o, rfl, Nat.zero_le _, hb, fun i x hx => (hp i x hx).1⟩⟩
    obtain ⟨i, hi, rfl⟩ := List.getElem_of_mem hx
    exact (hp i _ (List.getElem?_eq_getElem hi)).2
end
end Go.Proofs.Ytiehcmdhfeeomaa
