/- Rows that a call owns, of the kinds ArgDef, FieldDef, TypeDef; marks written into them, and held. -/
import Derived.Test.YtnfoinmccigdfaaGreatDoorGOwn
import Derived.Test.YtnfoinmccigdfaaGreatDoorSchRows
namespace Go.Proofs.YtnfoinmccigdfaaGreatDoor.G
open Go.ChangeShapes Go.WideShapes Go.ChangeAt Go.RowKit
set_option linter.unusedVariables false

theorem m3_of {z : Int} {k : Nat} (h : z = k) : (z % 3 == 0) = m3 k := by
  subst h; unfold m3
  rw [Bool.eq_iff_iff]
  simp only [beq_iff_eq, decide_eq_true_eq]
  omega
theorem val_b {x y : Bool} (h : x = y) : Value.bool x = .bool y := by rw [h]
theorem val_s {x y : ByteArray} (h : x = y) : Value.string x = .string y := by rw [h]
theorem flat_mem {L : List (List Nat)} {s : List Nat} {i : Nat} (h : L[i]? = some s) {g : Nat} (hg : g ∈ s) : g ∈ L.flatten := List.mem_flatten.2 ⟨s, List.mem_of_getElem? h, hg⟩
theorem flat_apart : ∀ {L : List (List Nat)} {s t : List Nat} {i j : Nat}, L.flatten.Nodup → L[i]? = some s → L[j]? = some t → i ≠ j → ∀ g, g ∈ s → ¬ g ∈ t
  | [], s, t, i, j, hn, hi, hj, hne => by simp at hi
  | u :: L, s, t, 0, 0, hn, hi, hj, hne => absurd rfl hne
  | u :: L, s, t, 0, j + 1, hn, hi, hj, hne => by
    intro g hs ht
    rw [List.flatten_cons, List.nodup_append] at hn
    simp only [List.getElem?_cons_zero, Option.some.injEq] at hi
    subst hi
    exact hn.2.2 g hs g (flat_mem (by simpa using hj) ht) rfl
  | u :: L, s, t, i + 1, 0, hn, hi, hj, hne => by
    intro g hs ht
    rw [List.flatten_cons, List.nodup_append] at hn
    simp only [List.getElem?_cons_zero, Option.some.injEq] at hj
    subst hj
    exact hn.2.2 g ht g (flat_mem (by simpa using hi) hs) rfl
  | u :: L, s, t, i + 1, j + 1, hn, hi, hj, hne => by
    rw [List.flatten_cons, List.nodup_append] at hn
    exact flat_apart hn.2.1 (by simpa using hi) (by simpa using hj) (by omega)
theorem flat_nodup : ∀ {L : List (List Nat)} {s : List Nat} {i : Nat}, L.flatten.Nodup → L[i]? = some s → s.Nodup
  | [], s, i, hn, hi => by simp at hi
  | u :: L, s, 0, hn, hi => by
    rw [List.flatten_cons, List.nodup_append] at hn
    simp only [List.getElem?_cons_zero, Option.some.injEq] at hi
    subst hi
    exact hn.1
  | u :: L, s, i + 1, hn, hi => by
    rw [List.flatten_cons, List.nodup_append] at hn
    exact flat_nodup hn.2.1 (by simpa using hi)

def AgCell (cs : Array Value) (o : Nat) (x : Ag) : Prop := cs[o]? = some (.string x.nm) ∧ cs[o + 1]? = some (.bool x.need)
def AgOwn (w : World) (a : Option Addr) (l : List Ag) (bs : List Nat) : Prop :=
  (l = [] ∧ bs = []) ∨ ∃ b cs, a = some ⟨b, 0, none⟩ ∧ bs = [b] ∧ w.heap[b]? = some (.cells cs 79 (0, 0)) ∧ l.length * 2 ≤ cs.size ∧ ∀ i x, l[i]? = some x → AgCell cs (i * 2) x
theorem AgOwn.same {w w' : World} {a : Option Addr} {l : List Ag} {bs : List Nat} (h : AgOwn w a l bs) (hs : ∀ g ∈ bs, w'.heap[g]? = w.heap[g]?) : AgOwn w' a l bs := by
  rcases h with h | ⟨b, cs, rfl, rfl, h2, h3, h4⟩
  · exact .inl h
  · exact .inr ⟨b, cs, rfl, rfl, (hs b (by simp)).trans h2, h3, h4⟩
theorem AgOwn.lt {w : World} {a : Option Addr} {l : List Ag} {bs : List Nat} (h : AgOwn w a l bs) : ∀ g ∈ bs, g < w.heap.size := by
  rcases h with ⟨_, rfl⟩ | ⟨b, cs, rfl, rfl, h2, h3, h4⟩
  · simp
  · intro g hg
    rw [List.mem_singleton.1 hg]
    exact (Array.getElem?_eq_some_iff.1 h2).1
theorem AgOwn.row {w : World} {a : Option Addr} {l : List Ag} {bs : List Nat} {lo hi : Nat} (h : AgOwn w a l bs) (hs : ∀ g ∈ bs, lo ≤ g ∧ g < hi) : AgRow lo hi w a l := by
  rcases h with ⟨rfl, _⟩ | ⟨b, cs, rfl, rfl, h2, h3, h4⟩
  · exact .inl rfl
  · have hb := hs b (by simp)
    refine .inr ⟨b, 0, rfl, hb.1, hb.2, fun i x hx => ?_⟩
    rw [row_rd h2, Nat.zero_add]
    exact h4 i x hx
def fAg (k : Nat) (x : Ag) : Ag := ⟨mkT (k), m3 (k + 1)⟩
def cAg (x : Ag) : Nat := 2
theorem Ag_upd {cs : Array Value} {o : Nat} {v0 v1 : Value} (h : o + 2 ≤ cs.size) : ((cs.setIfInBounds (o) v0).setIfInBounds (o + 1) v1)[o]? = some v0 ∧ ((cs.setIfInBounds (o) v0).setIfInBounds (o + 1) v1)[o + 1]? = some v1 := by
  refine ⟨?_, ?_⟩ <;> simp [Array.getElem?_setIfInBounds] <;> omega
theorem Ag_upd_ne {cs : Array Value} {o j : Nat} {v0 v1 : Value} (h : j < o ∨ o + 2 ≤ j) : ((cs.setIfInBounds (o) v0).setIfInBounds (o + 1) v1)[j]? = cs[j]? := by
  rw [Array.getElem?_setIfInBounds_ne (by omega), Array.getElem?_setIfInBounds_ne (by omega)]
theorem Ag_upd_size {cs : Array Value} {o : Nat} {v0 v1 : Value} : ((cs.setIfInBounds (o) v0).setIfInBounds (o + 1) v1).size = cs.size := by simp
theorem AgOwn.step {w' : World} {b n : Nat} {cs : Array Value} {m l : List Ag} {x : Ag} {v0 v1 : Value} (hM : m.length = l.length) (hn : n < l.length) (hx : m[n]? = some x) (hcs : l.length * 2 ≤ cs.size)
    (hel : ∀ i x, (mix m l n)[i]? = some x → AgCell cs (i * 2) x) (hH : w'.heap[b]? = some (.cells ((cs.setIfInBounds (n * 2) v0).setIfInBounds (n * 2 + 1) v1) 79 (0, 0)))
    (h0 : v0 = .string x.nm) (h1 : v1 = .bool x.need) : AgOwn w' (some ⟨b, 0, none⟩) (mix m l (n + 1)) [b] := by
  refine .inr ⟨b, _, rfl, rfl, hH, by rw [mix_len hM (by omega), Ag_upd_size]; exact hcs, fun i y hy => ?_⟩
  by_cases hin : i = n
  · subst hin
    rw [mix_new hM hn, hx] at hy
    simp only [Option.some.injEq] at hy
    subst hy
    have hu := Ag_upd (cs := cs) (o := i * 2) (v0 := v0) (v1 := v1) (by omega)
    subst h0; subst h1; exact hu
  · rw [mix_next hM hn i hin] at hy
    have hlt : i < l.length := by have := (List.getElem?_eq_some_iff.1 hy).1; rw [mix_len hM (by omega)] at this; exact this
    obtain ⟨p0, p1⟩ := hel i y hy
    have hne : ∀ d, d < 2 → i * 2 + d < n * 2 ∨ n * 2 + 2 ≤ i * 2 + d := fun d hd => by omega
    exact ⟨(Ag_upd_ne (by have := hne 0 (by omega); omega)).trans p0, (Ag_upd_ne (by have := hne 1 (by omega); omega)).trans p1⟩
theorem len_cnt_Ag : ∀ l : List Ag, l.length ≤ cnt cAg l
  | [] => Nat.le_refl _
  | x :: r => by have := len_cnt_Ag r; have h : 1 ≤ cAg x := by unfold cAg; omega
                 simp only [List.length_cons, cnt]; omega

def FdCell (cs : Array Value) (o : Nat) (x : Fd) : Prop := cs[o]? = some (.string x.nm) ∧ cs[o + 2]? = some (.string x.ty) ∧ cs[o + 3]? = some (.bool x.ls) ∧ cs[o + 4]? = some (.bool x.bg)
def FdOwn (w : World) (a : Option Addr) (l : List Fd) (bs : List Nat) : Prop :=
  (l = [] ∧ bs = []) ∨ ∃ b cs, ∃ subs : List (List Nat), a = some ⟨b, 0, none⟩ ∧ bs = b :: subs.flatten ∧ subs.length = l.length ∧ w.heap[b]? = some (.cells cs 53 (0, 0)) ∧ l.length * 5 ≤ cs.size ∧
    ∀ i x s, l[i]? = some x → subs[i]? = some s → FdCell cs (i * 5) x ∧ ∃ a3 c3, cs[i * 5 + 1]? = some (.slice a3 x.args.length c3) ∧ AgOwn w a3 x.args s
theorem FdOwn.same {w w' : World} {a : Option Addr} {l : List Fd} {bs : List Nat} (h : FdOwn w a l bs) (hs : ∀ g ∈ bs, w'.heap[g]? = w.heap[g]?) : FdOwn w' a l bs := by
  rcases h with h | ⟨b, cs, subs, rfl, rfl, h1, h2, h3, h4⟩
  · exact .inl h
  · refine .inr ⟨b, cs, subs, rfl, rfl, h1, (hs b (by simp)).trans h2, h3, fun i x s hx hss => ?_⟩
    obtain ⟨p, a3, c3, p1, p2⟩ := h4 i x s hx hss
    exact ⟨p, a3, c3, p1, AgOwn.same p2 fun g hg => hs g (List.mem_cons_of_mem _ (flat_mem hss hg))⟩
theorem FdOwn.lt {w : World} {a : Option Addr} {l : List Fd} {bs : List Nat} (h : FdOwn w a l bs) : ∀ g ∈ bs, g < w.heap.size := by
  rcases h with ⟨_, rfl⟩ | ⟨b, cs, subs, rfl, rfl, h1, h2, h3, h4⟩
  · simp
  · intro g hg
    rcases List.mem_cons.1 hg with rfl | hg
    · exact (Array.getElem?_eq_some_iff.1 h2).1
    · obtain ⟨s, hs, hg⟩ := List.mem_flatten.1 hg
      obtain ⟨i, hi, rfl⟩ := List.getElem_of_mem hs
      obtain ⟨_, a3, c3, _, p2⟩ := h4 i l[i] subs[i] (List.getElem?_eq_getElem (by omega)) (List.getElem?_eq_getElem hi)
      exact AgOwn.lt p2 g hg
theorem FdOwn.row {w : World} {a : Option Addr} {l : List Fd} {bs : List Nat} {lo hi : Nat} (h : FdOwn w a l bs) (hs : ∀ g ∈ bs, lo ≤ g ∧ g < hi) : FdRow lo hi w a l := by
  rcases h with ⟨rfl, _⟩ | ⟨b, cs, subs, rfl, rfl, h1, h2, h3, h4⟩
  · exact .inl rfl
  · have hb := hs b (by simp)
    refine .inr ⟨b, 0, rfl, hb.1, hb.2, fun i x hx => ?_⟩
    have hi := (List.getElem?_eq_some_iff.1 hx).1
    have hss : subs[i]? = some subs[i] := List.getElem?_eq_getElem (by omega)
    obtain ⟨⟨p0, p2, p3, p4⟩, a3, c3, p9, q9⟩ := h4 i x subs[i] hx hss
    rw [row_rd h2, Nat.zero_add]
    exact ⟨p0, ⟨a3, c3, p9, AgOwn.row q9 fun g hg => hs g (List.mem_cons_of_mem _ (flat_mem hss hg))⟩, p2, p3, p4⟩
def fFd (k : Nat) (x : Fd) : Fd := ⟨mkT (k), mks fAg cAg (k + 1) x.args, mkT (k + 1 + cnt cAg x.args), m3 (k + 2 + cnt cAg x.args), m3 (k + 3 + cnt cAg x.args)⟩
def cFd (x : Fd) : Nat := 4 + cnt cAg x.args
theorem Fd_upd {cs : Array Value} {o : Nat} {v0 v2 v3 v4 : Value} (h : o + 5 ≤ cs.size) : ((((cs.setIfInBounds (o) v0).setIfInBounds (o + 2) v2).setIfInBounds (o + 3) v3).setIfInBounds (o + 4) v4)[o]? = some v0 ∧ ((((cs.setIfInBounds (o) v0).setIfInBounds (o + 2) v2).setIfInBounds (o + 3) v3).setIfInBounds (o + 4) v4)[o + 2]? = some v2 ∧ ((((cs.setIfInBounds (o) v0).setIfInBounds (o + 2) v2).setIfInBounds (o + 3) v3).setIfInBounds (o + 4) v4)[o + 3]? = some v3 ∧ ((((cs.setIfInBounds (o) v0).setIfInBounds (o + 2) v2).setIfInBounds (o + 3) v3).setIfInBounds (o + 4) v4)[o + 4]? = some v4 ∧ ((((cs.setIfInBounds (o) v0).setIfInBounds (o + 2) v2).setIfInBounds (o + 3) v3).setIfInBounds (o + 4) v4)[o + 1]? = cs[o + 1]? := by
  refine ⟨?_, ?_, ?_, ?_, ?_⟩ <;> simp [Array.getElem?_setIfInBounds] <;> omega
theorem Fd_upd_ne {cs : Array Value} {o j : Nat} {v0 v2 v3 v4 : Value} (h : j < o ∨ o + 5 ≤ j) : ((((cs.setIfInBounds (o) v0).setIfInBounds (o + 2) v2).setIfInBounds (o + 3) v3).setIfInBounds (o + 4) v4)[j]? = cs[j]? := by
  rw [Array.getElem?_setIfInBounds_ne (by omega), Array.getElem?_setIfInBounds_ne (by omega), Array.getElem?_setIfInBounds_ne (by omega), Array.getElem?_setIfInBounds_ne (by omega)]
theorem Fd_upd_size {cs : Array Value} {o : Nat} {v0 v2 v3 v4 : Value} : ((((cs.setIfInBounds (o) v0).setIfInBounds (o + 2) v2).setIfInBounds (o + 3) v3).setIfInBounds (o + 4) v4).size = cs.size := by simp
theorem FdOwn.step {w w' : World} {b n : Nat} {cs : Array Value} {subs : List (List Nat)} {m l : List Fd} {x : Fd} {s : List Nat} {a3 : Option Addr} {c3 : Nat} {v0 v2 v3 v4 : Value} (hM : m.length = l.length) (hn : n < l.length) (hx : m[n]? = some x)
    (hnd : (b :: subs.flatten).Nodup) (hsl : subs.length = l.length) (hcs : l.length * 5 ≤ cs.size) (hss : subs[n]? = some s)
    (hel : ∀ i x s, (mix m l n)[i]? = some x → subs[i]? = some s → FdCell cs (i * 5) x ∧ ∃ a3 c3, cs[i * 5 + 1]? = some (.slice a3 x.args.length c3) ∧ AgOwn w a3 x.args s)
    (hH : w'.heap[b]? = some (.cells ((((cs.setIfInBounds (n * 5) v0).setIfInBounds (n * 5 + 2) v2).setIfInBounds (n * 5 + 3) v3).setIfInBounds (n * 5 + 4) v4) 53 (0, 0))) (hK : ∀ g, g ∈ subs.flatten → ¬ g ∈ s → w'.heap[g]? = w.heap[g]?)
    (h0 : v0 = .string x.nm) (h2 : v2 = .string x.ty) (h3 : v3 = .bool x.ls) (h4 : v4 = .bool x.bg) (hsc : cs[n * 5 + 1]? = some (.slice a3 x.args.length c3)) (hso : AgOwn w' a3 x.args s) : FdOwn w' (some ⟨b, 0, none⟩) (mix m l (n + 1)) (b :: subs.flatten) := by
  refine .inr ⟨b, _, subs, rfl, rfl, by rw [mix_len hM (by omega)]; exact hsl, hH, by rw [mix_len hM (by omega), Fd_upd_size]; exact hcs, fun i y t hy ht => ?_⟩
  by_cases hin : i = n
  · subst hin
    rw [mix_new hM hn, hx] at hy
    simp only [Option.some.injEq] at hy
    subst hy
    rw [hss] at ht
    simp only [Option.some.injEq] at ht
    subst ht
    have hu := Fd_upd (cs := cs) (o := i * 5) (v0 := v0) (v2 := v2) (v3 := v3) (v4 := v4) (by omega)
    subst h0; subst h2; subst h3; subst h4; exact ⟨⟨hu.1, hu.2.1, hu.2.2.1, hu.2.2.2.1⟩, a3, c3, (hu.2.2.2.2).trans hsc, hso⟩
  · rw [mix_next hM hn i hin] at hy
    have hlt : i < l.length := by have := (List.getElem?_eq_some_iff.1 hy).1; rw [mix_len hM (by omega)] at this; exact this
    obtain ⟨⟨p0, p2, p3, p4⟩, a4, c4, q1, q2⟩ := hel i y t hy ht
    have hne : ∀ d, d < 5 → i * 5 + d < n * 5 ∨ n * 5 + 5 ≤ i * 5 + d := fun d hd => by omega
    refine ⟨⟨(Fd_upd_ne (by have := hne 0 (by omega); omega)).trans p0, (Fd_upd_ne (by have := hne 2 (by omega); omega)).trans p2, (Fd_upd_ne (by have := hne 3 (by omega); omega)).trans p3, (Fd_upd_ne (by have := hne 4 (by omega); omega)).trans p4⟩, a4, c4, (Fd_upd_ne (by have := hne 1 (by omega); omega)).trans q1, AgOwn.same q2 fun g hg => ?_⟩
    exact hK g (flat_mem ht hg) (fun hg2 => flat_apart (List.nodup_cons.1 hnd).2 ht hss hin g hg hg2)
theorem len_cnt_Fd : ∀ l : List Fd, l.length ≤ cnt cFd l
  | [] => Nat.le_refl _
  | x :: r => by have := len_cnt_Fd r; have h : 1 ≤ cFd x := by unfold cFd; omega
                 simp only [List.length_cons, cnt]; omega

def TdCell (cs : Array Value) (o : Nat) (x : Td) : Prop := cs[o]? = some (.string x.nm)
def TdOwn (w : World) (a : Option Addr) (l : List Td) (bs : List Nat) : Prop :=
  (l = [] ∧ bs = []) ∨ ∃ b cs, ∃ subs : List (List Nat), a = some ⟨b, 0, none⟩ ∧ bs = b :: subs.flatten ∧ subs.length = l.length ∧ w.heap[b]? = some (.cells cs 49 (0, 0)) ∧ l.length * 2 ≤ cs.size ∧
    ∀ i x s, l[i]? = some x → subs[i]? = some s → TdCell cs (i * 2) x ∧ ∃ a3 c3, cs[i * 2 + 1]? = some (.slice a3 x.fs.length c3) ∧ FdOwn w a3 x.fs s
theorem TdOwn.same {w w' : World} {a : Option Addr} {l : List Td} {bs : List Nat} (h : TdOwn w a l bs) (hs : ∀ g ∈ bs, w'.heap[g]? = w.heap[g]?) : TdOwn w' a l bs := by
  rcases h with h | ⟨b, cs, subs, rfl, rfl, h1, h2, h3, h4⟩
  · exact .inl h
  · refine .inr ⟨b, cs, subs, rfl, rfl, h1, (hs b (by simp)).trans h2, h3, fun i x s hx hss => ?_⟩
    obtain ⟨p, a3, c3, p1, p2⟩ := h4 i x s hx hss
    exact ⟨p, a3, c3, p1, FdOwn.same p2 fun g hg => hs g (List.mem_cons_of_mem _ (flat_mem hss hg))⟩
theorem TdOwn.lt {w : World} {a : Option Addr} {l : List Td} {bs : List Nat} (h : TdOwn w a l bs) : ∀ g ∈ bs, g < w.heap.size := by
  rcases h with ⟨_, rfl⟩ | ⟨b, cs, subs, rfl, rfl, h1, h2, h3, h4⟩
  · simp
  · intro g hg
    rcases List.mem_cons.1 hg with rfl | hg
    · exact (Array.getElem?_eq_some_iff.1 h2).1
    · obtain ⟨s, hs, hg⟩ := List.mem_flatten.1 hg
      obtain ⟨i, hi, rfl⟩ := List.getElem_of_mem hs
      obtain ⟨_, a3, c3, _, p2⟩ := h4 i l[i] subs[i] (List.getElem?_eq_getElem (by omega)) (List.getElem?_eq_getElem hi)
      exact FdOwn.lt p2 g hg
theorem TdOwn.row {w : World} {a : Option Addr} {l : List Td} {bs : List Nat} {lo hi : Nat} (h : TdOwn w a l bs) (hs : ∀ g ∈ bs, lo ≤ g ∧ g < hi) : TdRow lo hi w a l := by
  rcases h with ⟨rfl, _⟩ | ⟨b, cs, subs, rfl, rfl, h1, h2, h3, h4⟩
  · exact .inl rfl
  · have hb := hs b (by simp)
    refine .inr ⟨b, 0, rfl, hb.1, hb.2, fun i x hx => ?_⟩
    have hi := (List.getElem?_eq_some_iff.1 hx).1
    have hss : subs[i]? = some subs[i] := List.getElem?_eq_getElem (by omega)
    obtain ⟨p0, a3, c3, p9, q9⟩ := h4 i x subs[i] hx hss
    rw [row_rd h2, Nat.zero_add]
    exact ⟨p0, ⟨a3, c3, p9, FdOwn.row q9 fun g hg => hs g (List.mem_cons_of_mem _ (flat_mem hss hg))⟩⟩
def fTd (k : Nat) (x : Td) : Td := ⟨mkT (k), mks fFd cFd (k + 1) x.fs⟩
def cTd (x : Td) : Nat := 1 + cnt cFd x.fs
theorem Td_upd {cs : Array Value} {o : Nat} {v0 : Value} (h : o + 2 ≤ cs.size) : (cs.setIfInBounds (o) v0)[o]? = some v0 ∧ (cs.setIfInBounds (o) v0)[o + 1]? = cs[o + 1]? := by
  refine ⟨?_, ?_⟩ <;> simp [Array.getElem?_setIfInBounds] <;> omega
theorem Td_upd_ne {cs : Array Value} {o j : Nat} {v0 : Value} (h : j < o ∨ o + 2 ≤ j) : (cs.setIfInBounds (o) v0)[j]? = cs[j]? := by
  rw [Array.getElem?_setIfInBounds_ne (by omega)]
theorem Td_upd_size {cs : Array Value} {o : Nat} {v0 : Value} : (cs.setIfInBounds (o) v0).size = cs.size := by simp
theorem TdOwn.step {w w' : World} {b n : Nat} {cs : Array Value} {subs : List (List Nat)} {m l : List Td} {x : Td} {s : List Nat} {a3 : Option Addr} {c3 : Nat} {v0 : Value} (hM : m.length = l.length) (hn : n < l.length) (hx : m[n]? = some x)
    (hnd : (b :: subs.flatten).Nodup) (hsl : subs.length = l.length) (hcs : l.length * 2 ≤ cs.size) (hss : subs[n]? = some s)
    (hel : ∀ i x s, (mix m l n)[i]? = some x → subs[i]? = some s → TdCell cs (i * 2) x ∧ ∃ a3 c3, cs[i * 2 + 1]? = some (.slice a3 x.fs.length c3) ∧ FdOwn w a3 x.fs s)
    (hH : w'.heap[b]? = some (.cells (cs.setIfInBounds (n * 2) v0) 49 (0, 0))) (hK : ∀ g, g ∈ subs.flatten → ¬ g ∈ s → w'.heap[g]? = w.heap[g]?)
    (h0 : v0 = .string x.nm) (hsc : cs[n * 2 + 1]? = some (.slice a3 x.fs.length c3)) (hso : FdOwn w' a3 x.fs s) : TdOwn w' (some ⟨b, 0, none⟩) (mix m l (n + 1)) (b :: subs.flatten) := by
  refine .inr ⟨b, _, subs, rfl, rfl, by rw [mix_len hM (by omega)]; exact hsl, hH, by rw [mix_len hM (by omega), Td_upd_size]; exact hcs, fun i y t hy ht => ?_⟩
  by_cases hin : i = n
  · subst hin
    rw [mix_new hM hn, hx] at hy
    simp only [Option.some.injEq] at hy
    subst hy
    rw [hss] at ht
    simp only [Option.some.injEq] at ht
    subst ht
    have hu := Td_upd (cs := cs) (o := i * 2) (v0 := v0) (by omega)
    subst h0; exact ⟨hu.1, a3, c3, (hu.2).trans hsc, hso⟩
  · rw [mix_next hM hn i hin] at hy
    have hlt : i < l.length := by have := (List.getElem?_eq_some_iff.1 hy).1; rw [mix_len hM (by omega)] at this; exact this
    obtain ⟨p0, a4, c4, q1, q2⟩ := hel i y t hy ht
    have hne : ∀ d, d < 2 → i * 2 + d < n * 2 ∨ n * 2 + 2 ≤ i * 2 + d := fun d hd => by omega
    refine ⟨(Td_upd_ne (by have := hne 0 (by omega); omega)).trans p0, a4, c4, (Td_upd_ne (by have := hne 1 (by omega); omega)).trans q1, FdOwn.same q2 fun g hg => ?_⟩
    exact hK g (flat_mem ht hg) (fun hg2 => flat_apart (List.nodup_cons.1 hnd).2 ht hss hin g hg hg2)
theorem len_cnt_Td : ∀ l : List Td, l.length ≤ cnt cTd l
  | [] => Nat.le_refl _
  | x :: r => by have := len_cnt_Td r; have h : 1 ≤ cTd x := by unfold cTd; omega
                 simp only [List.length_cons, cnt]; omega
end Go.Proofs.YtnfoinmccigdfaaGreatDoor.G
