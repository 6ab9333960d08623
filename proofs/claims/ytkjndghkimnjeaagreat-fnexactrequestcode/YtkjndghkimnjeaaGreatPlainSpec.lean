/- The specification's plain schema. -/
import Derived.Test.YtkjndghkimnjeaaGreatGOwn
import Derived.Test.YtkjndghkimnjeaaGreatSchFind
import Derived.Deep.RegionHeld3
import Derived.Deep.CutRange
namespace Go.Proofs.YtkjndghkimnjeaaGreat.G
open Go.ChangeShapes Go.WideShapes Go.ChangeAt Go.RowKit
set_option linter.unusedVariables false

theorem m3_of {z : Int} {k : Nat} (h : z = k) : (z % 3 == 0) = m3 k := by
  subst h; unfold m3
  rw [Bool.eq_iff_iff]
  simp only [beq_iff_eq, decide_eq_true_eq]
  omega
theorem val_b {x y : Bool} (h : x = y) : Value.bool x = .bool y := by rw [h]
theorem val_s {x y : ByteArray} (h : x = y) : Value.string x = .string y := by rw [h]
theorem flat_mem {L : List (List Nat)} {s : List Nat} {i : Nat} (h : L[i]? = some s) {g : Nat} (hg : g ∈ s) : g ∈ L.flatten := List.mem_flatten.2 ⟨s, List.mem_of_getElem? h, hg⟩
theorem flat_apart : ∀ {L : List (List Nat)} {s t : List Nat} {i j : Nat}, L.flatten.Nodup → L[i]? = some s → L[j]? = some t → i ≠ j → ∀ g, g ∈ s → ¬ g ∈ t
  | [], s, t, i, j, hn, hi, hj, hne => by simp at hi
  | u :: L, s, t, 0, 0, hn, hi, hj, hne => absurd rfl hne
  | u :: L, s, t, 0, j + 1, hn, hi, hj, hne => by
    intro g hs ht
    rw [List.flatten_cons, List.nodup_append] at hn
    simp only [List.getElem?_cons_zero, Option.some.injEq] at hi
    subst hi
    exact hn.2.2 g hs g (flat_mem (by simpa using hj) ht) rfl
  | u :: L, s, t, i + 1, 0, hn, hi, hj, hne => by
    intro g hs ht
    rw [List.flatten_cons, List.nodup_append] at hn
    simp only [List.getElem?_cons_zero, Option.some.injEq] at hj
    subst hj
    exact hn.2.2 g ht g (flat_mem (by simpa using hi) hs) rfl
  | u :: L, s, t, i + 1, j + 1, hn, hi, hj, hne => by
    rw [List.flatten_cons, List.nodup_append] at hn
    exact flat_apart hn.2.1 (by simpa using hi) (by simpa using hj) (by omega)
theorem flat_nodup : ∀ {L : List (List Nat)} {s : List Nat} {i : Nat}, L.flatten.Nodup → L[i]? = some s → s.Nodup
  | [], s, i, hn, hi => by simp at hi
  | u :: L, s, 0, hn, hi => by
    rw [List.flatten_cons, List.nodup_append] at hn
    simp only [List.getElem?_cons_zero, Option.some.injEq] at hi
    subst hi
    exact hn.1
  | u :: L, s, i + 1, hn, hi => by
    rw [List.flatten_cons, List.nodup_append] at hn
    exact flat_nodup hn.2.1 (by simpa using hi)

def AgCell (cs : Array Value) (o : Nat) (x : Ag) : Prop := cs[o]? = some (.string x.nm) ∧ cs[o + 1]? = some (.bool x.need)
def AgOwn (w : World) (a : Option Addr) (l : List Ag) (bs : List Nat) : Prop :=
  (l = [] ∧ bs = []) ∨ ∃ b cs, a = some ⟨b, 0, none⟩ ∧ bs = [b] ∧ w.heap[b]? = some (.cells cs 87 (0, 0)) ∧ l.length * 2 ≤ cs.size ∧ ∀ i x, l[i]? = some x → AgCell cs (i * 2) x
theorem AgOwn.same {w w' : World} {a : Option Addr} {l : List Ag} {bs : List Nat} (h : AgOwn w a l bs) (hs : ∀ g ∈ bs, w'.heap[g]? = w.heap[g]?) : AgOwn w' a l bs := by
  rcases h with h | ⟨b, cs, rfl, rfl, h2, h3, h4⟩
  · exact .inl h
  · exact .inr ⟨b, cs, rfl, rfl, (hs b (by simp)).trans h2, h3, h4⟩
theorem AgOwn.lt {w : World} {a : Option Addr} {l : List Ag} {bs : List Nat} (h : AgOwn w a l bs) : ∀ g ∈ bs, g < w.heap.size := by
  rcases h with ⟨_, rfl⟩ | ⟨b, cs, rfl, rfl, h2, h3, h4⟩
  · simp
  · intro g hg
    rw [List.mem_singleton.1 hg]
    exact (Array.getElem?_eq_some_iff.1 h2).1
theorem AgOwn.row {w : World} {a : Option Addr} {l : List Ag} {bs : List Nat} {lo hi : Nat} (h : AgOwn w a l bs) (hs : ∀ g ∈ bs, lo ≤ g ∧ g < hi) : AgRow lo hi w a l := by
  rcases h with ⟨rfl, _⟩ | ⟨b, cs, rfl, rfl, h2, h3, h4⟩
  · exact .inl rfl
  · have hb := hs b (by simp)
    refine .inr ⟨b, 0, rfl, hb.1, hb.2, fun i x hx => ?_⟩
    rw [row_rd h2, Nat.zero_add]
    exact h4 i x hx
def fAg (k : Nat) (x : Ag) : Ag := ⟨mkT (k), m3 (k + 1)⟩
def cAg (x : Ag) : Nat := 2
theorem Ag_upd {cs : Array Value} {o : Nat} {v0 v1 : Value} (h : o + 2 ≤ cs.size) : ((cs.setIfInBounds (o) v0).setIfInBounds (o + 1) v1)[o]? = some v0 ∧ ((cs.setIfInBounds (o) v0).setIfInBounds (o + 1) v1)[o + 1]? = some v1 := by
  refine ⟨?_, ?_⟩ <;> simp [Array.getElem?_setIfInBounds] <;> omega
theorem Ag_upd_ne {cs : Array Value} {o j : Nat} {v0 v1 : Value} (h : j < o ∨ o + 2 ≤ j) : ((cs.setIfInBounds (o) v0).setIfInBounds (o + 1) v1)[j]? = cs[j]? := by
  rw [Array.getElem?_setIfInBounds_ne (by omega), Array.getElem?_setIfInBounds_ne (by omega)]
theorem Ag_upd_size {cs : Array Value} {o : Nat} {v0 v1 : Value} : ((cs.setIfInBounds (o) v0).setIfInBounds (o + 1) v1).size = cs.size := by simp
theorem AgOwn.step {w' : World} {b n : Nat} {cs : Array Value} {m l : List Ag} {x : Ag} {v0 v1 : Value} (hM : m.length = l.length) (hn : n < l.length) (hx : m[n]? = some x) (hcs : l.length * 2 ≤ cs.size)
    (hel : ∀ i x, (mix m l n)[i]? = some x → AgCell cs (i * 2) x) (hH : w'.heap[b]? = some (.cells ((cs.setIfInBounds (n * 2) v0).setIfInBounds (n * 2 + 1) v1) 87 (0, 0)))
    (h0 : v0 = .string x.nm) (h1 : v1 = .bool x.need) : AgOwn w' (some ⟨b, 0, none⟩) (mix m l (n + 1)) [b] := by
  refine .inr ⟨b, _, rfl, rfl, hH, by rw [mix_len hM (by omega), Ag_upd_size]; exact hcs, fun i y hy => ?_⟩
  by_cases hin : i = n
  · subst hin
    rw [mix_new hM hn, hx] at hy
    simp only [Option.some.injEq] at hy
    subst hy
    have hu := Ag_upd (cs := cs) (o := i * 2) (v0 := v0) (v1 := v1) (by omega)
    subst h0; subst h1; exact hu
  · rw [mix_next hM hn i hin] at hy
    have hlt : i < l.length := by have := (List.getElem?_eq_some_iff.1 hy).1; rw [mix_len hM (by omega)] at this; exact this
    obtain ⟨p0, p1⟩ := hel i y hy
    have hne : ∀ d, d < 2 → i * 2 + d < n * 2 ∨ n * 2 + 2 ≤ i * 2 + d := fun d hd => by omega
    exact ⟨(Ag_upd_ne (by have := hne 0 (by omega); omega)).trans p0, (Ag_upd_ne (by have := hne 1 (by omega); omega)).trans p1⟩
theorem len_cnt_Ag : ∀ l : List Ag, l.length ≤ cnt cAg l
  | [] => Nat.le_refl _
  | x :: r => by have := len_cnt_Ag r; have h : 1 ≤ cAg x := by unfold cAg; omega
                 simp only [List.length_cons, cnt]; omega

def FdCell (cs : Array Value) (o : Nat) (x : Fd) : Prop := cs[o]? = some (.string x.nm) ∧ cs[o + 2]? = some (.string x.ty) ∧ cs[o + 3]? = some (.bool x.ls) ∧ cs[o + 4]? = some (.bool x.bg)
def FdOwn (w : World) (a : Option Addr) (l : List Fd) (bs : List Nat) : Prop :=
  (l = [] ∧ bs = []) ∨ ∃ b cs, ∃ subs : List (List Nat), a = some ⟨b, 0, none⟩ ∧ bs = b :: subs.flatten ∧ subs.length = l.length ∧ w.heap[b]? = some (.cells cs 90 (0, 0)) ∧ l.length * 5 ≤ cs.size ∧
    ∀ i x s, l[i]? = some x → subs[i]? = some s → FdCell cs (i * 5) x ∧ ∃ a3 c3, cs[i * 5 + 1]? = some (.slice a3 x.args.length c3) ∧ AgOwn w a3 x.args s
theorem FdOwn.same {w w' : World} {a : Option Addr} {l : List Fd} {bs : List Nat} (h : FdOwn w a l bs) (hs : ∀ g ∈ bs, w'.heap[g]? = w.heap[g]?) : FdOwn w' a l bs := by
  rcases h with h | ⟨b, cs, subs, rfl, rfl, h1, h2, h3, h4⟩
  · exact .inl h
  · refine .inr ⟨b, cs, subs, rfl, rfl, h1, (hs b (by simp)).trans h2, h3, fun i x s hx hss => ?_⟩
    obtain ⟨p, a3, c3, p1, p2⟩ := h4 i x s hx hss
    exact ⟨p, a3, c3, p1, AgOwn.same p2 fun g hg => hs g (List.mem_cons_of_mem _ (flat_mem hss hg))⟩
theorem FdOwn.lt {w : World} {a : Option Addr} {l : List Fd} {bs : List Nat} (h : FdOwn w a l bs) : ∀ g ∈ bs, g < w.heap.size := by
  rcases h with ⟨_, rfl⟩ | ⟨b, cs, subs, rfl, rfl, h1, h2, h3, h4⟩
  · simp
  · intro g hg
    rcases List.mem_cons.1 hg with rfl | hg
    · exact (Array.getElem?_eq_some_iff.1 h2).1
    · obtain ⟨s, hs, hg⟩ := List.mem_flatten.1 hg
      obtain ⟨i, hi, rfl⟩ := List.getElem_of_mem hs
      obtain ⟨_, a3, c3, _, p2⟩ := h4 i l[i] subs[i] (List.getElem?_eq_getElem (by omega)) (List.getElem?_eq_getElem hi)
      exact AgOwn.lt p2 g hg
theorem FdOwn.row {w : World} {a : Option Addr} {l : List Fd} {bs : List Nat} {lo hi : Nat} (h : FdOwn w a l bs) (hs : ∀ g ∈ bs, lo ≤ g ∧ g < hi) : FdRow lo hi w a l := by
  rcases h with ⟨rfl, _⟩ | ⟨b, cs, subs, rfl, rfl, h1, h2, h3, h4⟩
  · exact .inl rfl
  · have hb := hs b (by simp)
    refine .inr ⟨b, 0, rfl, hb.1, hb.2, fun i x hx => ?_⟩
    have hi := (List.getElem?_eq_some_iff.1 hx).1
    have hss : subs[i]? = some subs[i] := List.getElem?_eq_getElem (by omega)
    obtain ⟨⟨p0, p2, p3, p4⟩, a3, c3, p9, q9⟩ := h4 i x subs[i] hx hss
    rw [row_rd h2, Nat.zero_add]
    exact ⟨p0, ⟨a3, c3, p9, AgOwn.row q9 fun g hg => hs g (List.mem_cons_of_mem _ (flat_mem hss hg))⟩, p2, p3, p4⟩
def fFd (k : Nat) (x : Fd) : Fd := ⟨mkT (k), mks fAg cAg (k + 1) x.args, mkT (k + 1 + cnt cAg x.args), m3 (k + 2 + cnt cAg x.args), m3 (k + 3 + cnt cAg x.args)⟩
def cFd (x : Fd) : Nat := 4 + cnt cAg x.args
theorem Fd_upd {cs : Array Value} {o : Nat} {v0 v2 v3 v4 : Value} (h : o + 5 ≤ cs.size) : ((((cs.setIfInBounds (o) v0).setIfInBounds (o + 2) v2).setIfInBounds (o + 3) v3).setIfInBounds (o + 4) v4)[o]? = some v0 ∧ ((((cs.setIfInBounds (o) v0).setIfInBounds (o + 2) v2).setIfInBounds (o + 3) v3).setIfInBounds (o + 4) v4)[o + 2]? = some v2 ∧ ((((cs.setIfInBounds (o) v0).setIfInBounds (o + 2) v2).setIfInBounds (o + 3) v3).setIfInBounds (o + 4) v4)[o + 3]? = some v3 ∧ ((((cs.setIfInBounds (o) v0).setIfInBounds (o + 2) v2).setIfInBounds (o + 3) v3).setIfInBounds (o + 4) v4)[o + 4]? = some v4 ∧ ((((cs.setIfInBounds (o) v0).setIfInBounds (o + 2) v2).setIfInBounds (o + 3) v3).setIfInBounds (o + 4) v4)[o + 1]? = cs[o + 1]? := by
  refine ⟨?_, ?_, ?_, ?_, ?_⟩ <;> simp [Array.getElem?_setIfInBounds] <;> omega
theorem Fd_upd_ne {cs : Array Value} {o j : Nat} {v0 v2 v3 v4 : Value} (h : j < o ∨ o + 5 ≤ j) : ((((cs.setIfInBounds (o) v0).setIfInBounds (o + 2) v2).setIfInBounds (o + 3) v3).setIfInBounds (o + 4) v4)[j]? = cs[j]? := by
  rw [Array.getElem?_setIfInBounds_ne (by omega), Array.getElem?_setIfInBounds_ne (by omega), Array.getElem?_setIfInBounds_ne (by omega), Array.getElem?_setIfInBounds_ne (by omega)]
theorem Fd_upd_size {cs : Array Value} {o : Nat} {v0 v2 v3 v4 : Value} : ((((cs.setIfInBounds (o) v0).setIfInBounds (o + 2) v2).setIfInBounds (o + 3) v3).setIfInBounds (o + 4) v4).size = cs.size := by simp
theorem FdOwn.step {w w' : World} {b n : Nat} {cs : Array Value} {subs : List (List Nat)} {m l : List Fd} {x : Fd} {s : List Nat} {a3 : Option Addr} {c3 : Nat} {v0 v2 v3 v4 : Value} (hM : m.length = l.length) (hn : n < l.length) (hx : m[n]? = some x)
    (hnd : (b :: subs.flatten).Nodup) (hsl : subs.length = l.length) (hcs : l.length * 5 ≤ cs.size) (hss : subs[n]? = some s)
    (hel : ∀ i x s, (mix m l n)[i]? = some x → subs[i]? = some s → FdCell cs (i * 5) x ∧ ∃ a3 c3, cs[i * 5 + 1]? = some (.slice a3 x.args.length c3) ∧ AgOwn w a3 x.args s)
    (hH : w'.heap[b]? = some (.cells ((((cs.setIfInBounds (n * 5) v0).setIfInBounds (n * 5 + 2) v2).setIfInBounds (n * 5 + 3) v3).setIfInBounds (n * 5 + 4) v4) 90 (0, 0))) (hK : ∀ g, g ∈ subs.flatten → ¬ g ∈ s → w'.heap[g]? = w.heap[g]?)
    (h0 : v0 = .string x.nm) (h2 : v2 = .string x.ty) (h3 : v3 = .bool x.ls) (h4 : v4 = .bool x.bg) (hsc : cs[n * 5 + 1]? = some (.slice a3 x.args.length c3)) (hso : AgOwn w' a3 x.args s) : FdOwn w' (some ⟨b, 0, none⟩) (mix m l (n + 1)) (b :: subs.flatten) := by
  refine .inr ⟨b, _, subs, rfl, rfl, by rw [mix_len hM (by omega)]; exact hsl, hH, by rw [mix_len hM (by omega), Fd_upd_size]; exact hcs, fun i y t hy ht => ?_⟩
  by_cases hin : i = n
  · subst hin
    rw [mix_new hM hn, hx] at hy
    simp only [Option.some.injEq] at hy
    subst hy
    rw [hss] at ht
    simp only [Option.some.injEq] at ht
    subst ht
    have hu := Fd_upd (cs := cs) (o := i * 5) (v0 := v0) (v2 := v2) (v3 := v3) (v4 := v4) (by omega)
    subst h0; subst h2; subst h3; subst h4; exact ⟨⟨hu.1, hu.2.1, hu.2.2.1, hu.2.2.2.1⟩, a3, c3, (hu.2.2.2.2).trans hsc, hso⟩
  · rw [mix_next hM hn i hin] at hy
    have hlt : i < l.length := by have := (List.getElem?_eq_some_iff.1 hy).1; rw [mix_len hM (by omega)] at this; exact this
    obtain ⟨⟨p0, p2, p3, p4⟩, a4, c4, q1, q2⟩ := hel i y t hy ht
    have hne : ∀ d, d < 5 → i * 5 + d < n * 5 ∨ n * 5 + 5 ≤ i * 5 + d := fun d hd => by omega
    refine ⟨⟨(Fd_upd_ne (by have := hne 0 (by omega); omega)).trans p0, (Fd_upd_ne (by have := hne 2 (by omega); omega)).trans p2, (Fd_upd_ne (by have := hne 3 (by omega); omega)).trans p3, (Fd_upd_ne (by have := hne 4 (by omega); omega)).trans p4⟩, a4, c4, (Fd_upd_ne (by have := hne 1 (by omega); omega)).trans q1, AgOwn.same q2 fun g hg => ?_⟩
    exact hK g (flat_mem ht hg) (fun hg2 => flat_apart (List.nodup_cons.1 hnd).2 ht hss hin g hg hg2)
theorem len_cnt_Fd : ∀ l : List Fd, l.length ≤ cnt cFd l
  | [] => Nat.le_refl _
  | x :: r => by have := len_cnt_Fd r; have h : 1 ≤ cFd x := by unfold cFd; omega
                 simp only [List.length_cons, cnt]; omega

def TdCell (cs : Array Value) (o : Nat) (x : Td) : Prop := cs[o]? = some (.string x.nm)
def TdOwn (w : World) (a : Option Addr) (l : List Td) (bs : List Nat) : Prop :=
  (l = [] ∧ bs = []) ∨ ∃ b cs, ∃ subs : List (List Nat), a = some ⟨b, 0, none⟩ ∧ bs = b :: subs.flatten ∧ subs.length = l.length ∧ w.heap[b]? = some (.cells cs 93 (0, 0)) ∧ l.length * 2 ≤ cs.size ∧
    ∀ i x s, l[i]? = some x → subs[i]? = some s → TdCell cs (i * 2) x ∧ ∃ a3 c3, cs[i * 2 + 1]? = some (.slice a3 x.fs.length c3) ∧ FdOwn w a3 x.fs s
theorem TdOwn.same {w w' : World} {a : Option Addr} {l : List Td} {bs : List Nat} (h : TdOwn w a l bs) (hs : ∀ g ∈ bs, w'.heap[g]? = w.heap[g]?) : TdOwn w' a l bs := by
  rcases h with h | ⟨b, cs, subs, rfl, rfl, h1, h2, h3, h4⟩
  · exact .inl h
  · refine .inr ⟨b, cs, subs, rfl, rfl, h1, (hs b (by simp)).trans h2, h3, fun i x s hx hss => ?_⟩
    obtain ⟨p, a3, c3, p1, p2⟩ := h4 i x s hx hss
    exact ⟨p, a3, c3, p1, FdOwn.same p2 fun g hg => hs g (List.mem_cons_of_mem _ (flat_mem hss hg))⟩
theorem TdOwn.lt {w : World} {a : Option Addr} {l : List Td} {bs : List Nat} (h : TdOwn w a l bs) : ∀ g ∈ bs, g < w.heap.size := by
  rcases h with ⟨_, rfl⟩ | ⟨b, cs, subs, rfl, rfl, h1, h2, h3, h4⟩
  · simp
  · intro g hg
    rcases List.mem_cons.1 hg with rfl | hg
    · exact (Array.getElem?_eq_some_iff.1 h2).1
    · obtain ⟨s, hs, hg⟩ := List.mem_flatten.1 hg
      obtain ⟨i, hi, rfl⟩ := List.getElem_of_mem hs
      obtain ⟨_, a3, c3, _, p2⟩ := h4 i l[i] subs[i] (List.getElem?_eq_getElem (by omega)) (List.getElem?_eq_getElem hi)
      exact FdOwn.lt p2 g hg
theorem TdOwn.row {w : World} {a : Option Addr} {l : List Td} {bs : List Nat} {lo hi : Nat} (h : TdOwn w a l bs) (hs : ∀ g ∈ bs, lo ≤ g ∧ g < hi) : TdRow lo hi w a l := by
  rcases h with ⟨rfl, _⟩ | ⟨b, cs, subs, rfl, rfl, h1, h2, h3, h4⟩
  · exact .inl rfl
  · have hb := hs b (by simp)
    refine .inr ⟨b, 0, rfl, hb.1, hb.2, fun i x hx => ?_⟩
    have hi := (List.getElem?_eq_some_iff.1 hx).1
    have hss : subs[i]? = some subs[i] := List.getElem?_eq_getElem (by omega)
    obtain ⟨p0, a3, c3, p9, q9⟩ := h4 i x subs[i] hx hss
    rw [row_rd h2, Nat.zero_add]
    exact ⟨p0, ⟨a3, c3, p9, FdOwn.row q9 fun g hg => hs g (List.mem_cons_of_mem _ (flat_mem hss hg))⟩⟩
def fTd (k : Nat) (x : Td) : Td := ⟨mkT (k), mks fFd cFd (k + 1) x.fs⟩
def cTd (x : Td) : Nat := 1 + cnt cFd x.fs
theorem Td_upd {cs : Array Value} {o : Nat} {v0 : Value} (h : o + 2 ≤ cs.size) : (cs.setIfInBounds (o) v0)[o]? = some v0 ∧ (cs.setIfInBounds (o) v0)[o + 1]? = cs[o + 1]? := by
  refine ⟨?_, ?_⟩ <;> simp [Array.getElem?_setIfInBounds] <;> omega
theorem Td_upd_ne {cs : Array Value} {o j : Nat} {v0 : Value} (h : j < o ∨ o + 2 ≤ j) : (cs.setIfInBounds (o) v0)[j]? = cs[j]? := by
  rw [Array.getElem?_setIfInBounds_ne (by omega)]
theorem Td_upd_size {cs : Array Value} {o : Nat} {v0 : Value} : (cs.setIfInBounds (o) v0).size = cs.size := by simp
theorem TdOwn.step {w w' : World} {b n : Nat} {cs : Array Value} {subs : List (List Nat)} {m l : List Td} {x : Td} {s : List Nat} {a3 : Option Addr} {c3 : Nat} {v0 : Value} (hM : m.length = l.length) (hn : n < l.length) (hx : m[n]? = some x)
    (hnd : (b :: subs.flatten).Nodup) (hsl : subs.length = l.length) (hcs : l.length * 2 ≤ cs.size) (hss : subs[n]? = some s)
    (hel : ∀ i x s, (mix m l n)[i]? = some x → subs[i]? = some s → TdCell cs (i * 2) x ∧ ∃ a3 c3, cs[i * 2 + 1]? = some (.slice a3 x.fs.length c3) ∧ FdOwn w a3 x.fs s)
    (hH : w'.heap[b]? = some (.cells (cs.setIfInBounds (n * 2) v0) 93 (0, 0))) (hK : ∀ g, g ∈ subs.flatten → ¬ g ∈ s → w'.heap[g]? = w.heap[g]?)
    (h0 : v0 = .string x.nm) (hsc : cs[n * 2 + 1]? = some (.slice a3 x.fs.length c3)) (hso : FdOwn w' a3 x.fs s) : TdOwn w' (some ⟨b, 0, none⟩) (mix m l (n + 1)) (b :: subs.flatten) := by
  refine .inr ⟨b, _, subs, rfl, rfl, by rw [mix_len hM (by omega)]; exact hsl, hH, by rw [mix_len hM (by omega), Td_upd_size]; exact hcs, fun i y t hy ht => ?_⟩
  by_cases hin : i = n
  · subst hin
    rw [mix_new hM hn, hx] at hy
    simp only [Option.some.injEq] at hy
    subst hy
    rw [hss] at ht
    simp only [Option.some.injEq] at ht
    subst ht
    have hu := Td_upd (cs := cs) (o := i * 2) (v0 := v0) (by omega)
    subst h0; exact ⟨hu.1, a3, c3, (hu.2).trans hsc, hso⟩
  · rw [mix_next hM hn i hin] at hy
    have hlt : i < l.length := by have := (List.getElem?_eq_some_iff.1 hy).1; rw [mix_len hM (by omega)] at this; exact this
    obtain ⟨p0, a4, c4, q1, q2⟩ := hel i y t hy ht
    have hne : ∀ d, d < 2 → i * 2 + d < n * 2 ∨ n * 2 + 2 ≤ i * 2 + d := fun d hd => by omega
    refine ⟨(Td_upd_ne (by have := hne 0 (by omega); omega)).trans p0, a4, c4, (Td_upd_ne (by have := hne 1 (by omega); omega)).trans q1, FdOwn.same q2 fun g hg => ?_⟩
    exact hK g (flat_mem ht hg) (fun hg2 => flat_apart (List.nodup_cons.1 hnd).2 ht hss hin g hg hg2)
theorem len_cnt_Td : ∀ l : List Td, l.length ≤ cnt cTd l
  | [] => Nat.le_refl _
  | x :: r => by have := len_cnt_Td r; have h : 1 ≤ cTd x := by unfold cTd; omega
                 simp only [List.length_cons, cnt]; omega
end Go.Proofs.YtkjndghkimnjeaaGreat.G
namespace Go.Proofs.YtkjndghkimnjeaaGreat.G
open Go.ChangeShapes Go.WideShapes Go.ChangeAt Go.RowKit
set_option linter.unusedVariables false

set_option maxRecDepth 100000 in
theorem info_Ag : ∃ i, Tryz.prog.info? 87 = some i ∧ i.zero = some (.agg #[.string ⟨#[]⟩, .bool false]) ∧ i.size = 2 ∧ i.bytes = 24 := by
  refine ⟨_, rfl, ?_, ?_, ?_⟩ <;> kernel_rfl
theorem LaidR.keep_Ag {lo hi hi' : Nat} {w w' : World} {cs : Array Value} {l : List Ag} {k : Nat} (h : LaidR (AgAt lo hi w) 2 cs l k) (ha : Agree lo hi w w') (hh : hi ≤ hi') : LaidR (AgAt lo hi' w') 2 cs l k :=
  fun i x hi hx => AgAt.wide (AgAt.keep (h i x hi hx) ha) (Nat.le_refl _) hh
theorem LaidR.put_Ag {lo hi : Nat} {w : World} {cs : Array Value} {l : List Ag} {k : Nat} (h : LaidR (AgAt lo hi w) 2 cs l k) (hk : k < l.length) (hs : cs.size = l.length * 2) :
    LaidR (AgAt lo hi w) 2 (put2 cs (k * 2) (.string l[k].nm) (.bool l[k].need)) l (k + 1) := by
  intro i x hi hx
  by_cases hik : i = k
  · subst hik
    rw [List.getElem?_eq_getElem hk] at hx
    simp only [Option.some.injEq] at hx
    subst hx
    obtain ⟨g0, g1⟩ := put2_at (cs := cs) (k := i * 2) (v0 := .string l[i].nm) (v1 := .bool l[i].need) (by omega)
    exact ⟨g0, g1⟩
  · obtain ⟨c0, c1⟩ := h i x (by omega) hx
    exact ⟨(put2_else (by omega)).trans c0, (put2_else (by omega)).trans c1⟩
set_option maxRecDepth 100000 in
theorem info_Fd : ∃ i, Tryz.prog.info? 90 = some i ∧ i.zero = some (.agg #[.string ⟨#[]⟩, .slice none 0 0, .string ⟨#[]⟩, .bool false, .bool false]) ∧ i.size = 5 ∧ i.bytes = 64 := by
  refine ⟨_, rfl, ?_, ?_, ?_⟩ <;> kernel_rfl
theorem LaidR.keep_Fd {lo hi hi' : Nat} {w w' : World} {cs : Array Value} {l : List Fd} {k : Nat} (h : LaidR (FdAt lo hi w) 5 cs l k) (ha : Agree lo hi w w') (hh : hi ≤ hi') : LaidR (FdAt lo hi' w') 5 cs l k :=
  fun i x hi hx => FdAt.wide (FdAt.keep (h i x hi hx) ha) (Nat.le_refl _) hh
theorem LaidR.put_Fd {lo hi : Nat} {w : World} {cs : Array Value} {l : List Fd} {k : Nat} {b3 : Option Addr} {f3 : Nat} (h : LaidR (FdAt lo hi w) 5 cs l k) (hk : k < l.length) (hs : cs.size = l.length * 5) (hr : AgRow lo hi w b3 l[k].args) :
    LaidR (FdAt lo hi w) 5 (put5 cs (k * 5) (.string l[k].nm) (.slice b3 l[k].args.length f3) (.string l[k].ty) (.bool l[k].ls) (.bool l[k].bg)) l (k + 1) := by
  intro i x hi hx
  by_cases hik : i = k
  · subst hik
    rw [List.getElem?_eq_getElem hk] at hx
    simp only [Option.some.injEq] at hx
    subst hx
    obtain ⟨g0, g1, g2, g3, g4⟩ := put5_at (cs := cs) (k := i * 5) (v0 := .string l[i].nm) (v1 := .slice b3 l[i].args.length f3) (v2 := .string l[i].ty) (v3 := .bool l[i].ls) (v4 := .bool l[i].bg) (by omega)
    exact ⟨g0, ⟨b3, f3, g1, hr⟩, g2, g3, g4⟩
  · obtain ⟨c0, ⟨a3, d3, c1, c9⟩, c2, c3, c4⟩ := h i x (by omega) hx
    exact ⟨(put5_else (by omega)).trans c0, ⟨a3, d3, (put5_else (by omega)).trans c1, c9⟩, (put5_else (by omega)).trans c2, (put5_else (by omega)).trans c3, (put5_else (by omega)).trans c4⟩
set_option maxRecDepth 100000 in
theorem info_Td : ∃ i, Tryz.prog.info? 93 = some i ∧ i.zero = some (.agg #[.string ⟨#[]⟩, .slice none 0 0]) ∧ i.size = 2 ∧ i.bytes = 40 := by
  refine ⟨_, rfl, ?_, ?_, ?_⟩ <;> kernel_rfl
theorem LaidR.keep_Td {lo hi hi' : Nat} {w w' : World} {cs : Array Value} {l : List Td} {k : Nat} (h : LaidR (TdAt lo hi w) 2 cs l k) (ha : Agree lo hi w w') (hh : hi ≤ hi') : LaidR (TdAt lo hi' w') 2 cs l k :=
  fun i x hi hx => TdAt.wide (TdAt.keep (h i x hi hx) ha) (Nat.le_refl _) hh
theorem LaidR.put_Td {lo hi : Nat} {w : World} {cs : Array Value} {l : List Td} {k : Nat} {b3 : Option Addr} {f3 : Nat} (h : LaidR (TdAt lo hi w) 2 cs l k) (hk : k < l.length) (hs : cs.size = l.length * 2) (hr : FdRow lo hi w b3 l[k].fs) :
    LaidR (TdAt lo hi w) 2 (put2 cs (k * 2) (.string l[k].nm) (.slice b3 l[k].fs.length f3)) l (k + 1) := by
  intro i x hi hx
  by_cases hik : i = k
  · subst hik
    rw [List.getElem?_eq_getElem hk] at hx
    simp only [Option.some.injEq] at hx
    subst hx
    obtain ⟨g0, g1⟩ := put2_at (cs := cs) (k := i * 2) (v0 := .string l[i].nm) (v1 := .slice b3 l[i].fs.length f3) (by omega)
    exact ⟨g0, ⟨b3, f3, g1, hr⟩⟩
  · obtain ⟨c0, ⟨a3, d3, c1, c9⟩⟩ := h i x (by omega) hx
    exact ⟨(put2_else (by omega)).trans c0, ⟨a3, d3, (put2_else (by omega)).trans c1, c9⟩⟩
end Go.Proofs.YtkjndghkimnjeaaGreat.G
namespace Go.Proofs.YtkjndghkimnjeaaGreat.G
open Go.ChangeShapes Go.WideShapes Go.ChangeAt Go.RowKit
set_option linter.unusedVariables false

/-- A row in blocks of its own, each once, from lo up and below hi. -/
def AgMine (lo hi : Nat) (w : World) (a : Option Addr) (l : List Ag) : Prop := ∃ bs : List Nat, AgOwn w a l bs ∧ bs.Nodup ∧ ∀ g ∈ bs, lo ≤ g ∧ g < hi
theorem AgMine.keep {lo hi : Nat} {w w' : World} {a : Option Addr} {l : List Ag} (h : AgMine lo hi w a l) (hk : Agree lo hi w w') : AgMine lo hi w' a l := by
  obtain ⟨bs, h1, h2, h3⟩ := h
  exact ⟨bs, AgOwn.same h1 fun g hg => hk g (h3 g hg).1 (h3 g hg).2, h2, h3⟩
theorem AgMine.wide {lo hi lo' hi' : Nat} {w : World} {a : Option Addr} {l : List Ag} (h : AgMine lo hi w a l) (e1 : lo' ≤ lo) (e2 : hi ≤ hi') : AgMine lo' hi' w a l := by
  obtain ⟨bs, h1, h2, h3⟩ := h
  exact ⟨bs, h1, h2, fun g hg => by have := h3 g hg; omega⟩
theorem AgMine.row {lo hi : Nat} {w : World} {a : Option Addr} {l : List Ag} (h : AgMine lo hi w a l) : AgRow lo hi w a l := by
  obtain ⟨bs, h1, h2, h3⟩ := h
  exact AgOwn.row h1 h3
/-- A row in blocks of its own, each once, from lo up and below hi. -/
def FdMine (lo hi : Nat) (w : World) (a : Option Addr) (l : List Fd) : Prop := ∃ bs : List Nat, FdOwn w a l bs ∧ bs.Nodup ∧ ∀ g ∈ bs, lo ≤ g ∧ g < hi
theorem FdMine.keep {lo hi : Nat} {w w' : World} {a : Option Addr} {l : List Fd} (h : FdMine lo hi w a l) (hk : Agree lo hi w w') : FdMine lo hi w' a l := by
  obtain ⟨bs, h1, h2, h3⟩ := h
  exact ⟨bs, FdOwn.same h1 fun g hg => hk g (h3 g hg).1 (h3 g hg).2, h2, h3⟩
theorem FdMine.wide {lo hi lo' hi' : Nat} {w : World} {a : Option Addr} {l : List Fd} (h : FdMine lo hi w a l) (e1 : lo' ≤ lo) (e2 : hi ≤ hi') : FdMine lo' hi' w a l := by
  obtain ⟨bs, h1, h2, h3⟩ := h
  exact ⟨bs, h1, h2, fun g hg => by have := h3 g hg; omega⟩
theorem FdMine.row {lo hi : Nat} {w : World} {a : Option Addr} {l : List Fd} (h : FdMine lo hi w a l) : FdRow lo hi w a l := by
  obtain ⟨bs, h1, h2, h3⟩ := h
  exact FdOwn.row h1 h3
def FdLaidO (lo hi : Nat) (w : World) (cs : Array Value) (l : List Fd) (k : Nat) : Prop :=
  ∃ subs : List (List Nat), subs.length = k ∧ subs.flatten.Nodup ∧ (∀ g ∈ subs.flatten, lo ≤ g ∧ g < hi) ∧ ∀ i x s, l[i]? = some x → subs[i]? = some s → FdCell cs (i * 5) x ∧ ∃ a3 c3, cs[i * 5 + 1]? = some (.slice a3 x.args.length c3) ∧ AgOwn w a3 x.args s
theorem FdLaidO.keep {lo hi hi' : Nat} {w w' : World} {cs : Array Value} {l : List Fd} {k : Nat} (h : FdLaidO lo hi w cs l k) (ha : Agree lo hi w w') (hh : hi ≤ hi') : FdLaidO lo hi' w' cs l k := by
  obtain ⟨subs, h1, h2, h3, h4⟩ := h
  refine ⟨subs, h1, h2, fun g hg => by have := h3 g hg; omega, fun i x s hx hs => ?_⟩
  obtain ⟨p, a3, c3, p1, p2⟩ := h4 i x s hx hs
  exact ⟨p, a3, c3, p1, AgOwn.same p2 fun g hg => ha g (h3 g (flat_mem hs hg)).1 (h3 g (flat_mem hs hg)).2⟩
theorem FdLaidO.put {lo mid hi : Nat} {w : World} {cs : Array Value} {l : List Fd} {k : Nat} {b3 : Option Addr} {f3 : Nat} (h : FdLaidO lo mid w cs l k) (hk : k < l.length) (hs : cs.size = l.length * 5) (hr : AgMine mid hi w b3 l[k].args) (e1 : lo ≤ mid) (e2 : mid ≤ hi) :
    FdLaidO lo hi w (put5 cs (k * 5) (.string l[k].nm) (.slice b3 l[k].args.length f3) (.string l[k].ty) (.bool l[k].ls) (.bool l[k].bg)) l (k + 1) := by
  obtain ⟨subs, h1, h2, h3, h4⟩ := h
  obtain ⟨bs, r1, r2, r3⟩ := hr
  refine ⟨subs ++ [bs], by simp [h1], ?_, ?_, ?_⟩
  · rw [List.flatten_append, List.nodup_append]
    refine ⟨h2, by simpa using r2, fun x hx y hy e => ?_⟩
    subst e
    have a1 := h3 x hx
    have a2 := r3 x (by simpa using hy)
    omega
  · intro g hg
    rw [List.flatten_append, List.mem_append] at hg
    rcases hg with hg | hg
    · have := h3 g hg; omega
    · have := r3 g (by simpa using hg); omega
  · intro i x s hx hss
    by_cases hik : i = k
    · subst hik
      rw [List.getElem?_eq_getElem hk] at hx
      simp only [Option.some.injEq] at hx
      subst hx
      rw [List.getElem?_append_right (by omega), h1, Nat.sub_self] at hss
      simp only [List.getElem?_cons_zero, Option.some.injEq] at hss
      subst hss
      obtain ⟨g0, g1, g2, g3, g4⟩ := put5_at (cs := cs) (k := i * 5) (v0 := .string l[i].nm) (v1 := .slice b3 l[i].args.length f3) (v2 := .string l[i].ty) (v3 := .bool l[i].ls) (v4 := .bool l[i].bg) (by omega)
      exact ⟨⟨g0, g2, g3, g4⟩, b3, f3, g1, r1⟩
    · have hlt : i < k := by have := (List.getElem?_eq_some_iff.1 hss).1; simp [h1] at this; omega
      rw [List.getElem?_append_left (by omega)] at hss
      obtain ⟨⟨p0, p2, p3, p4⟩, a4, c4, q1, q2⟩ := h4 i x s hx hss
      exact ⟨⟨(put5_else (by omega)).trans p0, (put5_else (by omega)).trans p2, (put5_else (by omega)).trans p3, (put5_else (by omega)).trans p4⟩, a4, c4, (put5_else (by omega)).trans q1, q2⟩
/-- A row in blocks of its own, each once, from lo up and below hi. -/
def TdMine (lo hi : Nat) (w : World) (a : Option Addr) (l : List Td) : Prop := ∃ bs : List Nat, TdOwn w a l bs ∧ bs.Nodup ∧ ∀ g ∈ bs, lo ≤ g ∧ g < hi
theorem TdMine.keep {lo hi : Nat} {w w' : World} {a : Option Addr} {l : List Td} (h : TdMine lo hi w a l) (hk : Agree lo hi w w') : TdMine lo hi w' a l := by
  obtain ⟨bs, h1, h2, h3⟩ := h
  exact ⟨bs, TdOwn.same h1 fun g hg => hk g (h3 g hg).1 (h3 g hg).2, h2, h3⟩
theorem TdMine.wide {lo hi lo' hi' : Nat} {w : World} {a : Option Addr} {l : List Td} (h : TdMine lo hi w a l) (e1 : lo' ≤ lo) (e2 : hi ≤ hi') : TdMine lo' hi' w a l := by
  obtain ⟨bs, h1, h2, h3⟩ := h
  exact ⟨bs, h1, h2, fun g hg => by have := h3 g hg; omega⟩
theorem TdMine.row {lo hi : Nat} {w : World} {a : Option Addr} {l : List Td} (h : TdMine lo hi w a l) : TdRow lo hi w a l := by
  obtain ⟨bs, h1, h2, h3⟩ := h
  exact TdOwn.row h1 h3
def TdLaidO (lo hi : Nat) (w : World) (cs : Array Value) (l : List Td) (k : Nat) : Prop :=
  ∃ subs : List (List Nat), subs.length = k ∧ subs.flatten.Nodup ∧ (∀ g ∈ subs.flatten, lo ≤ g ∧ g < hi) ∧ ∀ i x s, l[i]? = some x → subs[i]? = some s → TdCell cs (i * 2) x ∧ ∃ a3 c3, cs[i * 2 + 1]? = some (.slice a3 x.fs.length c3) ∧ FdOwn w a3 x.fs s
theorem TdLaidO.keep {lo hi hi' : Nat} {w w' : World} {cs : Array Value} {l : List Td} {k : Nat} (h : TdLaidO lo hi w cs l k) (ha : Agree lo hi w w') (hh : hi ≤ hi') : TdLaidO lo hi' w' cs l k := by
  obtain ⟨subs, h1, h2, h3, h4⟩ := h
  refine ⟨subs, h1, h2, fun g hg => by have := h3 g hg; omega, fun i x s hx hs => ?_⟩
  obtain ⟨p, a3, c3, p1, p2⟩ := h4 i x s hx hs
  exact ⟨p, a3, c3, p1, FdOwn.same p2 fun g hg => ha g (h3 g (flat_mem hs hg)).1 (h3 g (flat_mem hs hg)).2⟩
theorem TdLaidO.put {lo mid hi : Nat} {w : World} {cs : Array Value} {l : List Td} {k : Nat} {b3 : Option Addr} {f3 : Nat} (h : TdLaidO lo mid w cs l k) (hk : k < l.length) (hs : cs.size = l.length * 2) (hr : FdMine mid hi w b3 l[k].fs) (e1 : lo ≤ mid) (e2 : mid ≤ hi) :
    TdLaidO lo hi w (put2 cs (k * 2) (.string l[k].nm) (.slice b3 l[k].fs.length f3)) l (k + 1) := by
  obtain ⟨subs, h1, h2, h3, h4⟩ := h
  obtain ⟨bs, r1, r2, r3⟩ := hr
  refine ⟨subs ++ [bs], by simp [h1], ?_, ?_, ?_⟩
  · rw [List.flatten_append, List.nodup_append]
    refine ⟨h2, by simpa using r2, fun x hx y hy e => ?_⟩
    subst e
    have a1 := h3 x hx
    have a2 := r3 x (by simpa using hy)
    omega
  · intro g hg
    rw [List.flatten_append, List.mem_append] at hg
    rcases hg with hg | hg
    · have := h3 g hg; omega
    · have := r3 g (by simpa using hg); omega
  · intro i x s hx hss
    by_cases hik : i = k
    · subst hik
      rw [List.getElem?_eq_getElem hk] at hx
      simp only [Option.some.injEq] at hx
      subst hx
      rw [List.getElem?_append_right (by omega), h1, Nat.sub_self] at hss
      simp only [List.getElem?_cons_zero, Option.some.injEq] at hss
      subst hss
      obtain ⟨g0, g1⟩ := put2_at (cs := cs) (k := i * 2) (v0 := .string l[i].nm) (v1 := .slice b3 l[i].fs.length f3) (by omega)
      exact ⟨g0, b3, f3, g1, r1⟩
    · have hlt : i < k := by have := (List.getElem?_eq_some_iff.1 hss).1; simp [h1] at this; omega
      rw [List.getElem?_append_left (by omega)] at hss
      obtain ⟨p0, a4, c4, q1, q2⟩ := h4 i x s hx hss
      exact ⟨(put2_else (by omega)).trans p0, a4, c4, (put2_else (by omega)).trans q1, q2⟩
end Go.Proofs.YtkjndghkimnjeaaGreat.G
namespace Go.Proofs.YtkjndghkimnjeaaGreat.G
open Go.ChangeShapes Go.WideShapes Go.ChangeAt Go.RowKit
set_option linter.unusedVariables false

def sId : ByteArray := ⟨#[105, 100]⟩
def sValue : ByteArray := ⟨#[118, 97, 108, 117, 101]⟩
def sBy : ByteArray := ⟨#[98, 121]⟩
def sTo : ByteArray := ⟨#[116, 111]⟩
def sNodeT : ByteArray := ⟨#[78, 111, 100, 101]⟩
def sInt : ByteArray := ⟨#[73, 110, 116]⟩
def qFs : List Fd := [⟨⟨#[110, 111, 100, 101]⟩, [⟨sId, true⟩], sNodeT, false, false⟩, ⟨⟨#[109, 117, 115, 116]⟩, [⟨sId, true⟩], sNodeT, false, true⟩, ⟨⟨#[110, 111, 100, 101, 115]⟩, [], sNodeT, true, false⟩, ⟨⟨#[115, 105, 122, 101]⟩, [], sInt, false, true⟩]
def mFs : List Fd := [⟨⟨#[115, 101, 116]⟩, [⟨sId, true⟩, ⟨sValue, true⟩], sNodeT, false, false⟩, ⟨⟨#[97, 100, 100]⟩, [⟨sId, true⟩, ⟨sBy, true⟩], sNodeT, false, false⟩, ⟨⟨#[108, 105, 110, 107]⟩, [⟨sId, true⟩, ⟨sTo, false⟩], sNodeT, false, false⟩]
def nFs : List Fd := [⟨sId, [], sInt, false, true⟩, ⟨sValue, [], sInt, false, false⟩, ⟨⟨#[112, 108, 117, 115]⟩, [⟨sBy, true⟩], sInt, false, false⟩, ⟨⟨#[110, 101, 120, 116]⟩, [], sNodeT, false, false⟩, ⟨⟨#[110, 101, 101, 100]⟩, [], sNodeT, false, true⟩]
def sQuery : ByteArray := ⟨#[81, 117, 101, 114, 121]⟩
def sMut : ByteArray := ⟨#[77, 117, 116, 97, 116, 105, 111, 110]⟩
def PL : List Td := [⟨sQuery, qFs⟩, ⟨sMut, mFs⟩, ⟨sNodeT, nFs⟩]

theorem heap_at (w : World) (o : Obj) (n : Nat) (h : n = w.heap.size) : (w.alloc o).heap[n]? = some o := by
  subst h
  exact heap_alloc_new w o

def agv : List Ag → List Value
  | [] => []
  | x :: l => .string x.nm :: .bool x.need :: agv l
theorem agv_get : ∀ {l : List Ag} {i : Nat} {x : Ag}, l[i]? = some x → (agv l)[i * 2]? = some (.string x.nm) ∧ (agv l)[i * 2 + 1]? = some (.bool x.need)
  | [], i, x, h => by simp at h
  | y :: l, 0, x, h => by
    simp only [List.getElem?_cons_zero, Option.some.injEq] at h
    subst h
    exact ⟨rfl, rfl⟩
  | y :: l, i + 1, x, h => by
    have q := agv_get (l := l) (i := i) (x := x) (by simpa using h)
    have e : (i + 1) * 2 = i * 2 + 2 := by omega
    have e' : (i + 1) * 2 + 1 = i * 2 + 1 + 2 := by omega
    rw [e', e]
    simpa only [agv, List.getElem?_cons_succ] using q
theorem agv_len : ∀ l : List Ag, (agv l).length = l.length * 2
  | [] => rfl
  | x :: l => by simp only [agv, List.length_cons, agv_len l]; omega
theorem AgOwn.lay {w : World} {b : Nat} (l : List Ag) (h : w.heap[b]? = some (.cells (agv l).toArray 87 (0, 0))) : AgOwn w (some ⟨b, 0, none⟩) l [b] :=
  .inr ⟨b, _, rfl, rfl, h, by simp [agv_len], fun i x hx => by have := agv_get hx; exact ⟨by simpa using this.1, by simpa using this.2⟩⟩
theorem AgOwn.lay0 (w : World) (a : Option Addr) : AgOwn w a [] [] := .inl ⟨rfl, rfl⟩
def fdvs : List Fd → List (Option Addr × Nat) → List Value
  | x :: l, p :: r => .string x.nm :: .slice p.1 x.args.length p.2 :: .string x.ty :: .bool x.ls :: .bool x.bg :: fdvs l r
  | _, _ => []
def AllAg (w : World) : List Fd → List (Option Addr × Nat) → List (List Nat) → Prop
  | [], [], [] => True
  | x :: l, p :: r, s :: t => AgOwn w p.1 x.args s ∧ AllAg w l r t
  | _, _, _ => False
theorem AllAg.len {w : World} : ∀ {l r t}, AllAg w l r t → t.length = l.length ∧ (fdvs l r).length = l.length * 5
  | [], [], [], _ => ⟨rfl, rfl⟩
  | x :: l, p :: r, s :: t, h => by
    have := AllAg.len h.2
    simp only [List.length_cons, fdvs]
    omega
theorem AllAg.get {w : World} : ∀ {l r t i x s}, AllAg w l r t → l[i]? = some x → t[i]? = some s → ∃ p : Option Addr × Nat, AgOwn w p.1 x.args s ∧ (fdvs l r)[i * 5]? = some (.string x.nm) ∧ (fdvs l r)[i * 5 + 1]? = some (.slice p.1 x.args.length p.2) ∧ (fdvs l r)[i * 5 + 2]? = some (.string x.ty) ∧ (fdvs l r)[i * 5 + 3]? = some (.bool x.ls) ∧ (fdvs l r)[i * 5 + 4]? = some (.bool x.bg)
  | [], [], [], i, x, s, _, hx, _ => by simp at hx
  | y :: l, p :: r, u :: t, 0, x, s, h, hx, hs => by
    simp only [List.getElem?_cons_zero, Option.some.injEq] at hx hs
    subst hx hs
    exact ⟨p, h.1, rfl, rfl, rfl, rfl, rfl⟩
  | y :: l, p :: r, u :: t, i + 1, x, s, h, hx, hs => by
    obtain ⟨q, q0, q1, q2, q3, q4, q5⟩ := AllAg.get (i := i) h.2 (by simpa using hx) (by simpa using hs)
    have e0 : (i + 1) * 5 = i * 5 + 5 := by omega
    refine ⟨q, q0, ?_, ?_, ?_, ?_, ?_⟩ <;> simp only [e0, fdvs]
    · simpa only [List.getElem?_cons_succ] using q1
    · rw [show i * 5 + 5 + 1 = i * 5 + 1 + 5 by omega]; simpa only [List.getElem?_cons_succ] using q2
    · rw [show i * 5 + 5 + 2 = i * 5 + 2 + 5 by omega]; simpa only [List.getElem?_cons_succ] using q3
    · rw [show i * 5 + 5 + 3 = i * 5 + 3 + 5 by omega]; simpa only [List.getElem?_cons_succ] using q4
    · rw [show i * 5 + 5 + 4 = i * 5 + 4 + 5 by omega]; simpa only [List.getElem?_cons_succ] using q5
theorem FdOwn.lay {w : World} {b : Nat} (l : List Fd) (r : List (Option Addr × Nat)) (t : List (List Nat)) (h : w.heap[b]? = some (.cells (fdvs l r).toArray 90 (0, 0))) (ha : AllAg w l r t) : FdOwn w (some ⟨b, 0, none⟩) l (b :: t.flatten) := by
  refine .inr ⟨b, _, t, rfl, rfl, ha.len.1, h, by simp [ha.len.2], fun i x s hx hs => ?_⟩
  obtain ⟨q, q0, q1, q2, q3, q4, q5⟩ := AllAg.get ha hx hs
  exact ⟨⟨by simpa using q1, by simpa using q3, by simpa using q4, by simpa using q5⟩, q.1, q.2, by simpa using q2, q0⟩
def tdvs : List Td → List (Option Addr × Nat) → List Value
  | x :: l, p :: r => .string x.nm :: .slice p.1 x.fs.length p.2 :: tdvs l r
  | _, _ => []
def AllFd (w : World) : List Td → List (Option Addr × Nat) → List (List Nat) → Prop
  | [], [], [] => True
  | x :: l, p :: r, s :: t => FdOwn w p.1 x.fs s ∧ AllFd w l r t
  | _, _, _ => False
theorem AllFd.len {w : World} : ∀ {l r t}, AllFd w l r t → t.length = l.length ∧ (tdvs l r).length = l.length * 2
  | [], [], [], _ => ⟨rfl, rfl⟩
  | x :: l, p :: r, s :: t, h => by
    have := AllFd.len h.2
    simp only [List.length_cons, tdvs]
    omega
theorem AllFd.get {w : World} : ∀ {l r t i x s}, AllFd w l r t → l[i]? = some x → t[i]? = some s → ∃ p : Option Addr × Nat, FdOwn w p.1 x.fs s ∧ (tdvs l r)[i * 2]? = some (.string x.nm) ∧ (tdvs l r)[i * 2 + 1]? = some (.slice p.1 x.fs.length p.2)
  | [], [], [], i, x, s, _, hx, _ => by simp at hx
  | y :: l, p :: r, u :: t, 0, x, s, h, hx, hs => by
    simp only [List.getElem?_cons_zero, Option.some.injEq] at hx hs
    subst hx hs
    exact ⟨p, h.1, rfl, rfl⟩
  | y :: l, p :: r, u :: t, i + 1, x, s, h, hx, hs => by
    obtain ⟨q, q0, q1, q2⟩ := AllFd.get (i := i) h.2 (by simpa using hx) (by simpa using hs)
    have e0 : (i + 1) * 2 = i * 2 + 2 := by omega
    refine ⟨q, q0, ?_, ?_⟩ <;> simp only [e0, tdvs]
    · simpa only [List.getElem?_cons_succ] using q1
    · rw [show i * 2 + 2 + 1 = i * 2 + 1 + 2 by omega]; simpa only [List.getElem?_cons_succ] using q2
theorem TdOwn.lay {w : World} {b : Nat} (l : List Td) (r : List (Option Addr × Nat)) (t : List (List Nat)) (h : w.heap[b]? = some (.cells (tdvs l r).toArray 93 (0, 0))) (ha : AllFd w l r t) : TdOwn w (some ⟨b, 0, none⟩) l (b :: t.flatten) := by
  refine .inr ⟨b, _, t, rfl, rfl, ha.len.1, h, by simp [ha.len.2], fun i x s hx hs => ?_⟩
  obtain ⟨q, q0, q1, q2⟩ := AllFd.get ha hx hs
  exact ⟨by simpa [TdCell] using q1, q.1, q.2, by simpa using q2, q0⟩

theorem needed_any (n : ByteArray) (w : World) :
    Calls Tryz.prog 62 #[.string n] w fun e w' => e = .returned (.agg #[.string n, .bool true]) ∧ w' = w.alloc (.cells #[.string n, .bool true] 87) := by
  go_enter Tryz.func62, Tryz.ntmps62
  go_wp2_with fail
  refine bodyPost_ret (v := .agg #[.string n, .bool true]) (by simp [results, Tryz.results62, go_sem]) rfl ⟨rfl, rfl⟩
theorem typeOf_any (n : ByteArray) (a : Option Addr) (m c : Nat) (w : World) :
    Calls Tryz.prog 63 #[.string n, .slice a m c] w fun e w' => e = .returned (.agg #[.string n, .slice a m c]) ∧ w' = w.alloc (.cells #[.string n, .slice a m c] 93) := by
  go_enter Tryz.func63, Tryz.ntmps63
  go_wp2_with fail
  refine bodyPost_ret (v := .agg #[.string n, .slice a m c]) (by simp [results, Tryz.results63, go_sem]) rfl ⟨rfl, rfl⟩
theorem fieldOf_any (n k : ByteArray) (a : Option Addr) (m c : Nat) (w : World) :
    Calls Tryz.prog 64 #[.string n, .string k, .slice a m c] w fun e w' => e = .returned (.agg #[.string n, .slice a m c, .string k, .bool false, .bool false]) ∧ w' = w.alloc (.cells #[.string n, .slice a m c, .string k, .bool false, .bool false] 90) := by
  go_enter Tryz.func64, Tryz.ntmps64
  go_wp2_with fail
  refine bodyPost_ret (v := .agg #[.string n, .slice a m c, .string k, .bool false, .bool false]) (by simp [results, Tryz.results64, go_sem]) rfl ⟨rfl, rfl⟩
theorem banged_any (n k : ByteArray) (a : Option Addr) (m c : Nat) (b1 b2 : Bool) (w : World) :
    Calls Tryz.prog 65 #[.agg #[.string n, .slice a m c, .string k, .bool b1, .bool b2]] w fun e w' => e = .returned (.agg #[.string n, .slice a m c, .string k, .bool b1, .bool true]) ∧ w' = (w.alloc (.cells #[.string n, .slice a m c, .string k, .bool b1, .bool true] 90)).alloc (.cells #[.string n, .slice a m c, .string k, .bool b1, .bool true] 90) := by
  go_enter Tryz.func65, Tryz.ntmps65
  go_wp2_with fail
  refine bodyPost_ret (v := .agg #[.string n, .slice a m c, .string k, .bool b1, .bool true]) (by simp [results, Tryz.results65, go_sem]) rfl ⟨rfl, ?_⟩
  rfl
theorem listed_any (n k : ByteArray) (a : Option Addr) (m c : Nat) (b1 b2 : Bool) (w : World) :
    Calls Tryz.prog 66 #[.agg #[.string n, .slice a m c, .string k, .bool b1, .bool b2]] w fun e w' => e = .returned (.agg #[.string n, .slice a m c, .string k, .bool true, .bool b2]) ∧ w' = (w.alloc (.cells #[.string n, .slice a m c, .string k, .bool true, .bool b2] 90)).alloc (.cells #[.string n, .slice a m c, .string k, .bool true, .bool b2] 90) := by
  go_enter Tryz.func66, Tryz.ntmps66
  go_wp2_with fail
  refine bodyPost_ret (v := .agg #[.string n, .slice a m c, .string k, .bool true, .bool b2]) (by simp [results, Tryz.results66, go_sem]) rfl ⟨rfl, rfl⟩
end Go.Proofs.YtkjndghkimnjeaaGreat.G
namespace Go.Proofs.YtkjndghkimnjeaaGreat.G
open Go.ChangeShapes Go.WideShapes Go.ChangeAt Go.RowKit
set_option linter.unusedVariables false

theorem row_of {W : World} {a : Option Addr} {l : List Td} (h : ∃ bs, TdOwn W a l bs ∧ ∀ g ∈ bs, g < W.heap.size) : TdRow 0 W.heap.size W a l := by
  obtain ⟨bs, h1, h2⟩ := h
  exact h1.row (fun g hg => ⟨Nat.zero_le _, h2 g hg⟩)

set_option maxHeartbeats 4000000 in
set_option maxRecDepth 40000 in
theorem spec_plain (w : World) :
    Calls Tryz.prog 24 #[] w fun e w' => ∃ a c, e = .returned (.agg #[.slice a 3 c]) ∧ TdRow 0 w'.heap.size w' a PL ∧ Below w.heap.size w w' := by
  go_enter Tryz.func24, Tryz.ntmps24
  go_wp2_with fail
  refine bodyPost_ret (v := .agg #[.slice (some ⟨w.heap.size + 17, 0, none⟩) 3 3]) ?res rfl ⟨_, _, rfl, ?_, ?_⟩
  case res => simp [results, Tryz.results24, go_sem]
  · refine row_of ⟨_, TdOwn.lay PL [(some ⟨w.heap.size + 6, 0, none⟩, 4), (some ⟨w.heap.size + 10, 0, none⟩, 3), (some ⟨w.heap.size + 16, 0, none⟩, 5)] [(w.heap.size + 6) :: [[w.heap.size + 2], [w.heap.size + 3], [], []].flatten, (w.heap.size + 10) :: [[w.heap.size + 7], [w.heap.size + 8], [w.heap.size + 9]].flatten, (w.heap.size + 16) :: [[], [], [w.heap.size + 13], [], []].flatten] ?_
      ⟨FdOwn.lay qFs [(some ⟨w.heap.size + 2, 0, none⟩, 1), (some ⟨w.heap.size + 3, 0, none⟩, 1), (some ⟨w.heap.size + 4, 0, none⟩, 0), (some ⟨w.heap.size + 5, 0, none⟩, 0)] [[w.heap.size + 2], [w.heap.size + 3], [], []] ?_ ⟨AgOwn.lay _ ?_, AgOwn.lay _ ?_, AgOwn.lay0 _ _, AgOwn.lay0 _ _, trivial⟩,
       FdOwn.lay mFs [(some ⟨w.heap.size + 7, 0, none⟩, 2), (some ⟨w.heap.size + 8, 0, none⟩, 2), (some ⟨w.heap.size + 9, 0, none⟩, 2)] [[w.heap.size + 7], [w.heap.size + 8], [w.heap.size + 9]] ?_ ⟨AgOwn.lay _ ?_, AgOwn.lay _ ?_, AgOwn.lay _ ?_, trivial⟩,
       FdOwn.lay nFs [(some ⟨w.heap.size + 11, 0, none⟩, 0), (some ⟨w.heap.size + 12, 0, none⟩, 0), (some ⟨w.heap.size + 13, 0, none⟩, 1), (some ⟨w.heap.size + 14, 0, none⟩, 0), (some ⟨w.heap.size + 15, 0, none⟩, 0)] [[], [], [w.heap.size + 13], [], []] ?_ ⟨AgOwn.lay0 _ _, AgOwn.lay0 _ _, AgOwn.lay _ ?_, AgOwn.lay0 _ _, AgOwn.lay0 _ _, trivial⟩, trivial⟩, ?bd⟩
    case bd =>
      intro g hg
      simp only [List.flatten_cons, List.flatten_nil, List.append_nil, List.cons_append, List.nil_append, List.mem_cons, List.not_mem_nil, or_false] at hg
      simp only [World.size_alloc]
      omega
    all_goals (repeat (first | refine (Below.heap_alloc _ _ _ (by simp only [World.size_alloc]; omega)).trans ?_ | exact heap_at _ _ _ (by simp only [World.size_alloc])))
  · repeat (first | exact Below.refl _ _ | refine Below.setCell ?_ (by first | omega | (simp <;> omega)) _ | refine Below.alloc ?_ (by first | omega | (simp <;> omega)) _)
end Go.Proofs.YtkjndghkimnjeaaGreat.G
