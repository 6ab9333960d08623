/- The law's own copies: their memory is theirs. -/
import Derived.Test.YtkjomeceojjfhaaSchOwn
import Derived.Test.YtkjomeceojjfhaaSchTo
namespace Go.Proofs.Ytkjomeceojjfhaa.G
open Go.ChangeShapes Go.WideShapes Go.ChangeAt Go.RowKit
set_option linter.unusedVariables false

/-- A row in blocks of its own, each once, from lo up and below hi. -/
def AgMine (lo hi : Nat) (w : World) (a : Option Addr) (l : List Ag) : Prop := ∃ bs : List Nat, AgOwn w a l bs ∧ bs.Nodup ∧ ∀ g ∈ bs, lo ≤ g ∧ g < hi
theorem AgMine.keep {lo hi : Nat} {w w' : World} {a : Option Addr} {l : List Ag} (h : AgMine lo hi w a l) (hk : Agree lo hi w w') : AgMine lo hi w' a l := by
  obtain ⟨bs, h1, h2, h3⟩ := h
  exact ⟨bs, AgOwn.same h1 fun g hg => hk g (h3 g hg).1 (h3 g hg).2, h2, h3⟩
theorem AgMine.wide {lo hi lo' hi' : Nat} {w : World} {a : Option Addr} {l : List Ag} (h : AgMine lo hi w a l) (e1 : lo' ≤ lo) (e2 : hi ≤ hi') : AgMine lo' hi' w a l := by
  obtain ⟨bs, h1, h2, h3⟩ := h
  exact ⟨bs, h1, h2, fun g hg => by have := h3 g hg; omega⟩
theorem AgMine.row {lo hi : Nat} {w : World} {a : Option Addr} {l : List Ag} (h : AgMine lo hi w a l) : AgRow lo hi w a l := by
  obtain ⟨bs, h1, h2, h3⟩ := h
  exact AgOwn.row h1 h3
/-- A row in blocks of its own, each once, from lo up and below hi. -/
def FdMine (lo hi : Nat) (w : World) (a : Option Addr) (l : List Fd) : Prop := ∃ bs : List Nat, FdOwn w a l bs ∧ bs.Nodup ∧ ∀ g ∈ bs, lo ≤ g ∧ g < hi
theorem FdMine.keep {lo hi : Nat} {w w' : World} {a : Option Addr} {l : List Fd} (h : FdMine lo hi w a l) (hk : Agree lo hi w w') : FdMine lo hi w' a l := by
  obtain ⟨bs, h1, h2, h3⟩ := h
  exact ⟨bs, FdOwn.same h1 fun g hg => hk g (h3 g hg).1 (h3 g hg).2, h2, h3⟩
theorem FdMine.wide {lo hi lo' hi' : Nat} {w : World} {a : Option Addr} {l : List Fd} (h : FdMine lo hi w a l) (e1 : lo' ≤ lo) (e2 : hi ≤ hi') : FdMine lo' hi' w a l := by
  obtain ⟨bs, h1, h2, h3⟩ := h
  exact ⟨bs, h1, h2, fun g hg => by have := h3 g hg; omega⟩
theorem FdMine.row {lo hi : Nat} {w : World} {a : Option Addr} {l : List Fd} (h : FdMine lo hi w a l) : FdRow lo hi w a l := by
  obtain ⟨bs, h1, h2, h3⟩ := h
  exact FdOwn.row h1 h3
def FdLaidO (lo hi : Nat) (w : World) (cs : Array Value) (l : List Fd) (k : Nat) : Prop :=
  ∃ subs : List (List Nat), subs.length = k ∧ subs.flatten.Nodup ∧ (∀ g ∈ subs.flatten, lo ≤ g ∧ g < hi) ∧ ∀ i x s, l[i]? = some x → subs[i]? = some s → FdCell cs (i * 5) x ∧ ∃ a3 c3, cs[i * 5 + 1]? = some (.slice a3 x.args.length c3) ∧ AgOwn w a3 x.args s
theorem FdLaidO.keep {lo hi hi' : Nat} {w w' : World} {cs : Array Value} {l : List Fd} {k : Nat} (h : FdLaidO lo hi w cs l k) (ha : Agree lo hi w w') (hh : hi ≤ hi') : FdLaidO lo hi' w' cs l k := by
  obtain ⟨subs, h1, h2, h3, h4⟩ := h
  refine ⟨subs, h1, h2, fun g hg => by have := h3 g hg; omega, fun i x s hx hs => ?_⟩
  obtain ⟨p, a3, c3, p1, p2⟩ := h4 i x s hx hs
  exact ⟨p, a3, c3, p1, AgOwn.same p2 fun g hg => ha g (h3 g (flat_mem hs hg)).1 (h3 g (flat_mem hs hg)).2⟩
theorem FdLaidO.put {lo mid hi : Nat} {w : World} {cs : Array Value} {l : List Fd} {k : Nat} {b3 : Option Addr} {f3 : Nat} (h : FdLaidO lo mid w cs l k) (hk : k < l.length) (hs : cs.size = l.length * 5) (hr : AgMine mid hi w b3 l[k].args) (e1 : lo ≤ mid) (e2 : mid ≤ hi) :
    FdLaidO lo hi w (put5 cs (k * 5) (.string l[k].nm) (.slice b3 l[k].args.length f3) (.string l[k].ty) (.bool l[k].ls) (.bool l[k].bg)) l (k + 1) := by
  obtain ⟨subs, h1, h2, h3, h4⟩ := h
  obtain ⟨bs, r1, r2, r3⟩ := hr
  refine ⟨subs ++ [bs], by simp [h1], ?_, ?_, ?_⟩
  · rw [List.flatten_append, List.nodup_append]
    refine ⟨h2, by simpa using r2, fun x hx y hy e => ?_⟩
    subst e
    have a1 := h3 x hx
    have a2 := r3 x (by simpa using hy)
    omega
  · intro g hg
    rw [List.flatten_append, List.mem_append] at hg
    rcases hg with hg | hg
    · have := h3 g hg; omega
    · have := r3 g (by simpa using hg); omega
  · intro i x s hx hss
    by_cases hik : i = k
    · subst hik
      rw [List.getElem?_eq_getElem hk] at hx
      simp only [Option.some.injEq] at hx
      subst hx
      rw [List.getElem?_append_right (by omega), h1, Nat.sub_self] at hss
      simp only [List.getElem?_cons_zero, Option.some.injEq] at hss
      subst hss
      obtain ⟨g0, g1, g2, g3, g4⟩ := put5_at (cs := cs) (k := i * 5) (v0 := .string l[i].nm) (v1 := .slice b3 l[i].args.length f3) (v2 := .string l[i].ty) (v3 := .bool l[i].ls) (v4 := .bool l[i].bg) (by omega)
      exact ⟨⟨g0, g2, g3, g4⟩, b3, f3, g1, r1⟩
    · have hlt : i < k := by have := (List.getElem?_eq_some_iff.1 hss).1; simp [h1] at this; omega
      rw [List.getElem?_append_left (by omega)] at hss
      obtain ⟨⟨p0, p2, p3, p4⟩, a4, c4, q1, q2⟩ := h4 i x s hx hss
      exact ⟨⟨(put5_else (by omega)).trans p0, (put5_else (by omega)).trans p2, (put5_else (by omega)).trans p3, (put5_else (by omega)).trans p4⟩, a4, c4, (put5_else (by omega)).trans q1, q2⟩
/-- A row in blocks of its own, each once, from lo up and below hi. -/
def TdMine (lo hi : Nat) (w : World) (a : Option Addr) (l : List Td) : Prop := ∃ bs : List Nat, TdOwn w a l bs ∧ bs.Nodup ∧ ∀ g ∈ bs, lo ≤ g ∧ g < hi
theorem TdMine.keep {lo hi : Nat} {w w' : World} {a : Option Addr} {l : List Td} (h : TdMine lo hi w a l) (hk : Agree lo hi w w') : TdMine lo hi w' a l := by
  obtain ⟨bs, h1, h2, h3⟩ := h
  exact ⟨bs, TdOwn.same h1 fun g hg => hk g (h3 g hg).1 (h3 g hg).2, h2, h3⟩
theorem TdMine.wide {lo hi lo' hi' : Nat} {w : World} {a : Option Addr} {l : List Td} (h : TdMine lo hi w a l) (e1 : lo' ≤ lo) (e2 : hi ≤ hi') : TdMine lo' hi' w a l := by
  obtain ⟨bs, h1, h2, h3⟩ := h
  exact ⟨bs, h1, h2, fun g hg => by have := h3 g hg; omega⟩
theorem TdMine.row {lo hi : Nat} {w : World} {a : Option Addr} {l : List Td} (h : TdMine lo hi w a l) : TdRow lo hi w a l := by
  obtain ⟨bs, h1, h2, h3⟩ := h
  exact TdOwn.row h1 h3
def TdLaidO (lo hi : Nat) (w : World) (cs : Array Value) (l : List Td) (k : Nat) : Prop :=
  ∃ subs : List (List Nat), subs.length = k ∧ subs.flatten.Nodup ∧ (∀ g ∈ subs.flatten, lo ≤ g ∧ g < hi) ∧ ∀ i x s, l[i]? = some x → subs[i]? = some s → TdCell cs (i * 2) x ∧ ∃ a3 c3, cs[i * 2 + 1]? = some (.slice a3 x.fs.length c3) ∧ FdOwn w a3 x.fs s
theorem TdLaidO.keep {lo hi hi' : Nat} {w w' : World} {cs : Array Value} {l : List Td} {k : Nat} (h : TdLaidO lo hi w cs l k) (ha : Agree lo hi w w') (hh : hi ≤ hi') : TdLaidO lo hi' w' cs l k := by
  obtain ⟨subs, h1, h2, h3, h4⟩ := h
  refine ⟨subs, h1, h2, fun g hg => by have := h3 g hg; omega, fun i x s hx hs => ?_⟩
  obtain ⟨p, a3, c3, p1, p2⟩ := h4 i x s hx hs
  exact ⟨p, a3, c3, p1, FdOwn.same p2 fun g hg => ha g (h3 g (flat_mem hs hg)).1 (h3 g (flat_mem hs hg)).2⟩
theorem TdLaidO.put {lo mid hi : Nat} {w : World} {cs : Array Value} {l : List Td} {k : Nat} {b3 : Option Addr} {f3 : Nat} (h : TdLaidO lo mid w cs l k) (hk : k < l.length) (hs : cs.size = l.length * 2) (hr : FdMine mid hi w b3 l[k].fs) (e1 : lo ≤ mid) (e2 : mid ≤ hi) :
    TdLaidO lo hi w (put2 cs (k * 2) (.string l[k].nm) (.slice b3 l[k].fs.length f3)) l (k + 1) := by
  obtain ⟨subs, h1, h2, h3, h4⟩ := h
  obtain ⟨bs, r1, r2, r3⟩ := hr
  refine ⟨subs ++ [bs], by simp [h1], ?_, ?_, ?_⟩
  · rw [List.flatten_append, List.nodup_append]
    refine ⟨h2, by simpa using r2, fun x hx y hy e => ?_⟩
    subst e
    have a1 := h3 x hx
    have a2 := r3 x (by simpa using hy)
    omega
  · intro g hg
    rw [List.flatten_append, List.mem_append] at hg
    rcases hg with hg | hg
    · have := h3 g hg; omega
    · have := r3 g (by simpa using hg); omega
  · intro i x s hx hss
    by_cases hik : i = k
    · subst hik
      rw [List.getElem?_eq_getElem hk] at hx
      simp only [Option.some.injEq] at hx
      subst hx
      rw [List.getElem?_append_right (by omega), h1, Nat.sub_self] at hss
      simp only [List.getElem?_cons_zero, Option.some.injEq] at hss
      subst hss
      obtain ⟨g0, g1⟩ := put2_at (cs := cs) (k := i * 2) (v0 := .string l[i].nm) (v1 := .slice b3 l[i].fs.length f3) (by omega)
      exact ⟨g0, b3, f3, g1, r1⟩
    · have hlt : i < k := by have := (List.getElem?_eq_some_iff.1 hss).1; simp [h1] at this; omega
      rw [List.getElem?_append_left (by omega)] at hss
      obtain ⟨p0, a4, c4, q1, q2⟩ := h4 i x s hx hss
      exact ⟨(put2_else (by omega)).trans p0, a4, c4, (put2_else (by omega)).trans q1, q2⟩
end Go.Proofs.Ytkjomeceojjfhaa.G
