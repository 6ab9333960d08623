/- What CheckTypes tells: selections of a type. -/
import Derived.Test.YtajjaddlalbnmaaGBase
import Derived.Maps.OwnSet
import Derived.Test.YtajjaddlalbnmaaDocFrs
namespace Go.Proofs.Ytajjaddlalbnmaa.G
open Go.ChangeShapes Go.WideShapes Go.ChangeAt Go.RowKit
set_option linter.unusedVariables false

theorem list2 {α : Type} {l : List α} (h : l.length = 2) : ∃ v0 v1, l = [v0, v1] := by
  match l, h with
  | [v0, v1], _ => exact ⟨v0, v1, rfl⟩
def put2 (cs : Array Value) (k : Nat) (v0 v1 : Value) : Array Value := ((cs.setIfInBounds k v0).setIfInBounds (k + 1) v1)
theorem put2_size (cs : Array Value) (k : Nat) (v0 v1 : Value) : (put2 cs k v0 v1).size = cs.size := by simp [put2]
theorem put2_at {cs : Array Value} {k : Nat} {v0 v1 : Value} (h : k + 1 < cs.size) : (put2 cs k v0 v1)[k]? = some v0 ∧ (put2 cs k v0 v1)[k + 1]? = some v1 := by
  unfold put2
  refine ⟨?_, ?_⟩ <;> simp [Array.getElem?_setIfInBounds] <;> omega
theorem put2_else {cs : Array Value} {k : Nat} {v0 v1 : Value} {j : Nat} (h : j < k) : (put2 cs k v0 v1)[j]? = cs[j]? := by
  unfold put2
  rw [Array.getElem?_setIfInBounds_ne (by omega), Array.getElem?_setIfInBounds_ne (by omega)]
theorem list5 {α : Type} {l : List α} (h : l.length = 5) : ∃ v0 v1 v2 v3 v4, l = [v0, v1, v2, v3, v4] := by
  match l, h with
  | [v0, v1, v2, v3, v4], _ => exact ⟨v0, v1, v2, v3, v4, rfl⟩
def put5 (cs : Array Value) (k : Nat) (v0 v1 v2 v3 v4 : Value) : Array Value := (((((cs.setIfInBounds k v0).setIfInBounds (k + 1) v1).setIfInBounds (k + 2) v2).setIfInBounds (k + 3) v3).setIfInBounds (k + 4) v4)
theorem put5_size (cs : Array Value) (k : Nat) (v0 v1 v2 v3 v4 : Value) : (put5 cs k v0 v1 v2 v3 v4).size = cs.size := by simp [put5]
theorem put5_at {cs : Array Value} {k : Nat} {v0 v1 v2 v3 v4 : Value} (h : k + 4 < cs.size) : (put5 cs k v0 v1 v2 v3 v4)[k]? = some v0 ∧ (put5 cs k v0 v1 v2 v3 v4)[k + 1]? = some v1 ∧ (put5 cs k v0 v1 v2 v3 v4)[k + 2]? = some v2 ∧ (put5 cs k v0 v1 v2 v3 v4)[k + 3]? = some v3 ∧ (put5 cs k v0 v1 v2 v3 v4)[k + 4]? = some v4 := by
  unfold put5
  refine ⟨?_, ?_, ?_, ?_, ?_⟩ <;> simp [Array.getElem?_setIfInBounds] <;> omega
theorem put5_else {cs : Array Value} {k : Nat} {v0 v1 v2 v3 v4 : Value} {j : Nat} (h : j < k) : (put5 cs k v0 v1 v2 v3 v4)[j]? = cs[j]? := by
  unfold put5
  rw [Array.getElem?_setIfInBounds_ne (by omega), Array.getElem?_setIfInBounds_ne (by omega), Array.getElem?_setIfInBounds_ne (by omega), Array.getElem?_setIfInBounds_ne (by omega), Array.getElem?_setIfInBounds_ne (by omega)]
structure Ag where
  nm : ByteArray
  need : Bool
def AgAt (lo hi : Nat) (w : World) (rd : Nat → Option Value) (o : Nat) (x : Ag) : Prop := rd o = some (.string x.nm) ∧ rd (o + 1) = some (.bool x.need)
abbrev AgRow (lo hi : Nat) (w : World) (a : Option Addr) (l : List Ag) : Prop := Row (AgAt lo hi w) 2 lo hi w a l
def AgBd (m : Nat) (x : Ag) : Prop := x.nm.size ≤ m
def AgsBd (m : Nat) (l : List Ag) : Prop := l.length ≤ m ∧ ∀ x ∈ l, AgBd m x
theorem AgAt.keep {lo hi : Nat} {w w' : World} {rd : Nat → Option Value} {o : Nat} {x : Ag} (hh : AgAt lo hi w rd o x) (hk : Agree lo hi w w') : AgAt lo hi w' rd o x := hh
theorem AgAt.wide {lo hi lo' hi' : Nat} {w : World} {rd : Nat → Option Value} {o : Nat} {x : Ag} (hh : AgAt lo hi w rd o x) (e1 : lo' ≤ lo) (e2 : hi ≤ hi') : AgAt lo' hi' w rd o x := hh
theorem AgRow.keep {lo hi : Nat} {w w' : World} {a : Option Addr} {l : List Ag} (h : AgRow lo hi w a l) (hk : Agree lo hi w w') : AgRow lo hi w' a l := Row.of h hk fun _ _ _ hx => AgAt.keep hx hk
theorem AgRow.wide {lo hi lo' hi' : Nat} {w : World} {a : Option Addr} {l : List Ag} (h : AgRow lo hi w a l) (e1 : lo' ≤ lo) (e2 : hi ≤ hi') : AgRow lo' hi' w a l := Row.out h e1 e2 fun _ _ _ hx => AgAt.wide hx e1 e2
theorem AgRow.up {w w' : World} {a : Option Addr} {l : List Ag} (h : AgRow 0 w.heap.size w a l) (hb : Below w.heap.size w w') : AgRow 0 w'.heap.size w' a l := AgRow.wide (AgRow.keep h (agree hb (Nat.le_refl _))) (Nat.le_refl _) hb.size
theorem AgRow.cells {lo hi : Nat} {w : World} {a : Option Addr} {l : List Ag} (h : AgRow lo hi w a l) (k : Nat) (hk : k < l.length) :
    ∃ b o, a = some ⟨b, o, none⟩ ∧ lo ≤ b ∧ b < hi ∧ w.cell? ⟨b, o + k * 2, none⟩ = some (.string l[k].nm) ∧ w.cell? ⟨b, o + k * 2 + 1, none⟩ = some (.bool l[k].need) := by
  obtain ⟨b, o, e1, e2, e3, h0, h1⟩ := Row.at_ h k hk
  exact ⟨b, o, e1, e2, e3, h0, h1⟩
structure Fd where
  nm : ByteArray
  args : List Ag
  ty : ByteArray
  ls : Bool
  bg : Bool
def FdAt (lo hi : Nat) (w : World) (rd : Nat → Option Value) (o : Nat) (x : Fd) : Prop := rd o = some (.string x.nm) ∧ (∃ a c, rd (o + 1) = some (.slice a x.args.length c) ∧ Row (AgAt lo hi w) 2 lo hi w a x.args) ∧ rd (o + 2) = some (.string x.ty) ∧ rd (o + 3) = some (.bool x.ls) ∧ rd (o + 4) = some (.bool x.bg)
abbrev FdRow (lo hi : Nat) (w : World) (a : Option Addr) (l : List Fd) : Prop := Row (FdAt lo hi w) 5 lo hi w a l
def FdBd (m : Nat) (x : Fd) : Prop := x.nm.size ≤ m ∧ AgsBd m x.args ∧ x.ty.size ≤ m
def FdsBd (m : Nat) (l : List Fd) : Prop := l.length ≤ m ∧ ∀ x ∈ l, FdBd m x
theorem FdAt.keep {lo hi : Nat} {w w' : World} {rd : Nat → Option Value} {o : Nat} {x : Fd} (hh : FdAt lo hi w rd o x) (hk : Agree lo hi w w') : FdAt lo hi w' rd o x := by
  obtain ⟨h0, ⟨a, c, p, q⟩, h2, h3, h4⟩ := hh
  exact ⟨h0, ⟨a, c, p, AgRow.keep q hk⟩, h2, h3, h4⟩
theorem FdAt.wide {lo hi lo' hi' : Nat} {w : World} {rd : Nat → Option Value} {o : Nat} {x : Fd} (hh : FdAt lo hi w rd o x) (e1 : lo' ≤ lo) (e2 : hi ≤ hi') : FdAt lo' hi' w rd o x := by
  obtain ⟨h0, ⟨a, c, p, q⟩, h2, h3, h4⟩ := hh
  exact ⟨h0, ⟨a, c, p, AgRow.wide q e1 e2⟩, h2, h3, h4⟩
theorem FdRow.keep {lo hi : Nat} {w w' : World} {a : Option Addr} {l : List Fd} (h : FdRow lo hi w a l) (hk : Agree lo hi w w') : FdRow lo hi w' a l := Row.of h hk fun _ _ _ hx => FdAt.keep hx hk
theorem FdRow.wide {lo hi lo' hi' : Nat} {w : World} {a : Option Addr} {l : List Fd} (h : FdRow lo hi w a l) (e1 : lo' ≤ lo) (e2 : hi ≤ hi') : FdRow lo' hi' w a l := Row.out h e1 e2 fun _ _ _ hx => FdAt.wide hx e1 e2
theorem FdRow.up {w w' : World} {a : Option Addr} {l : List Fd} (h : FdRow 0 w.heap.size w a l) (hb : Below w.heap.size w w') : FdRow 0 w'.heap.size w' a l := FdRow.wide (FdRow.keep h (agree hb (Nat.le_refl _))) (Nat.le_refl _) hb.size
theorem FdRow.cells {lo hi : Nat} {w : World} {a : Option Addr} {l : List Fd} (h : FdRow lo hi w a l) (k : Nat) (hk : k < l.length) :
    ∃ b o a3 c3, a = some ⟨b, o, none⟩ ∧ lo ≤ b ∧ b < hi ∧ w.cell? ⟨b, o + k * 5, none⟩ = some (.string l[k].nm) ∧ w.cell? ⟨b, o + k * 5 + 1, none⟩ = some (.slice a3 l[k].args.length c3) ∧ w.cell? ⟨b, o + k * 5 + 2, none⟩ = some (.string l[k].ty) ∧ w.cell? ⟨b, o + k * 5 + 3, none⟩ = some (.bool l[k].ls) ∧ w.cell? ⟨b, o + k * 5 + 4, none⟩ = some (.bool l[k].bg) ∧ AgRow lo hi w a3 l[k].args := by
  obtain ⟨b, o, e1, e2, e3, h0, ⟨a3, c3, p, q⟩, h2, h3, h4⟩ := Row.at_ h k hk
  exact ⟨b, o, a3, c3, e1, e2, e3, h0, p, h2, h3, h4, q⟩
structure Td where
  nm : ByteArray
  fs : List Fd
def TdAt (lo hi : Nat) (w : World) (rd : Nat → Option Value) (o : Nat) (x : Td) : Prop := rd o = some (.string x.nm) ∧ (∃ a c, rd (o + 1) = some (.slice a x.fs.length c) ∧ Row (FdAt lo hi w) 5 lo hi w a x.fs)
abbrev TdRow (lo hi : Nat) (w : World) (a : Option Addr) (l : List Td) : Prop := Row (TdAt lo hi w) 2 lo hi w a l
def TdBd (m : Nat) (x : Td) : Prop := x.nm.size ≤ m ∧ FdsBd m x.fs
def TdsBd (m : Nat) (l : List Td) : Prop := l.length ≤ m ∧ ∀ x ∈ l, TdBd m x
theorem TdAt.keep {lo hi : Nat} {w w' : World} {rd : Nat → Option Value} {o : Nat} {x : Td} (hh : TdAt lo hi w rd o x) (hk : Agree lo hi w w') : TdAt lo hi w' rd o x := by
  obtain ⟨h0, ⟨a, c, p, q⟩⟩ := hh
  exact ⟨h0, ⟨a, c, p, FdRow.keep q hk⟩⟩
theorem TdAt.wide {lo hi lo' hi' : Nat} {w : World} {rd : Nat → Option Value} {o : Nat} {x : Td} (hh : TdAt lo hi w rd o x) (e1 : lo' ≤ lo) (e2 : hi ≤ hi') : TdAt lo' hi' w rd o x := by
  obtain ⟨h0, ⟨a, c, p, q⟩⟩ := hh
  exact ⟨h0, ⟨a, c, p, FdRow.wide q e1 e2⟩⟩
theorem TdRow.keep {lo hi : Nat} {w w' : World} {a : Option Addr} {l : List Td} (h : TdRow lo hi w a l) (hk : Agree lo hi w w') : TdRow lo hi w' a l := Row.of h hk fun _ _ _ hx => TdAt.keep hx hk
theorem TdRow.wide {lo hi lo' hi' : Nat} {w : World} {a : Option Addr} {l : List Td} (h : TdRow lo hi w a l) (e1 : lo' ≤ lo) (e2 : hi ≤ hi') : TdRow lo' hi' w a l := Row.out h e1 e2 fun _ _ _ hx => TdAt.wide hx e1 e2
theorem TdRow.up {w w' : World} {a : Option Addr} {l : List Td} (h : TdRow 0 w.heap.size w a l) (hb : Below w.heap.size w w') : TdRow 0 w'.heap.size w' a l := TdRow.wide (TdRow.keep h (agree hb (Nat.le_refl _))) (Nat.le_refl _) hb.size
theorem TdRow.cells {lo hi : Nat} {w : World} {a : Option Addr} {l : List Td} (h : TdRow lo hi w a l) (k : Nat) (hk : k < l.length) :
    ∃ b o a3 c3, a = some ⟨b, o, none⟩ ∧ lo ≤ b ∧ b < hi ∧ w.cell? ⟨b, o + k * 2, none⟩ = some (.string l[k].nm) ∧ w.cell? ⟨b, o + k * 2 + 1, none⟩ = some (.slice a3 l[k].fs.length c3) ∧ FdRow lo hi w a3 l[k].fs := by
  obtain ⟨b, o, e1, e2, e3, h0, ⟨a3, c3, p, q⟩⟩ := Row.at_ h k hk
  exact ⟨b, o, a3, c3, e1, e2, e3, h0, p, q⟩
section
variable {H : Type} {enc : TypeId × Value → H} {W : World}
end
end Go.Proofs.Ytajjaddlalbnmaa.G
namespace Go.Proofs.Ytajjaddlalbnmaa.G
open Go.ChangeShapes Go.WideShapes Go.ChangeAt Go.RowKit
set_option linter.unusedVariables false

theorem spec_nameOK (s : ByteArray) (w : World) (hs : s.size ≤ maxLen) :
    Calls Try.prog 16 #[.string s] w fun e w' => e = .returned (.bool (nameB s)) ∧ w' = w := by
  go_enter Try.func16, Try.ntmps16
  go_wp2_with fail
  refine (word_any s _ hs).mono ?_
  rintro e w1 ⟨rfl, rfl⟩
  go_wp2_with fail
  go_ret
  exact ⟨rfl, rfl⟩
theorem impl_nameOK (s : ByteArray) (w : World) (hs : s.size ≤ maxLen) :
    Calls Try.prog 24 #[.string s] w fun e w' => e = .returned (.bool (nameB s)) ∧ Below w.heap.size w w' := by
  refine (nameOK_any s w hs).mono ?_
  rintro e w1 ⟨rfl, hw⟩
  refine ⟨rfl, ?_⟩
  rcases hw with rfl | ⟨pos, rfl⟩
  · exact Below.refl _ _
  · exact (Below.refl _ _).alloc (Nat.le_refl _) _

def inB (n a b : Int) : Bool := decide (a ≤ n ∧ n ≤ b)
set_option maxHeartbeats 400000 in
theorem spec_in (n a b : Int) (w : World) : Calls Try.prog 14 #[.int .i64 n, .int .i64 a, .int .i64 b] w fun e w' => e = .returned (.bool (inB n a b)) ∧ w' = w := by
  go_enter Try.func14, Try.ntmps14
  go_wp2
  all_goals (go_ret; exact ⟨ret_bool (by unfold inB; rw [Bool.eq_iff_iff]; simp; omega), rfl⟩)
end Go.Proofs.Ytajjaddlalbnmaa.G
namespace Go.Proofs.Ytajjaddlalbnmaa.G
open Go.ChangeShapes Go.WideShapes Go.ChangeAt Go.RowKit Go.Maps
open Go.WideMaps (keyOf_string_mk)
set_option linter.unusedVariables false

def seen (ns : List ByteArray) (s : ByteArray) : Bool := ns.any fun t => t.toList == s.toList
/-- All are names, and none comes twice. -/
def OkN (ns : List ByteArray) : Prop := ∀ j (h : j < ns.length), nameB ns[j] = true ∧ seen (ns.take j) ns[j] = false
/-- r is the first place of s, or -1. -/
def Fi (ns : List ByteArray) (s : ByteArray) (r : Int) : Prop := (r = -1 ∧ seen ns s = false) ∨ ∃ j, ∃ h : j < ns.length, r = j ∧ (ns[j].toList == s.toList) = true ∧ seen (ns.take j) s = false
theorem seen_take {ns : List ByteArray} {s : ByteArray} {k : Nat} (hk : k < ns.length) : seen (ns.take (k + 1)) s = (seen (ns.take k) s || (ns[k].toList == s.toList)) := by
  unfold seen; rw [List.take_succ_eq_append_getElem hk, List.any_append]; simp
theorem seen_of {ns : List ByteArray} {s : ByteArray} {k j : Nat} (hk : k < ns.length) (hj : k < j) (h : (ns[k].toList == s.toList) = true) : seen (ns.take j) s = true := by
  unfold seen
  rw [List.any_eq_true]
  exact ⟨ns[k], by rw [List.mem_take_iff_getElem]; exact ⟨k, by omega, rfl⟩, h⟩
theorem seen_of' {ns : List ByteArray} {s : ByteArray} {k : Nat} (hk : k < ns.length) (h : (ns[k].toList == s.toList) = true) : seen ns s = true := by
  unfold seen
  rw [List.any_eq_true]
  exact ⟨ns[k], List.getElem_mem hk, h⟩
theorem Fi.neg {ns : List ByteArray} {s : ByteArray} {r : Int} (h : Fi ns s r) : (r < 0 ∧ seen ns s = false) ∨ (¬ r < 0 ∧ seen ns s = true) := by
  rcases h with ⟨rfl, h⟩ | ⟨j, hj, rfl, h1, h2⟩
  · exact .inl ⟨by omega, h⟩
  · exact .inr ⟨by omega, seen_of' hj h1⟩
theorem Fi.at_ {ns : List ByteArray} {i : Nat} (hi : i < ns.length) {r : Int} (h : Fi ns ns[i] r) : (r = i ∧ seen (ns.take i) ns[i] = false) ∨ (r ≠ i ∧ seen (ns.take i) ns[i] = true) := by
  rcases h with ⟨rfl, h⟩ | ⟨j, hj, rfl, h1, h2⟩
  · have := seen_of' hi (s := ns[i]) (by simp)
    rw [h] at this; cases this
  · by_cases hji : j = i
    · subst hji; exact .inl ⟨rfl, h2⟩
    · by_cases hlt : j < i
      · exact .inr ⟨by omega, seen_of hj hlt h1⟩
      · have := seen_of (s := ns[i]) hi (show i < j by omega) (by simp)
        rw [h2] at this; cases this
theorem OkN.next {ns : List ByteArray} {k : Nat} (hk : k < ns.length) (h : ∀ j (hj : j < ns.length), j < k → nameB ns[j] = true ∧ seen (ns.take j) ns[j] = false) (h1 : nameB ns[k] = true) (h2 : seen (ns.take k) ns[k] = false) :
    ∀ j (hj : j < ns.length), j < k + 1 → nameB ns[j] = true ∧ seen (ns.take j) ns[j] = false := by
  intro j hj hlt
  by_cases hjk : j = k
  · subst hjk; exact ⟨h1, h2⟩
  · exact h j hj (by omega)

/-- A map that holds each of some names at its place. -/
def Held (w : World) (B : Nat) (ns : List ByteArray) : Prop := ∃ D : DataW Unit, w.ownsMap Try.prog 9 (plainElem Try.prog 3) B ns.length D ∧
  (∀ s : ByteArray, Maps.has D (.string s.toList) = seen ns s) ∧ ∀ i (h : i < ns.length), D.atKey (.string ns[i].toList) (.lit (.int .i64 0)) = .lit (.int .i64 i)
theorem law9 : Keyed Try.prog 9 := string_keyed Try.underlying9
theorem zero3 (w : World) : (zeroValue 3).run Try.prog w = .ok (.int .i64 0) w := by kernel_rfl
theorem key_of {s : ByteArray} (hs : s.size ≤ maxLen) : keyOf Try.prog 9 (.string s) = some (.string s.toList) := by
  rw [ByteArray.toList_eq]; exact keyOf_string_mk Try.underlying9 hs
theorem Held.lt {w : World} {B : Nat} {ns : List ByteArray} (h : Held w B ns) : B < w.heap.size := by
  obtain ⟨D, h, _⟩ := h
  exact h.lt
theorem Held.keep {w w' : World} {B C : Nat} {ns : List ByteArray} (h : Held w B ns) (hb : Below C w w') (hB : B < C) : Held w' B ns := by
  obtain ⟨D, ⟨es, clock, h1, h2⟩, h3⟩ := h
  exact ⟨D, ⟨es, clock, (hb.block B hB).trans h1, h2⟩, h3⟩
theorem Held.none (w : World) : Held (w.alloc (.map #[] 0)) w.heap.size [] :=
  ⟨.map [], World.ownsMap_made _ _ _ _, fun s => rfl, fun i h => by simp at h⟩
theorem key_ne {s t : ByteArray} (h : (t.toList == s.toList) = false) : Lit.string s.toList ≠ Lit.string t.toList := by
  intro e
  simp only [Lit.string.injEq] at e
  rw [e] at h; simp at h
theorem Held.put {w' : World} {B : Nat} {ns : List ByteArray} {t : ByteArray} {D : DataW Unit} (hD : IsMap D) (hn : seen ns t = false)
    (h1 : ∀ s : ByteArray, Maps.has D (.string s.toList) = seen ns s) (h2 : ∀ i (h : i < ns.length), D.atKey (.string ns[i].toList) (.lit (.int .i64 0)) = .lit (.int .i64 i))
    (h : w'.ownsMap Try.prog 9 (plainElem Try.prog 3) B (ns.length + 1) (D.put (.string t.toList) (.lit (.int .i64 ns.length)))) : Held w' B (ns ++ [t]) := by
  refine ⟨_, by rw [List.length_append]; exact h, fun s => ?_, fun i hi => ?_⟩
  · by_cases hs : (t.toList == s.toList) = true
    · have e : s.toList = t.toList := by simpa using (beq_iff_eq.1 hs).symm
      rw [e, has_put_same (k := .string t.toList) hD trivial]
      unfold seen; rw [List.any_append]; simp [e]
    · have hs : (t.toList == s.toList) = false := by simpa using hs
      rw [has_put_other (key_ne hs), h1]
      unfold seen; rw [List.any_append]; simp [hs]
  · by_cases hlt : i < ns.length
    · rw [List.getElem_append_left hlt]
      have hne : (t.toList == ns[i].toList) = false := by
        cases hc : (t.toList == ns[i].toList)
        · rfl
        · have := seen_of' hlt (s := t) (by rw [beq_iff_eq] at hc; simp [hc])
          rw [hn] at this; cases this
      rw [atKey_put_other (key_ne hne), h2 i hlt]
    · have hi' : i = ns.length := by simp at hi; omega
      subst hi'
      rw [List.getElem_append_right (Nat.le_refl _)]
      simp only [Nat.sub_self, List.getElem_cons_zero]
      rw [atKey_put_same (k := .string t.toList) hD trivial]

end Go.Proofs.Ytajjaddlalbnmaa.G
namespace Go.Proofs.Ytajjaddlalbnmaa.G
open Go.ChangeShapes Go.WideShapes Go.ChangeAt Go.RowKit Go.Maps
set_option linter.unusedVariables false

abbrev bQu : ByteArray := ⟨#[81, 117, 101, 114, 121]⟩
abbrev bIn : ByteArray := ⟨#[73, 110, 116]⟩
abbrev bTn : ByteArray := ⟨#[95, 95, 116, 121, 112, 101, 110, 97, 109, 101]⟩
def isIn (s : ByteArray) : Bool := s.toList == [73, 110, 116]
def FdOK (ts : List ByteArray) (f : Fd) : Prop := (isIn f.ty = true ∨ seen ts f.ty = true) ∧ f.args.length ≤ 4 ∧ OkN (f.args.map Ag.nm)
def TdOK (ts : List ByteArray) (x : Td) : Prop := 1 ≤ x.fs.length ∧ x.fs.length ≤ 10 ∧ OkN (x.fs.map Fd.nm) ∧ seen (x.fs.map Fd.nm) bTn = false ∧ ∀ f ∈ x.fs, FdOK ts f
def SchOK (l : List Td) : Prop := 1 ≤ l.length ∧ l.length ≤ 8 ∧ seen (l.map Td.nm) bQu = true ∧ seen (l.map Td.nm) bIn = false ∧ OkN (l.map Td.nm) ∧ ∀ x ∈ l, TdOK (l.map Td.nm) x
/-- What a Bool says. -/
def Bl (p : Prop) (b : Bool) : Prop := (b = true ∧ p) ∨ (b = false ∧ ¬ p)
theorem Bl.one {p : Prop} {a b : Bool} (h : Bl p a) (k : Bl p b) : a = b := by
  rcases h with ⟨rfl, h⟩ | ⟨rfl, h⟩ <;> rcases k with ⟨rfl, k⟩ | ⟨rfl, k⟩ <;> first | rfl | exact absurd h k | exact absurd k h
def Says (p : Prop) (e : Ending) : Prop := ∃ b, e = .returned (.bool b) ∧ Bl p b
theorem Says.yes {p : Prop} (h : p) : Says p (.returned (.bool true)) := ⟨_, rfl, .inl ⟨rfl, h⟩⟩
theorem Says.no {p : Prop} (h : ¬ p) : Says p (.returned (.bool false)) := ⟨_, rfl, .inr ⟨rfl, h⟩⟩
theorem size_bQu : bQu.size ≤ maxLen := by decide
theorem size_bIn : bIn.size ≤ maxLen := by decide
theorem size_bTn : bTn.size ≤ maxLen := by decide
theorem Bd_nm {m : Nat} {l : List Fd} (h : ∀ x ∈ l, FdBd m x) : ∀ x ∈ l, x.nm.size ≤ m := fun x hx => (h x hx).1
theorem Bd_nmT {m : Nat} {l : List Td} (h : ∀ x ∈ l, TdBd m x) : ∀ x ∈ l, x.nm.size ≤ m := fun x hx => (h x hx).1

end Go.Proofs.Ytajjaddlalbnmaa.G
namespace Go.Proofs.Ytajjaddlalbnmaa
open Go.ChangeShapes Go.WideShapes Go.ChangeAt Go.RowKit
set_option linter.unusedVariables false

def isTn (s : ByteArray) : Bool := s.toList == [95, 95, 116, 121, 112, 101, 110, 97, 109, 101]
def fdTn : G.Fd := ⟨G.bTn, [], G.bIn, false, false⟩
def fd0 : G.Fd := ⟨⟨#[]⟩, [], ⟨#[]⟩, false, false⟩
def td0 : G.Td := ⟨⟨#[]⟩, []⟩
def fldOf (t : G.Td) (n : ByteArray) : Option G.Fd := if isTn n = true then some fdTn else t.fs.find? fun f => f.nm.toList == n.toList
def tdIn (S : List G.Td) (n : ByteArray) : Option G.Td := S.find? fun t => t.nm.toList == n.toList
def dirB (x : Di) : Bool := (x.v.k == 2) || (x.v.k == 4)
def frOK (D : List De) (n tn : ByteArray) : Bool := match D.find? (isFr n) with
  | none => false
  | some f => f.on.toList == tn.toList
def inlOK (n tn : ByteArray) : Bool := (n.toList == []) || (n.toList == tn.toList)
def fitB (v : Va) (need : Bool) : Bool := (v.k == 1) || (v.k == 4) || ((v.k == 3) && !need)
def argB (f : G.Fd) (x : Ar) : Bool := f.args.any fun d => (d.nm.toList == x.nm.toList) && fitB x.v d.need
def seenA (l : List Ar) (n : ByteArray) : Bool := l.any fun a => a.nm.toList == n.toList
def argsN (f : G.Fd) : List Ar → List Ar → Bool
  | _, [] => true
  | ahead, x :: l => !seenA ahead x.nm && argB f x && argsN f (ahead ++ [x]) l
def needsB (f : G.Fd) (l : List Ar) : Bool := f.args.all fun d => !d.need || seenA l d.nm
/-- A field's own code. -/
def fldC (f : G.Fd) (args : List Ar) (none : Bool) : Int :=
  if argsN f [] args = false then 10 else if needsB f args = false then 10 else if (G.isIn f.ty != none) = true then 11 else 0
/-- One selection's code, without what is in it. -/
def selC (D : List De) (t : G.Td) (h : Hd) (none : Bool) : Int :=
  if h.dirs.all dirB = false then 10
  else if (h.k == 2) = true then (if frOK D h.nm t.nm = true then 0 else 12)
  else if (h.k == 3) = true then (if inlOK h.nm t.nm = true then 0 else 12)
  else match fldOf t h.nm with
    | Option.none => 9
    | some f => fldC f h.args none
/-- The type of what is in a selection. -/
def inT (S : List G.Td) (t : G.Td) (h : Hd) : G.Td := if (h.k == 1) = true then (match fldOf t h.nm with
    | Option.none => td0
    | some f => (tdIn S f.ty).getD td0) else t
def setC (S : List G.Td) (D : List De) : G.Td → Sels → Int
  | _, .nil => 0
  | t, .cons h sub rest => if selC D t h sub.isNil = 0 then (if setC S D (inT S t h) sub = 0 then setC S D t rest else setC S D (inT S t h) sub) else selC D t h sub.isNil
def tyNm (x : De) : ByteArray := if x.k = 1 then ⟨#[81, 117, 101, 114, 121]⟩ else if x.k = 2 then ⟨#[77, 117, 116, 97, 116, 105, 111, 110]⟩ else x.on
def defC (S : List G.Td) (D : List De) (x : De) : Int := match tdIn S (tyNm x) with
  | none => 12
  | some t => setC S D t x.sels
def docC (S : List G.Td) (D : List De) : List De → Int
  | [] => 0
  | x :: l => if defC S D x = 0 then docC S D l else defC S D x
/-- Each of the fragments by name is the first of its name. -/
theorem frs_find (l : List De) : ∀ x ∈ frsOf l, l.find? (isFr x.nm) = some x := by
  refine foldl_snoc_ind (P := fun l => ∀ x ∈ frsOf l, l.find? (isFr x.nm) = some x) (by simp [frsOf]) ?_ l
  intro l y ih x hx
  rw [frs_snoc] at hx
  rw [List.find?_append]
  unfold addFr at hx
  split at hx
  · rename_i hc
    rcases List.mem_append.1 hx with hx | hx
    · rw [ih x hx]; rfl
    · simp only [List.mem_singleton] at hx
      subst hx
      simp only [Bool.and_eq_true, Bool.not_eq_true'] at hc
      have h0 : l.find? (isFr x.nm) = none := by
        rw [List.find?_eq_none]
        intro z hz hf
        have h1 := frs_any l x.nm
        rw [hc.2] at h1
        have : l.any (isFr x.nm) = true := List.any_eq_true.2 ⟨z, hz, hf⟩
        rw [← h1] at this; cases this
      rw [h0]
      have : isFr x.nm x = true := by unfold isFr; rw [hc.1]; simp
      simp [this]
  · rw [ih x hx]; rfl
theorem frs_none {l : List De} {n : ByteArray} (h : hasNm (frsOf l) n = false) : l.find? (isFr n) = none := by
  rw [List.find?_eq_none]
  intro z hz hf
  rw [frs_any] at h
  have : l.any (isFr n) = true := List.any_eq_true.2 ⟨z, hz, hf⟩
  rw [h] at this; cases this
theorem isFr_same {x : De} {n : ByteArray} (h : (x.nm.toList == n.toList) = true) : isFr x.nm = isFr n := by
  rw [beq_iff_eq] at h
  funext z; unfold isFr; rw [h]
end Go.Proofs.Ytajjaddlalbnmaa
