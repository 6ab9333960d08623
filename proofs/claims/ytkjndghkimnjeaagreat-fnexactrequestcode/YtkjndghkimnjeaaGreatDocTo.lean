/- What the law copies of a document: values, arguments, directives. -/
import Derived.Test.YtkjndghkimnjeaaGreatDocVal
namespace Go.Proofs.YtkjndghkimnjeaaGreat
open Go.ChangeShapes Go.WideShapes Go.ChangeAt Go.RowKit
set_option linter.unusedVariables false

def SelFrom (lo hi : Nat) (w : World) (a : Option Addr) (k : Nat) (l : Sels) : Prop :=
  l = .nil ∨ ∃ b o, a = some ⟨b, o, none⟩ ∧ lo ≤ b ∧ b < hi ∧ SelPre lo hi w l (rdOf w b) (o + k * 6) l.len
theorem SelRow.from_ {lo hi : Nat} {w : World} {a : Option Addr} {l : Sels} (h : SelRow lo hi w a l) : SelFrom lo hi w a 0 l := by
  rcases h with h | ⟨b, o, rfl, h1, h2, h3⟩
  · exact .inl h
  · exact .inr ⟨b, o, rfl, h1, h2, by simpa using h3⟩
theorem SelFrom.keep {lo hi : Nat} {w w' : World} {a : Option Addr} {k : Nat} {l : Sels} (h : SelFrom lo hi w a k l) (hk : Agree lo hi w w') : SelFrom lo hi w' a k l := by
  rcases h with h | ⟨b, o, rfl, h1, h2, h3⟩
  · exact .inl h
  · exact .inr ⟨b, o, rfl, h1, h2, by rw [hk.rd h1 h2]; exact h3.keep hk⟩
theorem SelFrom.wide {lo hi lo' hi' : Nat} {w : World} {a : Option Addr} {k : Nat} {l : Sels} (h : SelFrom lo hi w a k l) (e1 : lo' ≤ lo) (e2 : hi ≤ hi') : SelFrom lo' hi' w a k l := by
  rcases h with h | ⟨b, o, rfl, h1, h2, h3⟩
  · exact .inl h
  · exact .inr ⟨b, o, rfl, by omega, by omega, h3.wide e1 e2⟩
/-- The k-th selection's cells, its lists, and the rest. -/
theorem SelFrom.step_cap {lo hi : Nat} {w : World} {a : Option Addr} {k : Nat} {h : Hd} {sub rest : Sels} (H : SelFrom lo hi w a k (.cons h sub rest)) :
    ∃ b o a1 c1 a2 c2 a3 c3, a = some ⟨b, o, none⟩ ∧ lo ≤ b ∧ b < hi ∧ w.cell? ⟨b, o + k * 6, none⟩ = some (.int .i64 h.k) ∧ w.cell? ⟨b, o + k * 6 + 1, none⟩ = some (.string h.al) ∧ w.cell? ⟨b, o + k * 6 + 2, none⟩ = some (.string h.nm) ∧
      w.cell? ⟨b, o + k * 6 + 3, none⟩ = some (.slice a1 h.args.length c1) ∧ w.cell? ⟨b, o + k * 6 + 4, none⟩ = some (.slice a2 h.dirs.length c2) ∧ w.cell? ⟨b, o + k * 6 + 5, none⟩ = some (.slice a3 sub.len c3) ∧
      ArRow lo hi w a1 h.args ∧ DiRow lo hi w a2 h.dirs ∧ SelRow lo hi w a3 sub ∧ SelFrom lo hi w a (k + 1) rest ∧ h.args.length ≤ c1 := by
  rcases H with H | ⟨b, o, rfl, h1, h2, h3⟩
  · cases H
  · obtain ⟨⟨p0, p1, p2, ⟨a1, c1, p3, hq, q3⟩, ⟨a2, c2, p4, q4⟩⟩, ⟨a3, c3, p5, q5⟩, p6⟩ := h3.head
    refine ⟨b, o, a1, c1, a2, c2, a3, c3, rfl, h1, h2, p0, p1, p2, p3, p4, p5, q3, q4, q5, ?_, hq⟩
    exact .inr ⟨b, o, rfl, h1, h2, by rw [show o + (k + 1) * 6 = o + k * 6 + 6 by omega]; exact p6⟩
theorem SelFrom.step {lo hi : Nat} {w : World} {a : Option Addr} {k : Nat} {h : Hd} {sub rest : Sels} (H : SelFrom lo hi w a k (.cons h sub rest)) :
    ∃ b o a1 c1 a2 c2 a3 c3, a = some ⟨b, o, none⟩ ∧ lo ≤ b ∧ b < hi ∧ w.cell? ⟨b, o + k * 6, none⟩ = some (.int .i64 h.k) ∧ w.cell? ⟨b, o + k * 6 + 1, none⟩ = some (.string h.al) ∧ w.cell? ⟨b, o + k * 6 + 2, none⟩ = some (.string h.nm) ∧
      w.cell? ⟨b, o + k * 6 + 3, none⟩ = some (.slice a1 h.args.length c1) ∧ w.cell? ⟨b, o + k * 6 + 4, none⟩ = some (.slice a2 h.dirs.length c2) ∧ w.cell? ⟨b, o + k * 6 + 5, none⟩ = some (.slice a3 sub.len c3) ∧
      ArRow lo hi w a1 h.args ∧ DiRow lo hi w a2 h.dirs ∧ SelRow lo hi w a3 sub ∧ SelFrom lo hi w a (k + 1) rest := by
  obtain ⟨b, o, a1, c1, a2, c2, a3, c3, x0, x1, x2, x3, x4, x5, x6, x7, x8, x9, y0, y1, y2, _⟩ := H.step_cap
  exact ⟨b, o, a1, c1, a2, c2, a3, c3, x0, x1, x2, x3, x4, x5, x6, x7, x8, x9, y0, y1, y2⟩
theorem SelFrom.next {lo hi : Nat} {w : World} {a : Option Addr} {k : Nat} {h : Hd} {sub rest : Sels} (H : SelFrom lo hi w a k (.cons h sub rest)) : SelFrom lo hi w a (k + 1) rest := by
  obtain ⟨_, _, _, _, _, _, _, _, _, _, _, _, _, _, _, _, _, _, _, _, hf⟩ := H.step
  exact hf
theorem Row.cells_ar {lo hi : Nat} {w : World} {a : Option Addr} {l : List Ar} (h : ArRow lo hi w a l) (k : Nat) (hk : k < l.length) :
    ∃ b o, a = some ⟨b, o, none⟩ ∧ lo ≤ b ∧ b < hi ∧ w.cell? ⟨b, o + k * 4, none⟩ = some (.string l[k].nm) ∧ w.cell? ⟨b, o + k * 4 + 1, none⟩ = some (.int .i64 l[k].v.k) ∧ w.cell? ⟨b, o + k * 4 + 2, none⟩ = some (.int .i64 l[k].v.n) ∧ w.cell? ⟨b, o + k * 4 + 3, none⟩ = some (.string l[k].v.t) := by
  obtain ⟨b, o, h1, h2, h3, h4, h5, h6, h7⟩ := h.at_ k hk
  exact ⟨b, o, h1, h2, h3, h4, h5, h6, h7⟩
theorem Row.cells_di {lo hi : Nat} {w : World} {a : Option Addr} {l : List Di} (h : DiRow lo hi w a l) (k : Nat) (hk : k < l.length) :
    ∃ b o, a = some ⟨b, o, none⟩ ∧ lo ≤ b ∧ b < hi ∧ w.cell? ⟨b, o + k * 4, none⟩ = some (.bool l[k].sk) ∧ w.cell? ⟨b, o + k * 4 + 1, none⟩ = some (.int .i64 l[k].v.k) ∧ w.cell? ⟨b, o + k * 4 + 2, none⟩ = some (.int .i64 l[k].v.n) ∧ w.cell? ⟨b, o + k * 4 + 3, none⟩ = some (.string l[k].v.t) := by
  obtain ⟨b, o, h1, h2, h3, h4, h5, h6, h7⟩ := h.at_ k hk
  exact ⟨b, o, h1, h2, h3, h4, h5, h6, h7⟩
theorem DeRow.cells {lo hi : Nat} {w : World} {a : Option Addr} {l : List De} (h : DeRow lo hi w a l) (k : Nat) (hk : k < l.length) :
    ∃ b o a3 c3, a = some ⟨b, o, none⟩ ∧ lo ≤ b ∧ b < hi ∧ w.cell? ⟨b, o + k * 4, none⟩ = some (.int .i64 l[k].k) ∧ w.cell? ⟨b, o + k * 4 + 1, none⟩ = some (.string l[k].nm) ∧ w.cell? ⟨b, o + k * 4 + 2, none⟩ = some (.string l[k].on) ∧ w.cell? ⟨b, o + k * 4 + 3, none⟩ = some (.slice a3 l[k].sels.len c3) ∧ SelRow lo hi w a3 l[k].sels := by
  obtain ⟨b, o, h1, h2, h3, h4, h5, h6, ⟨a3, c3, h7, h8⟩⟩ := Row.at_ h k hk
  exact ⟨b, o, a3, c3, h1, h2, h3, h4, h5, h6, h7, h8⟩
/-- Rows in old memory stay behind a call. -/
theorem Row.up {α : Type} {at_ : (Nat → Option Value) → Nat → α → Prop} {z : Nat} {w w' : World} {a : Option Addr} {l : List α} (h : Row at_ z 0 w.heap.size w a l) (hb : Below w.heap.size w w') : Row at_ z 0 w'.heap.size w' a l :=
  (h.keep (Below.agree hb (Nat.le_refl _))).wide (Nat.le_refl _) hb.size
theorem SelRow.up {w w' : World} {a : Option Addr} {l : Sels} (h : SelRow 0 w.heap.size w a l) (hb : Below w.heap.size w w') : SelRow 0 w'.heap.size w' a l :=
  (h.keep (Below.agree hb (Nat.le_refl _))).wide (Nat.le_refl _) hb.size
theorem SelFrom.up {w w' : World} {a : Option Addr} {k : Nat} {l : Sels} (h : SelFrom 0 w.heap.size w a k l) (hb : Below w.heap.size w w') : SelFrom 0 w'.heap.size w' a k l :=
  (h.keep (Below.agree hb (Nat.le_refl _))).wide (Nat.le_refl _) hb.size
theorem DeRow.up {w w' : World} {a : Option Addr} {l : List De} (h : DeRow 0 w.heap.size w a l) (hb : Below w.heap.size w w') : DeRow 0 w'.heap.size w' a l :=
  (h.keep (Below.agree hb (Nat.le_refl _))).wide (Nat.le_refl _) hb.size
end Go.Proofs.YtkjndghkimnjeaaGreat
namespace Go.Proofs.YtkjndghkimnjeaaGreat
open Go.ChangeShapes Go.WideShapes Go.ChangeAt Go.RowKit
set_option linter.unusedVariables false

theorem Sz.mono {n n' m : Int} {p q : Prop} (h : Sz n m p) (hn : n ≤ n') (hp : p → q) : Sz n' m q := ⟨by have := h.1; omega, h.2.1, fun h0 => hp (h.2.2 h0)⟩
theorem Sz.neg {n : Int} {p : Prop} (h : 0 ≤ n) : Sz n (-1) p := ⟨by omega, by omega, fun h => by omega⟩

set_option maxHeartbeats 1000000 in
theorem sz_arg (x : Ar) (n : Int) (w : World) (hs : ArBd maxLen x) (h0 : 0 ≤ n) (h1 : n ≤ 1048576) :
    Calls Tryz.prog 152 #[.agg #[.string x.nm, .int .i64 x.v.k, .int .i64 x.v.n, .string x.v.t], .int .i64 n] w fun e w' => ∃ m, e = .returned (.int .i64 m) ∧ Sz n m (ArBd 1048576 x) ∧ Below w.heap.size w w' := by
  obtain ⟨nm, a, b, s⟩ := x
  obtain ⟨hs1, hs2⟩ := hs
  simp only at hs1 hs2 ⊢
  have hs1' := hs1
  unfold maxLen at hs1'
  by_cases h : n - nm.size < 0
  · go_enter Tryz.func152, Tryz.ntmps152
    go_wp2_with fail
    go_ret
    exact ⟨-1, rfl, Sz.neg h0, (Below.refl _ _).alloc (Nat.le_refl _) _⟩
  · go_enter Tryz.func152, Tryz.ntmps152
    go_wp2_with fail
    refine (sz_val ⟨a, b, s⟩ _ _ hs2 (by omega) (by omega)).mono ?_
    rintro e w1 ⟨m, rfl, hm, hb1⟩
    have HM : Hid (Sz n m (ArBd 1048576 ⟨nm, a, b, s⟩)) := hm.mono (by omega) (fun h => ⟨by simp only; omega, h⟩)
    clear hm
    have q1 : Below w.heap.size w w1 := ((Below.refl _ _).alloc (Nat.le_refl _) _).trans (hb1.mono (by simp))
    by_cases hneg : m < 0
    · go_wp2_with fail
      go_ret
      exact ⟨-1, rfl, Sz.neg h0, q1⟩
    · go_wp2_with fail
      go_ret
      exact ⟨m, rfl, HM.out, q1⟩
set_option maxHeartbeats 1000000 in
theorem sz_dir (x : Di) (n : Int) (w : World) (hs : DiBd maxLen x) (h0 : 0 ≤ n) (h1 : n ≤ 1048576) :
    Calls Tryz.prog 153 #[.agg #[.bool x.sk, .int .i64 x.v.k, .int .i64 x.v.n, .string x.v.t], .int .i64 n] w fun e w' => ∃ m, e = .returned (.int .i64 m) ∧ Sz n m (DiBd 1048576 x) ∧ Below w.heap.size w w' := by
  obtain ⟨sk, a, b, s⟩ := x
  unfold DiBd at hs ⊢
  simp only at hs ⊢
  go_enter Tryz.func153, Tryz.ntmps153
  go_wp2_with fail
  refine (sz_val ⟨a, b, s⟩ _ _ hs (by omega) (by omega)).mono ?_
  rintro e w1 ⟨m, rfl, hm, hb1⟩
  have HM : Hid (Sz n m (s.size ≤ 1048576)) := hm
  clear hm
  have q1 : Below w.heap.size w w1 := ((Below.refl _ _).alloc (Nat.le_refl _) _).trans (hb1.mono (by simp))
  by_cases hneg : m < 0
  · go_wp2_with fail
    go_ret
    exact ⟨-1, rfl, Sz.neg h0, q1⟩
  · go_wp2_with fail
    go_ret
    exact ⟨m, rfl, HM.out, q1⟩
theorem all_take {α : Type} {p : α → Prop} {l : List α} {k : Nat} (hk : k < l.length) (h : ∀ x ∈ l.take k, p x) (h2 : p l[k]) : ∀ x ∈ l.take (k + 1), p x := by
  rw [List.take_succ_eq_append_getElem hk]
  intro x hx
  rcases List.mem_append.1 hx with hx | hx
  · exact h x hx
  · simp only [List.mem_singleton] at hx; subst hx; exact h2
set_option maxHeartbeats 1000000 in
theorem sz_args (a : Option Addr) (c : Nat) (l : List Ar) (n : Int) (w : World) (hr : ArRow 0 w.heap.size w a l) (hl : l.length ≤ maxLen) (ht : ∀ x ∈ l, ArBd maxLen x) (h0 : 0 ≤ n) (h1 : n ≤ 1048576) :
    Calls Tryz.prog 137 #[.slice a l.length c, .int .i64 n] w fun e w' => ∃ m, e = .returned (.int .i64 m) ∧ Sz n m (l.length ≤ 1048576 ∧ ∀ x ∈ l, ArBd 1048576 x) ∧ Below w.heap.size w w' := by
  unfold maxLen at hl
  by_cases hz : n - l.length < 0
  · go_enter Tryz.func137, Tryz.ntmps137
    go_wp2_with fail
    go_ret
    exact ⟨-1, rfl, Sz.neg h0, Below.refl _ _⟩
  · have HR : Hid (ArRow 0 w.heap.size w a l) := hr
    have HT : Hid (∀ x ∈ l, ArBd maxLen x) := ht
    clear hr ht
    go_enter Tryz.func137, Tryz.ntmps137
    go_wp2_with fail
    go_loopw [1, 5] (fun r i w' => ∃ (k : Nat) (m : Int), k ≤ l.length ∧ i = .int .i64 k ∧ r = .int .i64 m ∧ 0 ≤ m ∧ m ≤ n ∧ Below w.heap.size w w' ∧ Hid (∀ x ∈ l.take k, ArBd 1048576 x)) (fun _ i _ => l.length - (intOf i).toNat)
    case atStart => exact ⟨0, _, by omega, rfl, rfl, by omega, by omega, Below.refl _ _, by simp [Hid]⟩
    case round =>
      rename_i wr
      obtain ⟨k, m, hk, rfl, rfl, hm0, hm1, hb, HK⟩ := hrel
      by_cases hlt : k < l.length
      · obtain ⟨b, o, ha, _, hbl, c0, c1, c2, c3⟩ := (HR.out.keep (Below.agree hb (Nat.le_refl _))).cells_ar k hlt
        subst ha
        have HX : Hid (ArBd maxLen l[k]) := HT.out l[k] (List.getElem_mem hlt)
        go_wp2_with fail
        refine (sz_arg l[k] m _ HX.out hm0 (by omega)).mono ?_
        rintro e w1 ⟨m1, rfl, hm, hb1⟩
        have HM : Hid (Sz m m1 (ArBd 1048576 l[k])) := hm
        clear hm c0 c1 c2 c3
        by_cases hneg : m1 < 0
        · go_wp2_with fail
          go_ret
          exact ⟨-1, rfl, Sz.neg h0, hb.trans (hb1.mono hb.size)⟩
        · go_wp2_with fail
          go_roundw
          case rel => exact ⟨k + 1, m1, by omega, by go_num, rfl, by omega, by have := HM.out.1; omega, hb.trans (hb1.mono hb.size), all_take hlt HK.out (HM.out.2.2 (by omega))⟩
          case measure => simp [intOf]; omega
      · go_wp2_with fail
        go_ret
        rw [List.take_of_length_le (by omega)] at HK
        exact ⟨m, rfl, ⟨hm1, by omega, fun _ => ⟨by omega, HK.out⟩⟩, hb⟩
set_option maxHeartbeats 1000000 in
theorem sz_dirs (a : Option Addr) (c : Nat) (l : List Di) (n : Int) (w : World) (hr : DiRow 0 w.heap.size w a l) (hl : l.length ≤ maxLen) (ht : ∀ x ∈ l, DiBd maxLen x) (h0 : 0 ≤ n) (h1 : n ≤ 1048576) :
    Calls Tryz.prog 138 #[.slice a l.length c, .int .i64 n] w fun e w' => ∃ m, e = .returned (.int .i64 m) ∧ Sz n m (l.length ≤ 1048576 ∧ ∀ x ∈ l, DiBd 1048576 x) ∧ Below w.heap.size w w' := by
  unfold maxLen at hl
  by_cases hz : n - l.length < 0
  · go_enter Tryz.func138, Tryz.ntmps138
    go_wp2_with fail
    go_ret
    exact ⟨-1, rfl, Sz.neg h0, Below.refl _ _⟩
  · have HR : Hid (DiRow 0 w.heap.size w a l) := hr
    have HT : Hid (∀ x ∈ l, DiBd maxLen x) := ht
    clear hr ht
    go_enter Tryz.func138, Tryz.ntmps138
    go_wp2_with fail
    go_loopw [1, 5] (fun r i w' => ∃ (k : Nat) (m : Int), k ≤ l.length ∧ i = .int .i64 k ∧ r = .int .i64 m ∧ 0 ≤ m ∧ m ≤ n ∧ Below w.heap.size w w' ∧ Hid (∀ x ∈ l.take k, DiBd 1048576 x)) (fun _ i _ => l.length - (intOf i).toNat)
    case atStart => exact ⟨0, _, by omega, rfl, rfl, by omega, by omega, Below.refl _ _, by simp [Hid]⟩
    case round =>
      rename_i wr
      obtain ⟨k, m, hk, rfl, rfl, hm0, hm1, hb, HK⟩ := hrel
      by_cases hlt : k < l.length
      · obtain ⟨b, o, ha, _, hbl, c0, c1, c2, c3⟩ := (HR.out.keep (Below.agree hb (Nat.le_refl _))).cells_di k hlt
        subst ha
        have HX : Hid (DiBd maxLen l[k]) := HT.out l[k] (List.getElem_mem hlt)
        go_wp2_with fail
        refine (sz_dir l[k] m _ HX.out hm0 (by omega)).mono ?_
        rintro e w1 ⟨m1, rfl, hm, hb1⟩
        have HM : Hid (Sz m m1 (DiBd 1048576 l[k])) := hm
        clear hm c0 c1 c2 c3
        by_cases hneg : m1 < 0
        · go_wp2_with fail
          go_ret
          exact ⟨-1, rfl, Sz.neg h0, hb.trans (hb1.mono hb.size)⟩
        · go_wp2_with fail
          go_roundw
          case rel => exact ⟨k + 1, m1, by omega, by go_num, rfl, by omega, by have := HM.out.1; omega, hb.trans (hb1.mono hb.size), all_take hlt HK.out (HM.out.2.2 (by omega))⟩
          case measure => simp [intOf]; omega
      · go_wp2_with fail
        go_ret
        rw [List.take_of_length_le (by omega)] at HK
        exact ⟨m, rfl, ⟨hm1, by omega, fun _ => ⟨by omega, HK.out⟩⟩, hb⟩
end Go.Proofs.YtkjndghkimnjeaaGreat
namespace Go.Proofs.YtkjndghkimnjeaaGreat
open Go.ChangeShapes Go.WideShapes Go.ChangeAt Go.RowKit
set_option linter.unusedVariables false

theorem row_cell {w : World} {N : Nat} {e : TypeId} {cs : Array Value} (h : w.heap[N]? = some (.cells cs e (0, 0))) (j : Nat) : w.cell? ⟨N, j, none⟩ = cs[j]? := cell_of_row w N j cs e _ h
theorem row_frozen {w : World} {N : Nat} {e : TypeId} {cs : Array Value} (h : w.heap[N]? = some (.cells cs e (0, 0))) (j : Nat) : w.frozen? ⟨N, j, none⟩ = false := by
  simp [World.frozen?, h]
theorem row_set {w : World} {N : Nat} {e : TypeId} {cs : Array Value} (h : w.heap[N]? = some (.cells cs e (0, 0))) (j : Nat) (v : Value) : (w.setCell ⟨N, j, none⟩ v).heap[N]? = some (.cells (cs.setIfInBounds j v) e (0, 0)) := by
  rw [setCell_eq_setRow w N j cs e _ v h]; exact setRow_heap w N cs _ e _ h
theorem row_rd {w : World} {N : Nat} {e : TypeId} {cs : Array Value} (h : w.heap[N]? = some (.cells cs e (0, 0))) : rdOf w N = fun j => cs[j]? := by
  funext j; exact row_cell h j
theorem Agree.setCell {lo hi : Nat} {w : World} {p : Addr} {v : Value} (h : p.block < lo) : Agree lo hi w (w.setCell p v) := fun g h1 _ => Below.heap_setCell _ _ _ _ (by omega)
theorem Agree.trans {lo hi : Nat} {w w1 w2 : World} (h : Agree lo hi w w1) (h' : Agree lo hi w1 w2) : Agree lo hi w w2 := fun g h1 h2 => (h' g h1 h2).trans (h g h1 h2)

set_option maxHeartbeats 1000000 in
theorem to_arg (x : Ar) (w : World) :
    Calls Tryz.prog 155 #[.agg #[.string x.nm, .int .i64 x.v.k, .int .i64 x.v.n, .string x.v.t]] w fun e w' => e = .returned (.agg #[.string x.nm, .int .i64 x.v.k, .int .i64 x.v.n, .string x.v.t]) ∧ Below w.heap.size w w' := by
  go_enter Tryz.func155, Tryz.ntmps155
  go_wp2_with fail
  refine (to_val _ _ _ _).mono ?_
  rintro e w1 ⟨rfl, hb1⟩
  obtain ⟨hc1, hf1⟩ := bcell hb1
  have k1 := fun o => hc1 (w.heap.size + 1) o (by simp)
  have k2 := fun o => hc1 (w.heap.size + 1 + 1) o (by simp)
  have hz1 := hb1.size
  have q1 : Below w.heap.size w w1 := by
    refine Below.trans ?_ (hb1.mono (by simp; omega))
    repeat (first | exact Below.refl _ _ | refine Below.setCell ?_ (by simp <;> omega) _ | refine Below.alloc ?_ (by simp <;> omega) _)
  go_wp2_with fail
  refine bodyPost_ret (v := .agg #[.string x.nm, .int .i64 x.v.k, .int .i64 x.v.n, .string x.v.t]) (by simp [results, Tryz.results155, go_sem, k1]) rfl ⟨rfl, ?_⟩
  repeat (refine Below.setCell ?_ (by simp <;> omega) _)
  exact q1
set_option maxHeartbeats 1000000 in
theorem to_dir (x : Di) (w : World) :
    Calls Tryz.prog 156 #[.agg #[.bool x.sk, .int .i64 x.v.k, .int .i64 x.v.n, .string x.v.t]] w fun e w' => e = .returned (.agg #[.bool x.sk, .int .i64 x.v.k, .int .i64 x.v.n, .string x.v.t]) ∧ Below w.heap.size w w' := by
  go_enter Tryz.func156, Tryz.ntmps156
  go_wp2_with fail
  refine (to_val _ _ _ _).mono ?_
  rintro e w1 ⟨rfl, hb1⟩
  obtain ⟨hc1, hf1⟩ := bcell hb1
  have k1 := fun o => hc1 (w.heap.size + 1) o (by simp)
  have k2 := fun o => hc1 (w.heap.size + 1 + 1) o (by simp)
  have hz1 := hb1.size
  have q1 : Below w.heap.size w w1 := by
    refine Below.trans ?_ (hb1.mono (by simp; omega))
    repeat (first | exact Below.refl _ _ | refine Below.setCell ?_ (by simp <;> omega) _ | refine Below.alloc ?_ (by simp <;> omega) _)
  go_wp2_with fail
  refine bodyPost_ret (v := .agg #[.bool x.sk, .int .i64 x.v.k, .int .i64 x.v.n, .string x.v.t]) (by simp [results, Tryz.results156, go_sem, k1]) rfl ⟨rfl, ?_⟩
  repeat (refine Below.setCell ?_ (by simp <;> omega) _)
  exact q1

/-- The first k of a row are laid. -/
def LaidR {α : Type} (at_ : (Nat → Option Value) → Nat → α → Prop) (z : Nat) (cs : Array Value) (l : List α) (k : Nat) : Prop := ∀ i x, i < k → l[i]? = some x → at_ (fun j => cs[j]?) (i * z) x
def put4 (cs : Array Value) (k : Nat) (v0 v1 v2 v3 : Value) : Array Value := (((cs.setIfInBounds k v0).setIfInBounds (k + 1) v1).setIfInBounds (k + 2) v2).setIfInBounds (k + 3) v3
theorem put4_size (cs : Array Value) (k : Nat) (v0 v1 v2 v3 : Value) : (put4 cs k v0 v1 v2 v3).size = cs.size := by simp [put4]
theorem put4_at {cs : Array Value} {k : Nat} {v0 v1 v2 v3 : Value} (h : k + 3 < cs.size) : (put4 cs k v0 v1 v2 v3)[k]? = some v0 ∧ (put4 cs k v0 v1 v2 v3)[k + 1]? = some v1 ∧ (put4 cs k v0 v1 v2 v3)[k + 2]? = some v2 ∧ (put4 cs k v0 v1 v2 v3)[k + 3]? = some v3 := by
  unfold put4
  refine ⟨?_, ?_, ?_, ?_⟩ <;> simp [Array.getElem?_setIfInBounds] <;> omega
theorem put4_else {cs : Array Value} {k : Nat} {v0 v1 v2 v3 : Value} {j : Nat} (h : j < k) : (put4 cs k v0 v1 v2 v3)[j]? = cs[j]? := by
  unfold put4
  rw [Array.getElem?_setIfInBounds_ne (by omega), Array.getElem?_setIfInBounds_ne (by omega), Array.getElem?_setIfInBounds_ne (by omega), Array.getElem?_setIfInBounds_ne (by omega)]
theorem LaidR.put_ar {cs : Array Value} {l : List Ar} {k : Nat} (h : LaidR ArAt 4 cs l k) (hk : k < l.length) (hs : cs.size = l.length * 4) : LaidR ArAt 4 (put4 cs (k * 4) (.string l[k].nm) (.int .i64 l[k].v.k) (.int .i64 l[k].v.n) (.string l[k].v.t)) l (k + 1) := by
  intro i x hi hx
  by_cases hik : i = k
  · subst hik
    rw [List.getElem?_eq_getElem hk] at hx
    simp only [Option.some.injEq] at hx
    subst hx
    exact put4_at (by omega)
  · obtain ⟨c0, c1, c2, c3⟩ := h i x (by omega) hx
    exact ⟨(put4_else (by omega)).trans c0, (put4_else (by omega)).trans c1, (put4_else (by omega)).trans c2, (put4_else (by omega)).trans c3⟩
theorem LaidR.put_di {cs : Array Value} {l : List Di} {k : Nat} (h : LaidR DiAt 4 cs l k) (hk : k < l.length) (hs : cs.size = l.length * 4) : LaidR DiAt 4 (put4 cs (k * 4) (.bool l[k].sk) (.int .i64 l[k].v.k) (.int .i64 l[k].v.n) (.string l[k].v.t)) l (k + 1) := by
  intro i x hi hx
  by_cases hik : i = k
  · subst hik
    rw [List.getElem?_eq_getElem hk] at hx
    simp only [Option.some.injEq] at hx
    subst hx
    exact put4_at (by omega)
  · obtain ⟨c0, c1, c2, c3⟩ := h i x (by omega) hx
    exact ⟨(put4_else (by omega)).trans c0, (put4_else (by omega)).trans c1, (put4_else (by omega)).trans c2, (put4_else (by omega)).trans c3⟩
theorem LaidR.row {α : Type} {at_ : (Nat → Option Value) → Nat → α → Prop} {z : Nat} {w : World} {N lo : Nat} {e : TypeId} {cs : Array Value} {l : List α} (h : w.heap[N]? = some (.cells cs e (0, 0))) (hl : LaidR at_ z cs l l.length) (hlo : lo ≤ N) : Row at_ z lo w.heap.size w (some ⟨N, 0, none⟩) l := by
  refine .inr ⟨N, 0, rfl, hlo, (Array.getElem?_eq_some_iff.1 h).1, fun i x hx => ?_⟩
  have hi : i < l.length := (List.getElem?_eq_some_iff.1 hx).1
  rw [row_rd h, Nat.zero_add]
  exact hl i x hi hx

set_option maxRecDepth 100000 in
theorem info_ar : ∃ i, Tryz.prog.info? 134 = some i ∧ i.zero = some (.agg #[.string ⟨#[]⟩, .int .i64 0, .int .i64 0, .string ⟨#[]⟩]) ∧ i.size = 4 ∧ i.bytes = 48 := by
  refine ⟨_, rfl, ?_, ?_, ?_⟩ <;> kernel_rfl
set_option maxRecDepth 100000 in
theorem info_di : ∃ i, Tryz.prog.info? 136 = some i ∧ i.zero = some (.agg #[.bool false, .int .i64 0, .int .i64 0, .string ⟨#[]⟩]) ∧ i.size = 4 ∧ i.bytes = 40 := by
  refine ⟨_, rfl, ?_, ?_, ?_⟩ <;> kernel_rfl
set_option maxHeartbeats 1000000 in
theorem to_args (a : Option Addr) (c : Nat) (l : List Ar) (w : World) (hr : ArRow 0 w.heap.size w a l) (hl : l.length ≤ 1048576) :
    Calls Tryz.prog 141 #[.slice a l.length c] w fun e w' => ∃ a' c', e = .returned (.slice a' l.length c') ∧ ArRow w.heap.size w'.heap.size w' a' l ∧ l.length ≤ c' ∧ Below w.heap.size w w' := by
  have HR : Hid (ArRow 0 w.heap.size w a l) := hr
  clear hr
  obtain ⟨i27, hi, hz, hsz, hby⟩ := info_ar
  have hmk := run_make (P := Tryz.prog) w 112 134 i27 _ Tryz.underlying112 hi hz .i64 .i64 (l.length : Int) (l.length : Int) (by omega) (by omega) (by rw [hby]; omega) (by omega)
  rw [hsz, Int.toNat_natCast] at hmk
  clear hi hz hsz hby
  have hs0 := size_madeCells (Value.agg #[.string ⟨#[]⟩, .int .i64 0, .int .i64 0, .string ⟨#[]⟩]).cells (l.length * 4)
  generalize madeCells (Value.agg #[.string ⟨#[]⟩, .int .i64 0, .int .i64 0, .string ⟨#[]⟩]).cells (l.length * 4) = cs0 at *
  go_enter Tryz.func141, Tryz.ntmps141
  go_wp2_with fail
  go_loopw [4] (fun i w' => ∃ (k : Nat) (cs : Array Value), k ≤ l.length ∧ i = .int .i64 k ∧ Below w.heap.size w w' ∧ Hid (w'.heap[w.heap.size]? = some (.cells cs 134 (0, 0))) ∧ cs.size = l.length * 4 ∧ Hid (LaidR ArAt 4 cs l k)) (fun i _ => l.length - (intOf i).toNat)
  case atStart => exact ⟨0, cs0, by omega, rfl, (Below.refl _ _).alloc (Nat.le_refl _) _, heap_alloc_new _ _, hs0, fun i x h => by omega⟩
  case round =>
    rename_i wr
    obtain ⟨k, cs, hk, rfl, hb, HH, hcs, HL⟩ := hrel
    clear hmk hs0
    by_cases hlt : k < l.length
    · obtain ⟨b, o, ha, _, hbl, c0, c1, c2, c3⟩ := (HR.out.keep (Below.agree hb (Nat.le_refl _))).cells_ar k hlt
      subst ha
      go_wp2_with fail
      refine (to_arg l[k] _).mono ?_
      rintro e w1 ⟨rfl, hb1⟩
      have hN : w.heap.size < wr.heap.size := (Array.getElem?_eq_some_iff.1 HH.out).1
      have HH1 : Hid (w1.heap[w.heap.size]? = some (.cells cs 134 (0, 0))) := (hb1.block _ hN).trans HH.out
      obtain ⟨v0, hv0⟩ : ∃ v, w1.cell? ⟨w.heap.size, k * 4, none⟩ = some v := ⟨_, (row_cell HH1.out _).trans (Array.getElem?_eq_getElem (by omega))⟩
      obtain ⟨v1, hv1⟩ : ∃ v, w1.cell? ⟨w.heap.size, k * 4 + 1, none⟩ = some v := ⟨_, (row_cell HH1.out _).trans (Array.getElem?_eq_getElem (by omega))⟩
      obtain ⟨v2, hv2⟩ : ∃ v, w1.cell? ⟨w.heap.size, k * 4 + 2, none⟩ = some v := ⟨_, (row_cell HH1.out _).trans (Array.getElem?_eq_getElem (by omega))⟩
      obtain ⟨v3, hv3⟩ : ∃ v, w1.cell? ⟨w.heap.size, k * 4 + 3, none⟩ = some v := ⟨_, (row_cell HH1.out _).trans (Array.getElem?_eq_getElem (by omega))⟩
      have hf0 := row_frozen HH1.out (k * 4)
      have hf1 := row_frozen HH1.out (k * 4 + 1)
      have hf2 := row_frozen HH1.out (k * 4 + 2)
      have hf3 := row_frozen HH1.out (k * 4 + 3)
      clear c0 c1 c2 c3
      have qb := hb.trans (hb1.mono hb.size)
      go_wp2_with fail
      exact ⟨⟨k + 1, put4 cs (k * 4) _ _ _ _, by omega, by go_num, (((qb.setCell (Nat.le_refl _) _).setCell (Nat.le_refl _) _).setCell (Nat.le_refl _) _).setCell (Nat.le_refl _) _, row_set (row_set (row_set (row_set HH1.out _ _) _ _) _ _) _ _, by rw [put4_size]; exact hcs, HL.out.put_ar hlt hcs⟩, by simp [intOf]; omega⟩
    · go_wp2_with fail
      go_ret
      obtain rfl : k = l.length := by omega
      exact ⟨_, _, rfl, LaidR.row HH.out HL.out (Nat.le_refl _), Nat.le_refl _, hb⟩
set_option maxHeartbeats 1000000 in
theorem to_dirs (a : Option Addr) (c : Nat) (l : List Di) (w : World) (hr : DiRow 0 w.heap.size w a l) (hl : l.length ≤ 1048576) :
    Calls Tryz.prog 142 #[.slice a l.length c] w fun e w' => ∃ a' c', e = .returned (.slice a' l.length c') ∧ DiRow w.heap.size w'.heap.size w' a' l ∧ Below w.heap.size w w' := by
  have HR : Hid (DiRow 0 w.heap.size w a l) := hr
  clear hr
  obtain ⟨i27, hi, hz, hsz, hby⟩ := info_di
  have hmk := run_make (P := Tryz.prog) w 113 136 i27 _ Tryz.underlying113 hi hz .i64 .i64 (l.length : Int) (l.length : Int) (by omega) (by omega) (by rw [hby]; omega) (by omega)
  rw [hsz, Int.toNat_natCast] at hmk
  clear hi hz hsz hby
  have hs0 := size_madeCells (Value.agg #[.bool false, .int .i64 0, .int .i64 0, .string ⟨#[]⟩]).cells (l.length * 4)
  generalize madeCells (Value.agg #[.bool false, .int .i64 0, .int .i64 0, .string ⟨#[]⟩]).cells (l.length * 4) = cs0 at *
  go_enter Tryz.func142, Tryz.ntmps142
  go_wp2_with fail
  go_loopw [4] (fun i w' => ∃ (k : Nat) (cs : Array Value), k ≤ l.length ∧ i = .int .i64 k ∧ Below w.heap.size w w' ∧ Hid (w'.heap[w.heap.size]? = some (.cells cs 136 (0, 0))) ∧ cs.size = l.length * 4 ∧ Hid (LaidR DiAt 4 cs l k)) (fun i _ => l.length - (intOf i).toNat)
  case atStart => exact ⟨0, cs0, by omega, rfl, (Below.refl _ _).alloc (Nat.le_refl _) _, heap_alloc_new _ _, hs0, fun i x h => by omega⟩
  case round =>
    rename_i wr
    obtain ⟨k, cs, hk, rfl, hb, HH, hcs, HL⟩ := hrel
    clear hmk hs0
    by_cases hlt : k < l.length
    · obtain ⟨b, o, ha, _, hbl, c0, c1, c2, c3⟩ := (HR.out.keep (Below.agree hb (Nat.le_refl _))).cells_di k hlt
      subst ha
      go_wp2_with fail
      refine (to_dir l[k] _).mono ?_
      rintro e w1 ⟨rfl, hb1⟩
      have hN : w.heap.size < wr.heap.size := (Array.getElem?_eq_some_iff.1 HH.out).1
      have HH1 : Hid (w1.heap[w.heap.size]? = some (.cells cs 136 (0, 0))) := (hb1.block _ hN).trans HH.out
      obtain ⟨v0, hv0⟩ : ∃ v, w1.cell? ⟨w.heap.size, k * 4, none⟩ = some v := ⟨_, (row_cell HH1.out _).trans (Array.getElem?_eq_getElem (by omega))⟩
      obtain ⟨v1, hv1⟩ : ∃ v, w1.cell? ⟨w.heap.size, k * 4 + 1, none⟩ = some v := ⟨_, (row_cell HH1.out _).trans (Array.getElem?_eq_getElem (by omega))⟩
      obtain ⟨v2, hv2⟩ : ∃ v, w1.cell? ⟨w.heap.size, k * 4 + 2, none⟩ = some v := ⟨_, (row_cell HH1.out _).trans (Array.getElem?_eq_getElem (by omega))⟩
      obtain ⟨v3, hv3⟩ : ∃ v, w1.cell? ⟨w.heap.size, k * 4 + 3, none⟩ = some v := ⟨_, (row_cell HH1.out _).trans (Array.getElem?_eq_getElem (by omega))⟩
      have hf0 := row_frozen HH1.out (k * 4)
      have hf1 := row_frozen HH1.out (k * 4 + 1)
      have hf2 := row_frozen HH1.out (k * 4 + 2)
      have hf3 := row_frozen HH1.out (k * 4 + 3)
      clear c0 c1 c2 c3
      have qb := hb.trans (hb1.mono hb.size)
      go_wp2_with fail
      exact ⟨⟨k + 1, put4 cs (k * 4) _ _ _ _, by omega, by go_num, (((qb.setCell (Nat.le_refl _) _).setCell (Nat.le_refl _) _).setCell (Nat.le_refl _) _).setCell (Nat.le_refl _) _, row_set (row_set (row_set (row_set HH1.out _ _) _ _) _ _) _ _, by rw [put4_size]; exact hcs, HL.out.put_di hlt hcs⟩, by simp [intOf]; omega⟩
    · go_wp2_with fail
      go_ret
      obtain rfl : k = l.length := by omega
      exact ⟨_, _, rfl, LaidR.row HH.out HL.out (Nat.le_refl _), hb⟩
end Go.Proofs.YtkjndghkimnjeaaGreat
