/- CheckTypes: the program's rules of one selection. -/
import Derived.Test.YtjkkphfdcoejlaaGreatTyMath
namespace Go.Proofs.YtjkkphfdcoejlaaGreat
open Go.ChangeShapes Go.WideShapes Go.ChangeAt Go.RowKit
set_option linter.unusedVariables false

/-- A spot's value. -/
def spV (h : Hd) (n : Nat) (a1 : Option Addr) (c1 : Nat) (a2 : Option Addr) (c2 : Nat) (a3 : Option Addr) (c3 : Nat) (t : G.Td) (at_ : Option Addr) (ct : Nat) (f : G.Fd) (af : Option Addr) (cf : Nat) (kn : Bool) : Value :=
  .agg #[.int .i64 h.k, .string h.al, .string h.nm, .slice a1 h.args.length c1, .slice a2 h.dirs.length c2, .slice a3 n c3, .string t.nm, .slice at_ t.fs.length ct, .string f.nm, .slice af f.args.length cf, .string f.ty, .bool f.ls, .bool f.bg, .bool kn]
theorem ret_i {a b : Int} (h : a = b) : Ending.returned (.int .i64 a) = .returned (.int .i64 b) := by rw [h]
theorem all_next {α : Type} {p : α → Bool} {l : List α} {k : Nat} (hk : k < l.length) (h : (l.take k).all p = true) (h2 : p l[k] = true) : (l.take (k + 1)).all p = true := by
  rw [List.take_succ_eq_append_getElem hk, List.all_append, h]; simp [h2]
theorem all_no {α : Type} {p : α → Bool} {l : List α} {k : Nat} (hk : k < l.length) (h2 : p l[k] = false) : l.all p = false := by
  rw [List.all_eq_false]
  exact ⟨l[k], List.getElem_mem hk, by simp [h2]⟩

set_option maxHeartbeats 4000000 in
set_option maxRecDepth 40000 in
theorem rule_dirs (h : Hd) (n : Nat) (a1 a2 a3 at_ af : Option Addr) (c1 c2 c3 ct cf : Nat) (t : G.Td) (f : G.Fd) (kn : Bool) (w : World) (r2 : DiRow 0 w.heap.size w a2 h.dirs) (hb : HdBd 1048576 h) (r : Int) (hr : r = if h.dirs.all dirB = true then 0 else 10) :
    Calls Tryz.prog 62 #[spV h n a1 c1 a2 c2 a3 c3 t at_ ct f af cf kn] w fun e w' => e = .returned (.int .i64 r) ∧ Below w.heap.size w w' := by
  have R2 : Hid (DiRow 0 w.heap.size w a2 h.dirs) := r2
  have hl : h.dirs.length ≤ 1048576 := hb.2.2.2.2.1
  have HRR : Hid (r = if h.dirs.all dirB = true then 0 else 10) := hr
  clear r2 hb hr
  unfold spV
  go_enter Tryz.func62, Tryz.ntmps62
  go_wp2_with fail
  go_loopw [9] (fun i w' => ∃ (k : Nat), k ≤ h.dirs.length ∧ i = .int .i64 k ∧ Below w.heap.size w w' ∧ Hid ((h.dirs.take k).all dirB = true)) (fun i _ => h.dirs.length - (intOf i).toNat)
  case atStart => exact ⟨0, by omega, rfl, (Below.refl _ _).alloc (Nat.le_refl _) _, rfl⟩
  case round =>
    obtain ⟨k, hk, rfl, hbw, HA⟩ := hrel
    have hbz := hbw.size
    by_cases hlt : k < h.dirs.length
    case neg =>
      have HN : Hid ((0 : Int) = r) := by
        have := HA.out
        rw [List.take_of_length_le (by omega)] at this
        rw [Hid, HRR.out, if_pos this]
      go_wp2_with fail
      go_ret
      exact ⟨ret_i HN.out, hbw⟩
    obtain ⟨b, o, ha, _, hbl, d0, d1, d2, d3⟩ := (R2.out.keep (Below.agree hbw (Nat.le_refl _))).cells_di k hlt
    subst ha
    have HBW : Hid _ := hbw
    clear hbw
    cases e2 : (h.dirs[k].v.k == 2) with
    | true =>
      have HF : Hid (dirB h.dirs[k] = true) := by unfold Hid dirB; rw [e2]; rfl
      have n2 : (h.dirs[k].v.k != 2) = false := by simp [bne, e2]
      go_wp2_with fail
      exact ⟨⟨k + 1, by omega, by go_num, HBW.out.alloc (by omega) _, all_next hlt HA.out HF.out⟩, by simp [intOf]; omega⟩
    | false =>
    have n2 : (h.dirs[k].v.k != 2) = true := by simp [bne, e2]
    cases e4 : (h.dirs[k].v.k == 4) with
    | true =>
      have n4 : (h.dirs[k].v.k != 4) = false := by simp [bne, e4]
      have HF : Hid (dirB h.dirs[k] = true) := by unfold Hid dirB; rw [e2, e4]; rfl
      go_wp2_with fail
      exact ⟨⟨k + 1, by omega, by go_num, HBW.out.alloc (by omega) _, all_next hlt HA.out HF.out⟩, by simp [intOf]; omega⟩
    | false =>
      have n4 : (h.dirs[k].v.k != 4) = true := by simp [bne, e4]
      have HN : Hid ((10 : Int) = r) := by
        have : h.dirs.all dirB = false := all_no hlt (by unfold dirB; rw [e2, e4]; rfl)
        rw [Hid, HRR.out, this]; rfl
      go_wp2_with fail
      go_ret
      exact ⟨ret_i HN.out, HBW.out.alloc (by omega) _⟩

set_option maxHeartbeats 1000000 in
theorem rule_inline (h : Hd) (n : Nat) (a1 a2 a3 at_ af : Option Addr) (c1 c2 c3 ct cf : Nat) (t : G.Td) (f : G.Fd) (kn : Bool) (w : World) :
    Calls Tryz.prog 64 #[spV h n a1 c1 a2 c2 a3 c3 t at_ ct f af cf kn] w fun e w' => e = .returned (.int .i64 (if ((h.k == 3) && !inlOK h.nm t.nm) = true then 12 else 0)) ∧ Below w.heap.size w w' := by
  unfold spV inlOK
  cases e3 : (h.k == 3) <;> cases e4 : (h.nm.toList == []) <;> cases e5 : (h.nm.toList == t.nm.toList) <;>
    (go_enter Tryz.func64, Tryz.ntmps64
     go_wp2_with fail
     go_ret
     exact ⟨rfl, (Below.refl _ _).alloc (Nat.le_refl _) _⟩)
set_option maxHeartbeats 1000000 in
theorem rule_field (h : Hd) (n : Nat) (a1 a2 a3 at_ af : Option Addr) (c1 c2 c3 ct cf : Nat) (t : G.Td) (f : G.Fd) (kn : Bool) (w : World) :
    Calls Tryz.prog 65 #[spV h n a1 c1 a2 c2 a3 c3 t at_ ct f af cf kn] w fun e w' => e = .returned (.int .i64 (if ((h.k == 1) && !kn) = true then 9 else 0)) ∧ Below w.heap.size w w' := by
  unfold spV
  cases e3 : (h.k == 1) <;> cases kn <;>
    (go_enter Tryz.func65, Tryz.ntmps65
     go_wp2_with fail
     go_ret
     exact ⟨rfl, (Below.refl _ _).alloc (Nat.le_refl _) _⟩)
set_option maxHeartbeats 1000000 in
theorem rule_leaf (h : Hd) (n : Nat) (a1 a2 a3 at_ af : Option Addr) (c1 c2 c3 ct cf : Nat) (t : G.Td) (f : G.Fd) (kn : Bool) (w : World) :
    Calls Tryz.prog 68 #[spV h n a1 c1 a2 c2 a3 c3 t at_ ct f af cf kn] w fun e w' => e = .returned (.int .i64 (if ((h.k == 1) && (G.isIn f.ty != decide (n = 0))) = true then 11 else 0)) ∧ Below w.heap.size w w' := by
  unfold spV G.isIn
  by_cases hn : n = 0
  · subst hn
    cases e3 : (h.k == 1) <;> cases e4 : (f.ty.toList == [73, 110, 116]) <;>
      (go_enter Tryz.func68, Tryz.ntmps68
       go_wp2_with fail
       go_ret
       exact ⟨rfl, (Below.refl _ _).alloc (Nat.le_refl _) _⟩)
  · have hn2 : ((n : Int) == 0) = false := by simp; omega
    have hn3 : decide (n = 0) = false := by simp [hn]
    rw [hn3]
    cases e3 : (h.k == 1) <;> cases e4 : (f.ty.toList == [73, 110, 116]) <;>
      (go_enter Tryz.func68, Tryz.ntmps68
       go_wp2_with fail
       go_ret
       exact ⟨rfl, (Below.refl _ _).alloc (Nat.le_refl _) _⟩)

set_option maxHeartbeats 1000000 in
theorem arg_fits (v : Va) (d : G.Ag) (w : World) :
    Calls Tryz.prog 89 #[.agg #[.int .i64 v.k, .int .i64 v.n, .string v.t], .agg #[.string d.nm, .bool d.need]] w fun e w' => e = .returned (.bool (fitB v d.need)) ∧ Below w.heap.size w w' := by
  unfold fitB
  generalize d.need = nd
  cases e1 : (v.k == 1) <;> cases e4 : (v.k == 4) <;> cases e3 : (v.k == 3) <;> cases nd <;>
    (go_enter Tryz.func89, Tryz.ntmps89
     go_wp2_with fail
     go_ret
     exact ⟨rfl, by repeat (first | exact Below.refl _ _ | refine Below.alloc ?_ (by first | omega | (simp <;> omega)) _)⟩)
theorem seenA_take {l : List Ar} {n : ByteArray} {k : Nat} (hk : k < l.length) : seenA (l.take (k + 1)) n = (seenA (l.take k) n || (l[k].nm.toList == n.toList)) := by
  unfold seenA; rw [List.take_succ_eq_append_getElem hk, List.any_append]; simp
theorem seenA_of {l : List Ar} {n : ByteArray} {k j : Nat} (hk : k < l.length) (hj : k < j) (h : (l[k].nm.toList == n.toList) = true) : seenA (l.take j) n = true := by
  unfold seenA
  rw [List.any_eq_true]
  exact ⟨l[k], by rw [List.mem_take_iff_getElem]; exact ⟨k, by omega, rfl⟩, h⟩
/-- All arguments are right: by places. -/
theorem argsN_at (f : G.Fd) : ∀ (l p : List Ar), argsN f p l = true ↔ ∀ i (h : i < l.length), seenA (p ++ l.take i) l[i].nm = false ∧ argB f l[i] = true
  | [], p => by simp [argsN]
  | x :: l, p => by
    have ih := argsN_at f l (p ++ [x])
    simp only [argsN, Bool.and_eq_true, Bool.not_eq_true', ih]
    constructor
    · rintro ⟨⟨h1, h2⟩, h3⟩ i hi
      cases i with
      | zero => exact ⟨by simpa using h1, h2⟩
      | succ i =>
        have := h3 i (by simpa using hi)
        simpa [List.append_assoc] using this
    · intro h
      refine ⟨by have := h 0 (by simp); simpa using this, fun i hi => ?_⟩
      have := h (i + 1) (by simpa using hi)
      simpa [List.append_assoc] using this
theorem argsN_yes {f : G.Fd} {l : List Ar} (h : ∀ i (h : i < l.length), seenA (l.take i) l[i].nm = false ∧ argB f l[i] = true) : argsN f [] l = true := (argsN_at f l []).2 (by simpa using h)
theorem argsN_no {f : G.Fd} {l : List Ar} {i : Nat} (hi : i < l.length) (h : seenA (l.take i) l[i].nm = true ∨ argB f l[i] = false) : argsN f [] l = false := by
  cases hc : argsN f [] l with
  | false => rfl
  | true =>
    have := (argsN_at f l []).1 hc i hi
    simp only [List.nil_append] at this
    rcases h with h | h
    · rw [this.1] at h; cases h
    · rw [this.2] at h; cases h
end Go.Proofs.YtjkkphfdcoejlaaGreat
