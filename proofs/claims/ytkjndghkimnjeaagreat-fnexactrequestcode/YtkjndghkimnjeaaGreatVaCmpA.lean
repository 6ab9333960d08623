/- compareArgs: written by wip/tools/vacmpa.py. -/
import Derived.Test.YtkjndghkimnjeaaGreatVaGrp
import Derived.Laws.Cover1
import Derived.Test.YtkjndghkimnjeaaGreatGRegionSix
import Derived.Sort.Grow
namespace Go.Proofs.YtkjndghkimnjeaaGreat
open Go.ChangeShapes Go.WideShapes Go.ChangeAt Go.RowKit Go.Maps
set_option linter.unusedVariables false

def cmI (a b : Int) : Int := if a < b then -1 else if b < a then 1 else 0
def cmS (a b : ByteArray) : Int := if Op.bytesLess a.toList b.toList = true then -1 else if (a.toList == b.toList) = true then 0 else 1
def fstN : List Int → Int
  | [] => 0
  | x :: l => if x = 0 then fstN l else x
theorem fstN_cons (x : Int) (l : List Int) : fstN (x :: l) = if x = 0 then fstN l else x := rfl
theorem nan_i (x : Int) (w : World) : Calls Tryz.prog 173 #[.int .i64 x] w fun e w' => e = .returned (.bool false) ∧ w' = w := by
  go_enter Tryz.func173, Tryz.ntmps173
  go_wp2_with fail
  go_ret
  exact ⟨by simp, rfl⟩
theorem nan_s (x : ByteArray) (w : World) : Calls Tryz.prog 172 #[.string x] w fun e w' => e = .returned (.bool false) ∧ w' = w := by
  go_enter Tryz.func172, Tryz.ntmps172
  go_wp2_with fail
  go_ret
  exact ⟨by simp, rfl⟩
set_option maxHeartbeats 1000000 in
theorem cmp_i (x y : Int) (w : World) : Calls Tryz.prog 168 #[.int .i64 x, .int .i64 y] w fun e w' => e = .returned (.int .i64 (cmI x y)) ∧ w' = w := by
  go_enter Tryz.func168, Tryz.ntmps168
  go_wp2_with (go_at_call 173; refine (nan_i _ _).mono ?_; rintro e w' ⟨rfl, hw⟩; rw [hw])
  all_goals (go_ret; refine ⟨?_, rfl⟩; unfold cmI; (repeat' split) <;> first | rfl | (exfalso; omega))
set_option maxHeartbeats 1000000 in
theorem cmp_s (x y : ByteArray) (w : World) : Calls Tryz.prog 167 #[.string x, .string y] w fun e w' => e = .returned (.int .i64 (cmS x y)) ∧ w' = w := by
  obtain ⟨R, HR⟩ : ∃ R, Hid (R = cmS x y) := ⟨_, rfl⟩
  rw [← HR.out]
  cases h1 : Op.bytesLess x.toList y.toList with
  | true =>
    have HE : Hid (R = -1) := by rw [Hid, HR.out]; unfold cmS; rw [if_pos h1]
    go_enter Tryz.func167, Tryz.ntmps167
    go_wp2_with (go_at_call 172; refine (nan_s _ _).mono ?_; rintro e w' ⟨rfl, hw⟩; rw [hw])
    go_ret
    exact ⟨by rw [HE.out]; rfl, rfl⟩
  | false =>
    cases h2 : (x.toList == y.toList) with
    | true =>
      have HE : Hid (R = 0) := by rw [Hid, HR.out]; unfold cmS; rw [if_neg (by rw [h1]; decide), if_pos h2]
      go_enter Tryz.func167, Tryz.ntmps167
      go_wp2_with (go_at_call 172; refine (nan_s _ _).mono ?_; rintro e w' ⟨rfl, hw⟩; rw [hw])
      go_ret
      exact ⟨by rw [HE.out]; rfl, rfl⟩
    | false =>
      have HE : Hid (R = 1) := by rw [Hid, HR.out]; unfold cmS; rw [if_neg (by rw [h1]; decide), if_neg (by rw [h2]; decide)]
      go_enter Tryz.func167, Tryz.ntmps167
      go_wp2_with (go_at_call 172; refine (nan_s _ _).mono ?_; rintro e w' ⟨rfl, hw⟩; rw [hw])
      go_ret
      exact ⟨by rw [HE.out]; rfl, rfl⟩
set_option maxHeartbeats 2000000 in
theorem cmp_or_i (l : List Int) (b : Nat) (w : World) (h : ∀ k (hk : k < l.length), w.cell? ⟨b, k, none⟩ = some (.int .i64 l[k])) (hl : l.length ≤ 1000) :
    Calls Tryz.prog 166 #[.slice (some ⟨b, 0, none⟩) l.length l.length] w fun e w' => e = .returned (.int .i64 (fstN l)) ∧ w' = w := by
  obtain ⟨R, HR⟩ : ∃ R, Hid (R = fstN l) := ⟨_, rfl⟩
  rw [← HR.out]
  have HC : Hid _ := h
  clear h
  go_enter Tryz.func166, Tryz.ntmps166
  go_wp2_with fail
  go_loopw [8] (fun i w' => ∃ k : Nat, i = .int .i64 k ∧ k ≤ l.length ∧ w' = w ∧ Hid (R = fstN (l.drop k))) (fun i _ => l.length - (intOf i).toNat)
  case atStart => exact ⟨0, rfl, Nat.zero_le _, rfl, by rw [Hid, HR.out]; rfl⟩
  case round =>
    obtain ⟨k, rfl, hk, hw, HK⟩ := hrel
    have hw' := hw.symm
    clear hw
    subst hw'
    by_cases hlt : k < l.length
    case neg =>
      have hlt' : ¬ (k : Int) < l.length := by omega
      have HE : Hid (R = 0) := by rw [Hid, HK.out, List.drop_eq_nil_of_le (by omega)]; rfl
      clear HK
      go_wp2_with fail
      go_ret
      exact ⟨by rw [HE.out]; rfl, rfl⟩
    have hlt' : (k : Int) < l.length := by omega
    have hd : l.drop k = l[k] :: l.drop (k + 1) := List.drop_eq_getElem_cons hlt
    have hc := HC.out k hlt
    by_cases hz : l[k] = 0
    · have HE : Hid (R = fstN (l.drop (k + 1))) := by rw [Hid, HK.out, hd, fstN_cons, if_pos hz]
      rw [hz] at hc
      clear hd HK
      go_wp2_with fail
      exact ⟨⟨k + 1, by go_num, by omega, by first | trivial | rfl, HE⟩, by simp [intOf]; omega⟩
    · have HE : Hid (R = l[k]) := by rw [Hid, HK.out, hd, fstN_cons, if_neg hz]
      have hz' : (l[k] != 0) = true := by simp [bne, hz]
      clear hd HK
      go_wp2_with fail
      go_ret
      exact ⟨by rw [HE.out]; rfl, rfl⟩
end Go.Proofs.YtkjndghkimnjeaaGreat
namespace Go.Proofs.YtkjndghkimnjeaaGreat
open Go.ChangeShapes Go.WideShapes Go.ChangeAt Go.RowKit Go.Maps
set_option linter.unusedVariables false

/-- A world with draws and new blocks alone. -/
def GrW (w W : World) : Prop := ∃ q os, W = Sort.grow (w.drewN q) os
theorem GrW.refl (w : World) : GrW w w := ⟨0, #[], by rw [Sort.grow_empty]; rfl⟩
theorem GrW.alloc {w W : World} (h : GrW w W) (o : Obj) : GrW w (W.alloc o) := by
  obtain ⟨q, os, rfl⟩ := h
  exact ⟨q, os ++ #[o], by rw [Sort.alloc_eq_grow, Sort.grow_grow]⟩
theorem GrW.drew {w W : World} (h : GrW w W) : GrW w W.drew := by
  obtain ⟨q, os, rfl⟩ := h
  exact ⟨q + 1, os, by rw [Sort.drew_grow]; rfl⟩
theorem GrW.below {w W : World} (h : GrW w W) : Below w.heap.size w W := by
  obtain ⟨q, os, rfl⟩ := h
  refine ⟨rfl, rfl, rfl, ?_, fun k hk => ?_⟩
  · rw [Sort.size_grow]; exact Nat.le_add_right _ _
  · rw [Sort.heap_grow_old _ _ (show k < (w.drewN q).heap.size from hk)]; rfl
theorem GrW.trans {w W V : World} (h : GrW w W) (h' : GrW W V) : GrW w V := by
  obtain ⟨q, os, rfl⟩ := h
  obtain ⟨q', os', rfl⟩ := h'
  refine ⟨q + q', os ++ os', ?_⟩
  rw [← Sort.grow_grow]
  have : ∀ (n : Nat) (z : World), (Sort.grow z os).drewN n = Sort.grow (z.drewN n) os := fun n z => rfl
  rw [this]
  congr 1
  simp [World.drewN, Nat.add_assoc]
def cfA (x y : Ar) : Int := fstN [cmS x.nm y.nm, cmI x.v.k y.v.k, cmI x.v.n y.v.n, cmS x.v.t y.v.t]
def LsC (x y : Ar) (v : Value) (W : World) : Prop := ∃ b, v = .slice (some ⟨b, 0, none⟩) 4 4 ∧ W.heap[b]? = some (.cells #[.int .i64 (cmS x.nm y.nm), .int .i64 (cmI x.v.k y.v.k), .int .i64 (cmI x.v.n y.v.n), .int .i64 (cmS x.v.t y.v.t)] 3 (0, 0))
def PvC (w : World) (x y : Ar) (iz : Nat) (v : Value) (W : World) : Prop := if iz = 26 then LsC x y v W else match iz with | 0 => v = .pointer (some ⟨w.heap.size, 0, none⟩) | 1 => v = .string x.nm | 2 => v = .pointer (some ⟨w.heap.size + 1, 0, none⟩) | 3 => v = .string y.nm | 4 => v = .int .i64 (cmS x.nm y.nm) | 5 => v = .pointer (some ⟨w.heap.size, 1, none⟩) | 6 => v = .pointer (some ⟨w.heap.size, 1, none⟩) | 7 => v = .int .i64 x.v.k | 8 => v = .pointer (some ⟨w.heap.size + 1, 1, none⟩) | 9 => v = .pointer (some ⟨w.heap.size + 1, 1, none⟩) | 10 => v = .int .i64 y.v.k | 11 => v = .int .i64 (cmI x.v.k y.v.k) | 12 => v = .pointer (some ⟨w.heap.size, 1, none⟩) | 13 => v = .pointer (some ⟨w.heap.size, 2, none⟩) | 14 => v = .int .i64 x.v.n | 15 => v = .pointer (some ⟨w.heap.size + 1, 1, none⟩) | 16 => v = .pointer (some ⟨w.heap.size + 1, 2, none⟩) | 17 => v = .int .i64 y.v.n | 18 => v = .int .i64 (cmI x.v.n y.v.n) | 19 => v = .pointer (some ⟨w.heap.size, 1, none⟩) | 20 => v = .pointer (some ⟨w.heap.size, 3, none⟩) | 21 => v = .string x.v.t | 22 => v = .pointer (some ⟨w.heap.size + 1, 1, none⟩) | 23 => v = .pointer (some ⟨w.heap.size + 1, 3, none⟩) | 24 => v = .string y.v.t | 25 => v = .int .i64 (cmS x.v.t y.v.t) | 27 => v = .int .i64 (cfA x y) | _ => True
theorem PvC.up {w : World} {x y : Ar} {iz : Nat} {v : Value} {W W' : World} (h : PvC w x y iz v W) (hb : ∀ b, b < W.heap.size → W'.heap[b]? = W.heap[b]?) : PvC w x y iz v W' := by
  unfold PvC at h ⊢
  by_cases e : iz = 26
  · rw [if_pos e] at h ⊢
    obtain ⟨b, rfl, hh⟩ := h
    exact ⟨b, rfl, (hb b (Array.getElem?_eq_some_iff.1 hh).1).trans hh⟩
  · rw [if_neg e] at h ⊢; exact h
set_option maxHeartbeats 8000000 in
set_option maxRecDepth 40000 in
theorem cmp_args (x y : Ar) (w : World) :
    Calls Tryz.prog 160 #[.agg #[.string x.nm, .int .i64 x.v.k, .int .i64 x.v.n, .string x.v.t], .agg #[.string y.nm, .int .i64 y.v.k, .int .i64 y.v.n, .string y.v.t]] w fun e w' => e = .returned (.int .i64 (cfA x y)) ∧ GrW w w' := by
  obtain ⟨w9, hw9⟩ : ∃ V, V = (w.alloc (.cells #[.string x.nm, .int .i64 x.v.k, .int .i64 x.v.n, .string x.v.t] 134)).alloc (.cells #[.string y.nm, .int .i64 y.v.k, .int .i64 y.v.n, .string y.v.t] 134) := ⟨_, rfl⟩
  have G9 : Hid (GrW w w9) := by rw [Hid, hw9]; exact ((GrW.refl w).alloc _).alloc _
  have c0 : w9.heap[w.heap.size]? = some (.cells #[.string x.nm, .int .i64 x.v.k, .int .i64 x.v.n, .string x.v.t] 134 (0, 0)) := by
    rw [hw9, Below.heap_alloc _ _ _ (by simp)]; exact heap_alloc_new _ _
  have c1 : w9.heap[w.heap.size + 1]? = some (.cells #[.string y.nm, .int .i64 y.v.k, .int .i64 y.v.n, .string y.v.t] 134 (0, 0)) := by
    rw [hw9]
    have := heap_alloc_new (w.alloc (.cells #[.string x.nm, .int .i64 x.v.k, .int .i64 x.v.n, .string x.v.t] 134)) (.cells #[.string y.nm, .int .i64 y.v.k, .int .i64 y.v.n, .string y.v.t] 134)
    simpa using this
  have T9 : Hid (∀ W, GrW w9 W → (∀ o, W.cell? ⟨w.heap.size, o, none⟩ = (#[.string x.nm, .int .i64 x.v.k, .int .i64 x.v.n, .string x.v.t] : Array Value)[o]?) ∧ (∀ o, W.cell? ⟨w.heap.size + 1, o, none⟩ = (#[.string y.nm, .int .i64 y.v.k, .int .i64 y.v.n, .string y.v.t] : Array Value)[o]?)) := fun W hW =>
    ⟨fun o => row_cell ((hW.below.block _ (Array.getElem?_eq_some_iff.1 c0).1).trans c0) o, fun o => row_cell ((hW.below.block _ (Array.getElem?_eq_some_iff.1 c1).1).trans c1) o⟩
  clear c0 c1
  go_enter Tryz.func160, Tryz.ntmps160
  go_upto_region 1 with fail
  rw [← hw9]
  clear hw9
  refine G.region_rel5 (n := 28) (k := 1) (by omega) (by kernel_rfl) (by kernel_rfl) (by kernel_rfl) (fun u => ⟨#[.agg #[.string x.nm, .int .i64 x.v.k, .int .i64 x.v.n, .string x.v.t], .agg #[.string y.nm, .int .i64 y.v.k, .int .i64 y.v.n, .string y.v.t], .pointer (some ⟨w.heap.size, 0, none⟩), .pointer (some ⟨w.heap.size + 1, 0, none⟩), u 4, u 5, u 6, u 7, u 8, u 9, u 10, u 11, u 12, u 13, u 14, u 15, u 16, u 17, u 18, u 19, u 20, u 21, u 22, u 23, u 24, u 25, u 26, u 27, u 28, u 29, u 30, u 31, u 32], []⟩) (fun nz => match nz with | 4 => .int .i64 0 | _ => undef) (fun iz => [5, 6, 7, 8, 9, 10, 11, 12, 13, 14, 15, 16, 17, 18, 19, 20, 21, 22, 23, 24, 25, 26, 27, 28, 29, 30, 31, 32].getD iz 0) (fun iz jz hi hj h => (by decide : ∀ i, i < 28 → ∀ j, j < 28 → [5, 6, 7, 8, 9, 10, 11, 12, 13, 14, 15, 16, 17, 18, 19, 20, 21, 22, 23, 24, 25, 26, 27, 28, 29, 30, 31, 32].getD i 0 = [5, 6, 7, 8, 9, 10, 11, 12, 13, 14, 15, 16, 17, 18, 19, 20, 21, 22, 23, 24, 25, 26, 27, 28, 29, 30, 31, 32].getD j 0 → i = j) iz hi jz hj h)
    (PvC w x y) (fun _ _ W => GrW w9 W) (GrW.refl _).drew ?step ?last
  case step =>
    intro D u W iq hi hLs hLi hbW hdep
    have HBJ : Hid (GrW w9 W) := hbW
    obtain ⟨x0, y0⟩ := T9.out W hbW
    have hcase : iq = 0 ∨ iq = 1 ∨ iq = 2 ∨ iq = 3 ∨ iq = 4 ∨ iq = 5 ∨ iq = 6 ∨ iq = 7 ∨ iq = 8 ∨ iq = 9 ∨ iq = 10 ∨ iq = 11 ∨ iq = 12 ∨ iq = 13 ∨ iq = 14 ∨ iq = 15 ∨ iq = 16 ∨ iq = 17 ∨ iq = 18 ∨ iq = 19 ∨ iq = 20 ∨ iq = 21 ∨ iq = 22 ∨ iq = 23 ∨ iq = 24 ∨ iq = 25 ∨ iq = 26 ∨ iq = 27 := by omega
    clear hbW hLi hi
    rcases hcase with rfl | rfl | rfl | rfl | rfl | rfl | rfl | rfl | rfl | rfl | rfl | rfl | rfl | rfl | rfl | rfl | rfl | rfl | rfl | rfl | rfl | rfl | rfl | rfl | rfl | rfl | rfl | rfl
    · refine wpOp_step rfl (fun K hK => ?_)
      clear hdep
      go_simp
      exact hK _ _ ⟨.pointer (some ⟨w.heap.size, 0, none⟩), by simp [G.upd], fun _ _ h => h, rfl, HBJ.out⟩
    · have d0 : u 5 = .pointer (some ⟨w.heap.size, 0, none⟩) := (hdep _ rfl ⟨0, .data⟩ (by simp) rfl).2
      refine wpOp_step rfl (fun K hK => ?_)
      clear hdep
      go_simp
      exact hK _ _ ⟨.string x.nm, by simp [G.upd, d0], fun _ _ h => h, rfl, HBJ.out⟩
    · refine wpOp_step rfl (fun K hK => ?_)
      clear hdep
      go_simp
      exact hK _ _ ⟨.pointer (some ⟨w.heap.size + 1, 0, none⟩), by simp [G.upd], fun _ _ h => h, rfl, HBJ.out⟩
    · have d2 : u 7 = .pointer (some ⟨w.heap.size + 1, 0, none⟩) := (hdep _ rfl ⟨2, .data⟩ (by simp) rfl).2
      refine wpOp_step rfl (fun K hK => ?_)
      clear hdep
      go_simp
      exact hK _ _ ⟨.string y.nm, by simp [G.upd, d2], fun _ _ h => h, rfl, HBJ.out⟩
    · have d1 : u 6 = .string x.nm := (hdep _ rfl ⟨1, .data⟩ (by simp) rfl).2
      have d3 : u 8 = .string y.nm := (hdep _ rfl ⟨3, .data⟩ (by simp) rfl).2
      have HQ : Hid _ := cmp_s x.nm y.nm W
      refine wpOp_step rfl (fun K hK => ?_)
      clear hdep
      go_simp
      refine Calls.mono HQ.out ?_
      rintro e w8 ⟨rfl, rfl⟩
      exact hK _ _ ⟨.int .i64 (cmS x.nm y.nm), by simp [G.upd, d1, d3], fun _ _ h => h, rfl, HBJ.out⟩
    · refine wpOp_step rfl (fun K hK => ?_)
      clear hdep
      go_simp
      exact hK _ _ ⟨.pointer (some ⟨w.heap.size, 1, none⟩), by simp [G.upd], fun _ _ h => h, rfl, HBJ.out⟩
    · have d5 : u 10 = .pointer (some ⟨w.heap.size, 1, none⟩) := (hdep _ rfl ⟨5, .data⟩ (by simp) rfl).2
      refine wpOp_step rfl (fun K hK => ?_)
      clear hdep
      go_simp
      exact hK _ _ ⟨.pointer (some ⟨w.heap.size, 1, none⟩), by simp [G.upd, d5], fun _ _ h => h, rfl, HBJ.out⟩
    · have d6 : u 11 = .pointer (some ⟨w.heap.size, 1, none⟩) := (hdep _ rfl ⟨6, .data⟩ (by simp) rfl).2
      refine wpOp_step rfl (fun K hK => ?_)
      clear hdep
      go_simp
      exact hK _ _ ⟨.int .i64 x.v.k, by simp [G.upd, d6], fun _ _ h => h, rfl, HBJ.out⟩
    · refine wpOp_step rfl (fun K hK => ?_)
      clear hdep
      go_simp
      exact hK _ _ ⟨.pointer (some ⟨w.heap.size + 1, 1, none⟩), by simp [G.upd], fun _ _ h => h, rfl, HBJ.out⟩
    · have d8 : u 13 = .pointer (some ⟨w.heap.size + 1, 1, none⟩) := (hdep _ rfl ⟨8, .data⟩ (by simp) rfl).2
      refine wpOp_step rfl (fun K hK => ?_)
      clear hdep
      go_simp
      exact hK _ _ ⟨.pointer (some ⟨w.heap.size + 1, 1, none⟩), by simp [G.upd, d8], fun _ _ h => h, rfl, HBJ.out⟩
    · have d9 : u 14 = .pointer (some ⟨w.heap.size + 1, 1, none⟩) := (hdep _ rfl ⟨9, .data⟩ (by simp) rfl).2
      refine wpOp_step rfl (fun K hK => ?_)
      clear hdep
      go_simp
      exact hK _ _ ⟨.int .i64 y.v.k, by simp [G.upd, d9], fun _ _ h => h, rfl, HBJ.out⟩
    · have d7 : u 12 = .int .i64 x.v.k := (hdep _ rfl ⟨7, .data⟩ (by simp) rfl).2
      have d10 : u 15 = .int .i64 y.v.k := (hdep _ rfl ⟨10, .data⟩ (by simp) rfl).2
      have HQ : Hid _ := cmp_i x.v.k y.v.k W
      refine wpOp_step rfl (fun K hK => ?_)
      clear hdep
      go_simp
      refine Calls.mono HQ.out ?_
      rintro e w8 ⟨rfl, rfl⟩
      exact hK _ _ ⟨.int .i64 (cmI x.v.k y.v.k), by simp [G.upd, d7, d10], fun _ _ h => h, rfl, HBJ.out⟩
    · refine wpOp_step rfl (fun K hK => ?_)
      clear hdep
      go_simp
      exact hK _ _ ⟨.pointer (some ⟨w.heap.size, 1, none⟩), by simp [G.upd], fun _ _ h => h, rfl, HBJ.out⟩
    · have d12 : u 17 = .pointer (some ⟨w.heap.size, 1, none⟩) := (hdep _ rfl ⟨12, .data⟩ (by simp) rfl).2
      refine wpOp_step rfl (fun K hK => ?_)
      clear hdep
      go_simp
      exact hK _ _ ⟨.pointer (some ⟨w.heap.size, 2, none⟩), by simp [G.upd, d12], fun _ _ h => h, rfl, HBJ.out⟩
    · have d13 : u 18 = .pointer (some ⟨w.heap.size, 2, none⟩) := (hdep _ rfl ⟨13, .data⟩ (by simp) rfl).2
      refine wpOp_step rfl (fun K hK => ?_)
      clear hdep
      go_simp
      exact hK _ _ ⟨.int .i64 x.v.n, by simp [G.upd, d13], fun _ _ h => h, rfl, HBJ.out⟩
    · refine wpOp_step rfl (fun K hK => ?_)
      clear hdep
      go_simp
      exact hK _ _ ⟨.pointer (some ⟨w.heap.size + 1, 1, none⟩), by simp [G.upd], fun _ _ h => h, rfl, HBJ.out⟩
    · have d15 : u 20 = .pointer (some ⟨w.heap.size + 1, 1, none⟩) := (hdep _ rfl ⟨15, .data⟩ (by simp) rfl).2
      refine wpOp_step rfl (fun K hK => ?_)
      clear hdep
      go_simp
      exact hK _ _ ⟨.pointer (some ⟨w.heap.size + 1, 2, none⟩), by simp [G.upd, d15], fun _ _ h => h, rfl, HBJ.out⟩
    · have d16 : u 21 = .pointer (some ⟨w.heap.size + 1, 2, none⟩) := (hdep _ rfl ⟨16, .data⟩ (by simp) rfl).2
      refine wpOp_step rfl (fun K hK => ?_)
      clear hdep
      go_simp
      exact hK _ _ ⟨.int .i64 y.v.n, by simp [G.upd, d16], fun _ _ h => h, rfl, HBJ.out⟩
    · have d14 : u 19 = .int .i64 x.v.n := (hdep _ rfl ⟨14, .data⟩ (by simp) rfl).2
      have d17 : u 22 = .int .i64 y.v.n := (hdep _ rfl ⟨17, .data⟩ (by simp) rfl).2
      have HQ : Hid _ := cmp_i x.v.n y.v.n W
      refine wpOp_step rfl (fun K hK => ?_)
      clear hdep
      go_simp
      refine Calls.mono HQ.out ?_
      rintro e w8 ⟨rfl, rfl⟩
      exact hK _ _ ⟨.int .i64 (cmI x.v.n y.v.n), by simp [G.upd, d14, d17], fun _ _ h => h, rfl, HBJ.out⟩
    · refine wpOp_step rfl (fun K hK => ?_)
      clear hdep
      go_simp
      exact hK _ _ ⟨.pointer (some ⟨w.heap.size, 1, none⟩), by simp [G.upd], fun _ _ h => h, rfl, HBJ.out⟩
    · have d19 : u 24 = .pointer (some ⟨w.heap.size, 1, none⟩) := (hdep _ rfl ⟨19, .data⟩ (by simp) rfl).2
      refine wpOp_step rfl (fun K hK => ?_)
      clear hdep
      go_simp
      exact hK _ _ ⟨.pointer (some ⟨w.heap.size, 3, none⟩), by simp [G.upd, d19], fun _ _ h => h, rfl, HBJ.out⟩
    · have d20 : u 25 = .pointer (some ⟨w.heap.size, 3, none⟩) := (hdep _ rfl ⟨20, .data⟩ (by simp) rfl).2
      refine wpOp_step rfl (fun K hK => ?_)
      clear hdep
      go_simp
      exact hK _ _ ⟨.string x.v.t, by simp [G.upd, d20], fun _ _ h => h, rfl, HBJ.out⟩
    · refine wpOp_step rfl (fun K hK => ?_)
      clear hdep
      go_simp
      exact hK _ _ ⟨.pointer (some ⟨w.heap.size + 1, 1, none⟩), by simp [G.upd], fun _ _ h => h, rfl, HBJ.out⟩
    · have d22 : u 27 = .pointer (some ⟨w.heap.size + 1, 1, none⟩) := (hdep _ rfl ⟨22, .data⟩ (by simp) rfl).2
      refine wpOp_step rfl (fun K hK => ?_)
      clear hdep
      go_simp
      exact hK _ _ ⟨.pointer (some ⟨w.heap.size + 1, 3, none⟩), by simp [G.upd, d22], fun _ _ h => h, rfl, HBJ.out⟩
    · have d23 : u 28 = .pointer (some ⟨w.heap.size + 1, 3, none⟩) := (hdep _ rfl ⟨23, .data⟩ (by simp) rfl).2
      refine wpOp_step rfl (fun K hK => ?_)
      clear hdep
      go_simp
      exact hK _ _ ⟨.string y.v.t, by simp [G.upd, d23], fun _ _ h => h, rfl, HBJ.out⟩
    · have d21 : u 26 = .string x.v.t := (hdep _ rfl ⟨21, .data⟩ (by simp) rfl).2
      have d24 : u 29 = .string y.v.t := (hdep _ rfl ⟨24, .data⟩ (by simp) rfl).2
      have HQ : Hid _ := cmp_s x.v.t y.v.t W
      refine wpOp_step rfl (fun K hK => ?_)
      clear hdep
      go_simp
      refine Calls.mono HQ.out ?_
      rintro e w8 ⟨rfl, rfl⟩
      exact hK _ _ ⟨.int .i64 (cmS x.v.t y.v.t), by simp [G.upd, d21, d24], fun _ _ h => h, rfl, HBJ.out⟩
    · have d4 : u 9 = .int .i64 (cmS x.nm y.nm) := (hdep _ rfl ⟨4, .data⟩ (by simp) rfl).2
      have d11 : u 16 = .int .i64 (cmI x.v.k y.v.k) := (hdep _ rfl ⟨11, .data⟩ (by simp) rfl).2
      have d18 : u 23 = .int .i64 (cmI x.v.n y.v.n) := (hdep _ rfl ⟨18, .data⟩ (by simp) rfl).2
      have d25 : u 30 = .int .i64 (cmS x.v.t y.v.t) := (hdep _ rfl ⟨25, .data⟩ (by simp) rfl).2
      refine wpOp_step rfl (fun K hK => ?_)
      clear hdep
      go_simp
      exact hK _ _ ⟨.slice (some ⟨W.heap.size, 0, none⟩) 4 4, by simp [G.upd, d4, d11, d18, d25], fun j v h => PvC.up h (fun b hb => Below.heap_alloc _ _ _ hb), ⟨W.heap.size, rfl, heap_alloc_new _ _⟩, HBJ.out.alloc _⟩
    · obtain ⟨b, d26, hb⟩ : LsC x y (u 31) W := (hdep _ rfl ⟨26, .data⟩ (by simp) rfl).2
      have HQ : Hid (Calls Tryz.prog 166 #[.slice (some ⟨b, 0, none⟩) 4 4] W fun e w' => e = .returned (.int .i64 (cfA x y)) ∧ w' = W) := cmp_or_i [cmS x.nm y.nm, cmI x.v.k y.v.k, cmI x.v.n y.v.n, cmS x.v.t y.v.t] b W (fun k hk => by
          have hk4 : k = 0 ∨ k = 1 ∨ k = 2 ∨ k = 3 := by simp at hk; omega
          rcases hk4 with rfl | rfl | rfl | rfl <;> exact row_cell hb _) (by simp)
      refine wpOp_step rfl (fun K hK => ?_)
      clear hdep hb
      go_simp
      refine Calls.mono HQ.out ?_
      rintro e w8 ⟨rfl, rfl⟩
      exact hK _ _ ⟨.int .i64 (cfA x y), by simp [G.upd, d26], fun _ _ h => h, rfl, HBJ.out⟩
  case last =>
    intro D u W hLs hD hbW hp
    have HBL : Hid (GrW w W) := G9.out.trans hbW
    have d27 : u 32 = .int .i64 (cfA x y) := hp 27 (by omega)
    clear hp hbW T9 G9
    unfold G.wpTail
    refine wpOp_step rfl (fun K hK => ?_)
    go_simp
    refine hK _ _ ?_
    clear hK
    unfold G.wpTail
    go_wp2_with fail
    go_ret
    exact ⟨rfl, HBL.out⟩
end Go.Proofs.YtkjndghkimnjeaaGreat
