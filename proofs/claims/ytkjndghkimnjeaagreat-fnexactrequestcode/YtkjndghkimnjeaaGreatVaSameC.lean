/- sameAsked tells whether two selections ask for the same. -/
import Derived.Test.YtkjndghkimnjeaaGreatVaEqual
import Derived.Test.YtkjndghkimnjeaaGreatGRegionSix
namespace Go.Proofs.YtkjndghkimnjeaaGreat
open Go.ChangeShapes Go.WideShapes Go.ChangeAt Go.RowKit Go.Maps
set_option linter.unusedVariables false

def SrtAt (l : List Ar) (v : Value) (W : World) : Prop := ∃ a c, v = .slice a l.length c ∧ ArRow 0 W.heap.size W a (srt l)
theorem SrtAt.up {l : List Ar} {v : Value} {W W' : World} (h : SrtAt l v W) (hb : Below W.heap.size W W') : SrtAt l v W' := by
  obtain ⟨a, c, e, hr⟩ := h
  exact ⟨a, c, e, Row.up hr hb⟩
def sameC (x y : Hd) : Bool := (x.nm.toList == y.nm.toList) && Lib.allEq arE (srt x.args) (srt y.args)
def PvT (w : World) (x y : Hd × Sels) (a1 b1 : Option Addr) (c1 e1 : Nat) (iz : Nat) (v : Value) (W : World) : Prop := if iz = 8 then SrtAt x.1.args v W else if iz = 11 then SrtAt y.1.args v W else match iz with | 0 => v = .pointer (some ⟨w.heap.size, 2, none⟩) | 1 => v = .string x.1.nm | 2 => v = .pointer (some ⟨w.heap.size + 1, 2, none⟩) | 3 => v = .string y.1.nm | 4 => v = .bool true | 5 => v = .bool true | 6 => v = .pointer (some ⟨w.heap.size, 3, none⟩) | 7 => v = .slice a1 x.1.args.length c1 | 9 => v = .pointer (some ⟨w.heap.size + 1, 3, none⟩) | 10 => v = .slice b1 y.1.args.length e1 | 12 => v = .bool (Lib.allEq arE (srt x.1.args) (srt y.1.args)) | 13 => v = .bool (Lib.allEq arE (srt x.1.args) (srt y.1.args)) | _ => True
theorem PvT.up {w : World} {x y : Hd × Sels} {a1 b1 : Option Addr} {c1 e1 : Nat} {iz : Nat} {v : Value} {W W' : World} (h : PvT w x y a1 b1 c1 e1 iz v W) (hb : Below W.heap.size W W') : PvT w x y a1 b1 c1 e1 iz v W' := by
  unfold PvT at h ⊢
  by_cases e : iz = 8
  · rw [if_pos e] at h ⊢; exact h.up hb
  rw [if_neg e] at h ⊢
  by_cases e' : iz = 11
  · rw [if_pos e'] at h ⊢; exact h.up hb
  rw [if_neg e'] at h ⊢; exact h
set_option maxHeartbeats 8000000 in
set_option maxRecDepth 40000 in
theorem same_asked (x y : Hd × Sels) (a1 a2 a3 b1 b2 b3 : Option Addr) (c1 c2 c3 e1 e2 e3 : Nat) (w : World) (r1 : ArRow 0 w.heap.size w a1 x.1.args) (r2 : ArRow 0 w.heap.size w b1 y.1.args) (h1 : x.1.args.length ≤ 1048576) (h2 : y.1.args.length ≤ 1048576) :
    Calls Tryz.prog 134 #[.agg #[.int .i64 x.1.k, .string x.1.al, .string x.1.nm, .slice a1 x.1.args.length c1, .slice a2 x.1.dirs.length c2, .slice a3 x.2.len c3], .agg #[.int .i64 y.1.k, .string y.1.al, .string y.1.nm, .slice b1 y.1.args.length e1, .slice b2 y.1.dirs.length e2, .slice b3 y.2.len e3]] w fun e w' => e = .returned (.bool (sameC x.1 y.1)) ∧ Below w.heap.size w w' := by
  obtain ⟨R, HR⟩ : ∃ R, Hid (R = sameC x.1 y.1) := ⟨_, rfl⟩
  rw [← HR.out]
  obtain ⟨w9, hw9⟩ : ∃ V, V = (w.alloc (.cells #[.int .i64 x.1.k, .string x.1.al, .string x.1.nm, .slice a1 x.1.args.length c1, .slice a2 x.1.dirs.length c2, .slice a3 x.2.len c3] 115)).alloc (.cells #[.int .i64 y.1.k, .string y.1.al, .string y.1.nm, .slice b1 y.1.args.length e1, .slice b2 y.1.dirs.length e2, .slice b3 y.2.len e3] 115) := ⟨_, rfl⟩
  have G9 : Hid (Below w.heap.size w w9) := by rw [Hid, hw9]; exact ((Below.refl _ _).alloc (Nat.le_refl _) _).alloc (by simp) _
  have c0 : w9.heap[w.heap.size]? = some (.cells #[.int .i64 x.1.k, .string x.1.al, .string x.1.nm, .slice a1 x.1.args.length c1, .slice a2 x.1.dirs.length c2, .slice a3 x.2.len c3] 115 (0, 0)) := by
    rw [hw9, Below.heap_alloc _ _ _ (by simp)]; exact heap_alloc_new _ _
  have c1' : w9.heap[w.heap.size + 1]? = some (.cells #[.int .i64 y.1.k, .string y.1.al, .string y.1.nm, .slice b1 y.1.args.length e1, .slice b2 y.1.dirs.length e2, .slice b3 y.2.len e3] 115 (0, 0)) := by
    rw [hw9]
    have := heap_alloc_new (w.alloc (.cells #[.int .i64 x.1.k, .string x.1.al, .string x.1.nm, .slice a1 x.1.args.length c1, .slice a2 x.1.dirs.length c2, .slice a3 x.2.len c3] 115)) (.cells #[.int .i64 y.1.k, .string y.1.al, .string y.1.nm, .slice b1 y.1.args.length e1, .slice b2 y.1.dirs.length e2, .slice b3 y.2.len e3] 115)
    simpa using this
  have T9 : Hid (∀ W, Below w9.heap.size w9 W → (∀ o, W.cell? ⟨w.heap.size, o, none⟩ = (#[.int .i64 x.1.k, .string x.1.al, .string x.1.nm, .slice a1 x.1.args.length c1, .slice a2 x.1.dirs.length c2, .slice a3 x.2.len c3] : Array Value)[o]?) ∧ (∀ o, W.cell? ⟨w.heap.size + 1, o, none⟩ = (#[.int .i64 y.1.k, .string y.1.al, .string y.1.nm, .slice b1 y.1.args.length e1, .slice b2 y.1.dirs.length e2, .slice b3 y.2.len e3] : Array Value)[o]?) ∧ ArRow 0 W.heap.size W a1 x.1.args ∧ ArRow 0 W.heap.size W b1 y.1.args ∧ Below w.heap.size w W) := fun W hW =>
    have hw := G9.out.trans (hW.mono G9.out.size)
    ⟨fun o => row_cell ((hW.block _ (Array.getElem?_eq_some_iff.1 c0).1).trans c0) o, fun o => row_cell ((hW.block _ (Array.getElem?_eq_some_iff.1 c1').1).trans c1') o, Row.up r1 hw, Row.up r2 hw, hw⟩
  clear c0 c1' r1 r2
  go_enter Tryz.func134, Tryz.ntmps134
  go_upto_region 1 with fail
  rw [← hw9]
  clear hw9
  cases hn : (x.1.nm.toList == y.1.nm.toList) with
  | false =>
    have HE : Hid (R = false) := by rw [Hid, HR.out]; unfold sameC; rw [hn]; rfl
    refine G.region_rel5 (n := 14) (k := 1) (by omega) (by kernel_rfl) (by kernel_rfl) (by kernel_rfl) (fun u => ⟨#[.agg #[.int .i64 x.1.k, .string x.1.al, .string x.1.nm, .slice a1 x.1.args.length c1, .slice a2 x.1.dirs.length c2, .slice a3 x.2.len c3], .agg #[.int .i64 y.1.k, .string y.1.al, .string y.1.nm, .slice b1 y.1.args.length e1, .slice b2 y.1.dirs.length e2, .slice b3 y.2.len e3], .pointer (some ⟨w.heap.size, 0, none⟩), .pointer (some ⟨w.heap.size + 1, 0, none⟩), u 4, u 5, u 6, u 7, u 8, u 9, u 10, u 11, u 12, u 13, u 14, u 15, u 16, u 17, u 18], []⟩) (fun nz => match nz with | 4 => .bool false | _ => undef) (fun iz => [5, 6, 7, 8, 9, 10, 11, 12, 13, 14, 15, 16, 17, 18].getD iz 0) (fun iz jz hi hj h => (by decide : ∀ i, i < 14 → ∀ j, j < 14 → [5, 6, 7, 8, 9, 10, 11, 12, 13, 14, 15, 16, 17, 18].getD i 0 = [5, 6, 7, 8, 9, 10, 11, 12, 13, 14, 15, 16, 17, 18].getD j 0 → i = j) iz hi jz hj h)
      (fun iz v _ => match iz with | 0 => v = .pointer (some ⟨w.heap.size, 2, none⟩) | 1 => v = .string x.1.nm | 2 => v = .pointer (some ⟨w.heap.size + 1, 2, none⟩) | 3 => v = .string y.1.nm | 4 => v = .bool false | 5 => v = .bool false | 13 => v = .bool false | _ => True) (fun _ _ W => Below w9.heap.size w9 W) (Below.refl _ _).drew ?step ?last
    case step =>
      intro D u W iq hi hLs hLi hbW hdep
      have HBJ : Hid (Below w9.heap.size w9 W) := hbW
      obtain ⟨x0, y0, q1, q2, _⟩ := T9.out W hbW
      have Q1 : Hid (ArRow 0 W.heap.size W a1 x.1.args) := q1
      have Q2 : Hid (ArRow 0 W.heap.size W b1 y.1.args) := q2
      have hcase : iq = 0 ∨ iq = 1 ∨ iq = 2 ∨ iq = 3 ∨ iq = 4 ∨ iq = 5 ∨ iq = 6 ∨ iq = 7 ∨ iq = 8 ∨ iq = 9 ∨ iq = 10 ∨ iq = 11 ∨ iq = 12 ∨ iq = 13 := by omega
      clear hbW hLi hi q1 q2
      rcases hcase with rfl | rfl | rfl | rfl | rfl | rfl | rfl | rfl | rfl | rfl | rfl | rfl | rfl | rfl
      · refine wpOp_step rfl (fun K hK => ?_)
        clear hdep
        go_simp
        exact hK _ _ ⟨.pointer (some ⟨w.heap.size, 2, none⟩), by simp [G.upd], fun _ _ h => h, rfl, HBJ.out⟩
      · have d0 : u 5 = .pointer (some ⟨w.heap.size, 2, none⟩) := (hdep _ rfl ⟨0, .data⟩ (by simp) rfl).2
        refine wpOp_step rfl (fun K hK => ?_)
        clear hdep
        go_simp
        exact hK _ _ ⟨.string x.1.nm, by simp [G.upd, d0], fun _ _ h => h, rfl, HBJ.out⟩
      · refine wpOp_step rfl (fun K hK => ?_)
        clear hdep
        go_simp
        exact hK _ _ ⟨.pointer (some ⟨w.heap.size + 1, 2, none⟩), by simp [G.upd], fun _ _ h => h, rfl, HBJ.out⟩
      · have d2 : u 7 = .pointer (some ⟨w.heap.size + 1, 2, none⟩) := (hdep _ rfl ⟨2, .data⟩ (by simp) rfl).2
        refine wpOp_step rfl (fun K hK => ?_)
        clear hdep
        go_simp
        exact hK _ _ ⟨.string y.1.nm, by simp [G.upd, d2], fun _ _ h => h, rfl, HBJ.out⟩
      · have d1 : u 6 = .string x.1.nm := (hdep _ rfl ⟨1, .data⟩ (by simp) rfl).2
        have d3 : u 8 = .string y.1.nm := (hdep _ rfl ⟨3, .data⟩ (by simp) rfl).2
        refine wpOp_step rfl (fun K hK => ?_)
        clear hdep
        go_simp
        exact hK _ _ ⟨.bool false, by simp [G.upd, d1, d3], fun _ _ h => h, rfl, HBJ.out⟩
      · have d4 : u 9 = .bool false := (hdep _ rfl ⟨4, .data⟩ (by simp) rfl).2
        refine wpOp_step rfl (fun K hK => ?_)
        clear hdep
        go_simp
        exact hK _ _ ⟨.bool false, by simp [G.upd, d4], fun _ _ h => h, rfl, HBJ.out⟩
      · have d5 : u 10 = .bool false := (hdep _ rfl ⟨5, .guard⟩ (by simp) rfl).2
        refine wpOp_step rfl (fun K hK => ?_)
        clear hdep
        go_simp
        exact hK _ _ ⟨undef, by simp [G.upd, d5], fun _ _ h => h, trivial, HBJ.out⟩
      · have d5 : u 10 = .bool false := (hdep _ rfl ⟨5, .guard⟩ (by simp) rfl).2
        refine wpOp_step rfl (fun K hK => ?_)
        clear hdep
        go_simp
        exact hK _ _ ⟨undef, by simp [G.upd, d5], fun _ _ h => h, trivial, HBJ.out⟩
      · have d5 : u 10 = .bool false := (hdep _ rfl ⟨5, .guard⟩ (by simp) rfl).2
        refine wpOp_step rfl (fun K hK => ?_)
        clear hdep
        go_simp
        exact hK _ _ ⟨undef, by simp [G.upd, d5], fun _ _ h => h, trivial, HBJ.out⟩
      · have d5 : u 10 = .bool false := (hdep _ rfl ⟨5, .guard⟩ (by simp) rfl).2
        refine wpOp_step rfl (fun K hK => ?_)
        clear hdep
        go_simp
        exact hK _ _ ⟨undef, by simp [G.upd, d5], fun _ _ h => h, trivial, HBJ.out⟩
      · have d5 : u 10 = .bool false := (hdep _ rfl ⟨5, .guard⟩ (by simp) rfl).2
        refine wpOp_step rfl (fun K hK => ?_)
        clear hdep
        go_simp
        exact hK _ _ ⟨undef, by simp [G.upd, d5], fun _ _ h => h, trivial, HBJ.out⟩
      · have d5 : u 10 = .bool false := (hdep _ rfl ⟨5, .guard⟩ (by simp) rfl).2
        refine wpOp_step rfl (fun K hK => ?_)
        clear hdep
        go_simp
        exact hK _ _ ⟨undef, by simp [G.upd, d5], fun _ _ h => h, trivial, HBJ.out⟩
      · have d5 : u 10 = .bool false := (hdep _ rfl ⟨5, .guard⟩ (by simp) rfl).2
        refine wpOp_step rfl (fun K hK => ?_)
        clear hdep
        go_simp
        exact hK _ _ ⟨undef, by simp [G.upd, d5], fun _ _ h => h, trivial, HBJ.out⟩
      · have d5 : u 10 = .bool false := (hdep _ rfl ⟨5, .data⟩ (by simp) rfl).2
        refine wpOp_step rfl (fun K hK => ?_)
        clear hdep
        go_simp
        exact hK _ _ ⟨.bool false, by simp [G.upd, d5], fun _ _ h => h, rfl, HBJ.out⟩
    case last =>
      intro D u W hLs hD hbW hp
      have HBL : Hid (Below w.heap.size w W) := (T9.out W hbW).2.2.2.2
      have d13 : u 18 = .bool false := hp 13 (by omega)
      clear hp hbW T9 G9
      unfold G.wpTail
      refine wpOp_step rfl (fun K hK => ?_)
      go_simp
      refine hK _ _ ?_
      clear hK
      unfold G.wpTail
      go_wp2_with fail
      go_ret
      exact ⟨by rw [HE.out]; rfl, HBL.out⟩
  | true =>
    have HE : Hid (R = (Lib.allEq arE (srt x.1.args) (srt y.1.args))) := by rw [Hid, HR.out]; unfold sameC; rw [hn]; rfl
    refine G.region_rel5 (n := 14) (k := 1) (by omega) (by kernel_rfl) (by kernel_rfl) (by kernel_rfl) (fun u => ⟨#[.agg #[.int .i64 x.1.k, .string x.1.al, .string x.1.nm, .slice a1 x.1.args.length c1, .slice a2 x.1.dirs.length c2, .slice a3 x.2.len c3], .agg #[.int .i64 y.1.k, .string y.1.al, .string y.1.nm, .slice b1 y.1.args.length e1, .slice b2 y.1.dirs.length e2, .slice b3 y.2.len e3], .pointer (some ⟨w.heap.size, 0, none⟩), .pointer (some ⟨w.heap.size + 1, 0, none⟩), u 4, u 5, u 6, u 7, u 8, u 9, u 10, u 11, u 12, u 13, u 14, u 15, u 16, u 17, u 18], []⟩) (fun nz => match nz with | 4 => .bool false | _ => undef) (fun iz => [5, 6, 7, 8, 9, 10, 11, 12, 13, 14, 15, 16, 17, 18].getD iz 0) (fun iz jz hi hj h => (by decide : ∀ i, i < 14 → ∀ j, j < 14 → [5, 6, 7, 8, 9, 10, 11, 12, 13, 14, 15, 16, 17, 18].getD i 0 = [5, 6, 7, 8, 9, 10, 11, 12, 13, 14, 15, 16, 17, 18].getD j 0 → i = j) iz hi jz hj h)
      (PvT w x y a1 b1 c1 e1) (fun _ _ W => Below w9.heap.size w9 W) (Below.refl _ _).drew ?step ?last
    case step =>
      intro D u W iq hi hLs hLi hbW hdep
      have HBJ : Hid (Below w9.heap.size w9 W) := hbW
      obtain ⟨x0, y0, q1, q2, _⟩ := T9.out W hbW
      have Q1 : Hid (ArRow 0 W.heap.size W a1 x.1.args) := q1
      have Q2 : Hid (ArRow 0 W.heap.size W b1 y.1.args) := q2
      have hcase : iq = 0 ∨ iq = 1 ∨ iq = 2 ∨ iq = 3 ∨ iq = 4 ∨ iq = 5 ∨ iq = 6 ∨ iq = 7 ∨ iq = 8 ∨ iq = 9 ∨ iq = 10 ∨ iq = 11 ∨ iq = 12 ∨ iq = 13 := by omega
      clear hbW hLi hi q1 q2
      rcases hcase with rfl | rfl | rfl | rfl | rfl | rfl | rfl | rfl | rfl | rfl | rfl | rfl | rfl | rfl
      · refine wpOp_step rfl (fun K hK => ?_)
        clear hdep
        go_simp
        exact hK _ _ ⟨.pointer (some ⟨w.heap.size, 2, none⟩), by simp [G.upd], fun _ _ h => h, rfl, HBJ.out⟩
      · have d0 : u 5 = .pointer (some ⟨w.heap.size, 2, none⟩) := (hdep _ rfl ⟨0, .data⟩ (by simp) rfl).2
        refine wpOp_step rfl (fun K hK => ?_)
        clear hdep
        go_simp
        exact hK _ _ ⟨.string x.1.nm, by simp [G.upd, d0], fun _ _ h => h, rfl, HBJ.out⟩
      · refine wpOp_step rfl (fun K hK => ?_)
        clear hdep
        go_simp
        exact hK _ _ ⟨.pointer (some ⟨w.heap.size + 1, 2, none⟩), by simp [G.upd], fun _ _ h => h, rfl, HBJ.out⟩
      · have d2 : u 7 = .pointer (some ⟨w.heap.size + 1, 2, none⟩) := (hdep _ rfl ⟨2, .data⟩ (by simp) rfl).2
        refine wpOp_step rfl (fun K hK => ?_)
        clear hdep
        go_simp
        exact hK _ _ ⟨.string y.1.nm, by simp [G.upd, d2], fun _ _ h => h, rfl, HBJ.out⟩
      · have d1 : u 6 = .string x.1.nm := (hdep _ rfl ⟨1, .data⟩ (by simp) rfl).2
        have d3 : u 8 = .string y.1.nm := (hdep _ rfl ⟨3, .data⟩ (by simp) rfl).2
        refine wpOp_step rfl (fun K hK => ?_)
        clear hdep
        go_simp
        exact hK _ _ ⟨.bool true, by simp [G.upd, d1, d3], fun _ _ h => h, rfl, HBJ.out⟩
      · have d4 : u 9 = .bool true := (hdep _ rfl ⟨4, .data⟩ (by simp) rfl).2
        refine wpOp_step rfl (fun K hK => ?_)
        clear hdep
        go_simp
        exact hK _ _ ⟨.bool true, by simp [G.upd, d4], fun _ _ h => h, rfl, HBJ.out⟩
      · have d5 : u 10 = .bool true := (hdep _ rfl ⟨5, .guard⟩ (by simp) rfl).2
        refine wpOp_step rfl (fun K hK => ?_)
        clear hdep
        go_simp
        exact hK _ _ ⟨.pointer (some ⟨w.heap.size, 3, none⟩), by simp [G.upd, d5], fun _ _ h => h, rfl, HBJ.out⟩
      · have d5 : u 10 = .bool true := (hdep _ rfl ⟨5, .guard⟩ (by simp) rfl).2
        have d6 : u 11 = .pointer (some ⟨w.heap.size, 3, none⟩) := (hdep _ rfl ⟨6, .data⟩ (by simp) rfl).2
        refine wpOp_step rfl (fun K hK => ?_)
        clear hdep
        go_simp
        exact hK _ _ ⟨.slice a1 x.1.args.length c1, by simp [G.upd, d5, d6], fun _ _ h => h, rfl, HBJ.out⟩
      · have d5 : u 10 = .bool true := (hdep _ rfl ⟨5, .guard⟩ (by simp) rfl).2
        have d7 : u 12 = .slice a1 x.1.args.length c1 := (hdep _ rfl ⟨7, .data⟩ (by simp) rfl).2
        have HQ : Hid _ := sorted_args a1 c1 x.1.args h1 W Q1.out
        refine wpOp_step rfl (fun K hK => ?_)
        clear hdep
        go_simp
        refine Calls.mono HQ.out ?_
        rintro e w8 ⟨⟨a', c', rfl, hr8⟩, b8⟩
        exact hK _ _ ⟨.slice a' x.1.args.length c', by simp [G.upd, d5, d7], fun _ _ h => PvT.up h b8, ⟨a', c', rfl, hr8⟩, HBJ.out.trans (b8.mono HBJ.out.size)⟩
      · have d5 : u 10 = .bool true := (hdep _ rfl ⟨5, .guard⟩ (by simp) rfl).2
        refine wpOp_step rfl (fun K hK => ?_)
        clear hdep
        go_simp
        exact hK _ _ ⟨.pointer (some ⟨w.heap.size + 1, 3, none⟩), by simp [G.upd, d5], fun _ _ h => h, rfl, HBJ.out⟩
      · have d5 : u 10 = .bool true := (hdep _ rfl ⟨5, .guard⟩ (by simp) rfl).2
        have d9 : u 14 = .pointer (some ⟨w.heap.size + 1, 3, none⟩) := (hdep _ rfl ⟨9, .data⟩ (by simp) rfl).2
        refine wpOp_step rfl (fun K hK => ?_)
        clear hdep
        go_simp
        exact hK _ _ ⟨.slice b1 y.1.args.length e1, by simp [G.upd, d5, d9], fun _ _ h => h, rfl, HBJ.out⟩
      · have d5 : u 10 = .bool true := (hdep _ rfl ⟨5, .guard⟩ (by simp) rfl).2
        have d10 : u 15 = .slice b1 y.1.args.length e1 := (hdep _ rfl ⟨10, .data⟩ (by simp) rfl).2
        have HQ : Hid _ := sorted_args b1 e1 y.1.args h2 W Q2.out
        refine wpOp_step rfl (fun K hK => ?_)
        clear hdep
        go_simp
        refine Calls.mono HQ.out ?_
        rintro e w8 ⟨⟨a', c', rfl, hr8⟩, b8⟩
        exact hK _ _ ⟨.slice a' y.1.args.length c', by simp [G.upd, d5, d10], fun _ _ h => PvT.up h b8, ⟨a', c', rfl, hr8⟩, HBJ.out.trans (b8.mono HBJ.out.size)⟩
      · have d5 : u 10 = .bool true := (hdep _ rfl ⟨5, .guard⟩ (by simp) rfl).2
        obtain ⟨ax, cx, d8, rx⟩ : SrtAt x.1.args (u 13) W := (hdep _ rfl ⟨8, .data⟩ (by simp) rfl).2
        obtain ⟨ay, cy, d11, ry⟩ : SrtAt y.1.args (u 16) W := (hdep _ rfl ⟨11, .data⟩ (by simp) rfl).2
        have HQ : Hid (Calls Tryz.prog 148 #[.slice ax x.1.args.length cx, .slice ay y.1.args.length cy] W fun e w' => e = .returned (.bool (Lib.allEq arE (srt x.1.args) (srt y.1.args))) ∧ Below W.heap.size W w') := by
          have := equal_args (srt x.1.args) (srt y.1.args) ax ay cx cy W rx ry (by rw [srt_len]; exact h1) (by rw [srt_len]; exact h2)
          rw [srt_len, srt_len] at this
          exact this
        refine wpOp_step rfl (fun K hK => ?_)
        clear hdep rx ry
        go_simp
        refine Calls.mono HQ.out ?_
        rintro e w8 ⟨rfl, b8⟩
        exact hK _ _ ⟨.bool (Lib.allEq arE (srt x.1.args) (srt y.1.args)), by simp [G.upd, d5, d8, d11], fun _ _ h => PvT.up h b8, rfl, HBJ.out.trans (b8.mono HBJ.out.size)⟩
      · have d5 : u 10 = .bool true := (hdep _ rfl ⟨5, .data⟩ (by simp) rfl).2
        have d12 : u 17 = .bool (Lib.allEq arE (srt x.1.args) (srt y.1.args)) := (hdep _ rfl ⟨12, .data⟩ (by simp) rfl).2
        refine wpOp_step rfl (fun K hK => ?_)
        clear hdep
        go_simp
        exact hK _ _ ⟨.bool (Lib.allEq arE (srt x.1.args) (srt y.1.args)), by simp [G.upd, d5, d12], fun _ _ h => h, rfl, HBJ.out⟩
    case last =>
      intro D u W hLs hD hbW hp
      have HBL : Hid (Below w.heap.size w W) := (T9.out W hbW).2.2.2.2
      have d13 : u 18 = .bool (Lib.allEq arE (srt x.1.args) (srt y.1.args)) := hp 13 (by omega)
      clear hp hbW T9 G9
      unfold G.wpTail
      refine wpOp_step rfl (fun K hK => ?_)
      go_simp
      refine hK _ _ ?_
      clear hK
      unfold G.wpTail
      go_wp2_with fail
      go_ret
      exact ⟨by rw [HE.out]; rfl, HBL.out⟩
end Go.Proofs.YtkjndghkimnjeaaGreat
namespace Go.Proofs.YtkjndghkimnjeaaGreat
open Go.Sort
set_option linter.unusedVariables false

theorem srt_sorted (a : List Ar) : (srt a).Pairwise fun x y => (!(ltOf cfA) y x) = true := by
  refine List.pairwise_mergeSort (fun x y z h h' => ?_) (fun x y => ?_) a
  · simp only [Bool.not_eq_true', ltOf] at *
    exact cfA_co.swo.ntrans z y x h' h
  · simp only [Bool.or_eq_true, Bool.not_eq_true', ltOf, decide_eq_false_iff_not, Int.not_lt]
    have := cfA_co.sym x y
    have := cfA_co.sym y x
    omega
theorem srt_iff (a b : List Ar) : srt a = srt b ↔ a.Perm b := by
  constructor
  · intro h
    exact (srt_perm a).symm.trans (h ▸ srt_perm b)
  · intro h
    refine List.Perm.eq_of_pairwise (le := fun x y => (!(ltOf cfA) y x) = true) (fun x y _ _ h1 h2 => ?_) (srt_sorted a) (srt_sorted b) (((srt_perm a).trans h).trans (srt_perm b).symm)
    simp only [Bool.not_eq_true'] at h1 h2
    exact cfA_tot x y h2 h1
theorem sameC_iff (x y : Hd) : sameC x y = true ↔ SameA x y := by
  unfold sameC SameA
  rw [Bool.and_eq_true, beq_iff_eq, allEq_iff, srt_iff]
end Go.Proofs.YtkjndghkimnjeaaGreat
