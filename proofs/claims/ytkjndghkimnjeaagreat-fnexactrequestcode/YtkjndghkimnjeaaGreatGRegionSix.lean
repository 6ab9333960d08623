/- A region that draws its order, all its operations in whatever order their edges allow, none forced: each says by itself what stays. -/
import Derived.Test.YtkjndghkimnjeaaGreatVaGrp
import Derived.Laws.OwnMore
import Derived.Test.YtkjndghkimnjeaaGreatGRegionFive
namespace Go.Proofs.YtkjndghkimnjeaaGreat
open Go.ChangeShapes Go.WideShapes Go.ChangeAt Go.RowKit Go.Maps
set_option linter.unusedVariables false

theorem set_behind (vs zs : List Value) (n j : Nat) (y : Value) (hn : vs.length = n) : (vs ++ zs).set (n + j) y = vs ++ zs.set j y := by
  rw [List.set_append_right (n + j) y (by omega)]
  congr 2; omega
/-- A selection's six cells, written one by one. -/
abbrev putSel (W : World) (g o : Nat) (x : Hd × Sels) (a1 a2 a3 : Option Addr) (c1 c2 c3 : Nat) : World :=
  (((((W.setCell ⟨g, o, none⟩ (.int .i64 x.1.k)).setCell ⟨g, o + 1, none⟩ (.string x.1.al)).setCell ⟨g, o + 2, none⟩ (.string x.1.nm)).setCell ⟨g, o + 3, none⟩ (.slice a1 x.1.args.length c1)).setCell ⟨g, o + 4, none⟩ (.slice a2 x.1.dirs.length c2)).setCell ⟨g, o + 5, none⟩ (.slice a3 x.2.len c3)
abbrev selZ : Array Value := #[.int .i64 0, .string ⟨#[]⟩, .string ⟨#[]⟩, .slice none 0 0, .slice none 0 0, .slice none 0 0]
theorem putSel_block (W : World) (g o : Nat) (x : Hd × Sels) (a1 a2 a3 : Option Addr) (c1 c2 c3 : Nat) {k : Nat} (h : k ≠ g) : (putSel W g o x a1 a2 a3 c1 c2 c3).heap[k]? = W.heap[k]? := by
  unfold putSel
  repeat rw [heap_setCell_other _ _ _ _ h]
theorem putSel_size (W : World) (g o : Nat) (x : Hd × Sels) (a1 a2 a3 : Option Addr) (c1 c2 c3 : Nat) : (putSel W g o x a1 a2 a3 c1 c2 c3).heap.size = W.heap.size := by
  unfold putSel; simp
theorem setCell_st (W : World) (a : Addr) (u : Value) : (W.setCell a u).os = W.os ∧ (W.setCell a u).tape = W.tape ∧ (W.setCell a u).output = W.output := ⟨rfl, rfl, rfl⟩
theorem alloc_st (W : World) (o : Obj) : (W.alloc o).os = W.os ∧ (W.alloc o).tape = W.tape ∧ (W.alloc o).output = W.output := ⟨rfl, rfl, rfl⟩
theorem putSel_st (W : World) (g o : Nat) (x : Hd × Sels) (a1 a2 a3 : Option Addr) (c1 c2 c3 : Nat) : (putSel W g o x a1 a2 a3 c1 c2 c3).os = W.os ∧ (putSel W g o x a1 a2 a3 c1 c2 c3).tape = W.tape ∧ (putSel W g o x a1 a2 a3 c1 c2 c3).output = W.output := by
  unfold putSel
  refine ⟨?_, ?_, ?_⟩
  · rw [(setCell_st _ _ _).1, (setCell_st _ _ _).1, (setCell_st _ _ _).1, (setCell_st _ _ _).1, (setCell_st _ _ _).1, (setCell_st _ _ _).1]
  · rw [(setCell_st _ _ _).2.1, (setCell_st _ _ _).2.1, (setCell_st _ _ _).2.1, (setCell_st _ _ _).2.1, (setCell_st _ _ _).2.1, (setCell_st _ _ _).2.1]
  · rw [(setCell_st _ _ _).2.2, (setCell_st _ _ _).2.2, (setCell_st _ _ _).2.2, (setCell_st _ _ _).2.2, (setCell_st _ _ _).2.2, (setCell_st _ _ _).2.2]
theorem grow_one (w0 w : World) (base : Nat) (v : Value) (f : List (Hd × Sels)) (x : Hd × Sels) (a1 a2 a3 : Option Addr) (c1 c2 c3 : Nat) (hown : FOwn w0 base 115 w v f) (hl : f.length + 1 ≤ 1048576) (hb : base ≤ w.heap.size)
    (r1 : ArRow 0 w0.heap.size w0 a1 x.1.args) (hq : x.1.args.length ≤ c1) (r2 : DiRow 0 w0.heap.size w0 a2 x.1.dirs) (r3 : SelRow 0 w0.heap.size w0 a3 x.2) :
    ∃ g cap W8, (Builtin.append_ #[76, 76] 76 #[v, .slice (some ⟨w.heap.size, 0, none⟩) 1 1]).run Tryz.prog (w.alloc (.cells selZ 115)) = .ok (.slice (some ⟨g, 0, none⟩) (f.length + 1) cap) W8 ∧
      FOwn w0 base 115 (putSel W8 g (f.length * 6) x a1 a2 a3 c1 c2 c3) (.slice (some ⟨g, 0, none⟩) (f.length + 1) cap) (f ++ [x]) ∧
      (w.alloc (.cells selZ 115)).grownBy W8 v.ownBlock ∧ (v.ownBlock = some g ∨ g = w.heap.size + 1) ∧ g < W8.heap.size ∧
      (∀ j, W8.frozen? ⟨g, j, none⟩ = false) ∧ W8.cell? ⟨g, f.length * 6, none⟩ = some (.int .i64 0) ∧ W8.cell? ⟨g, f.length * 6 + 1, none⟩ = some (.string ⟨#[]⟩) ∧ W8.cell? ⟨g, f.length * 6 + 2, none⟩ = some (.string ⟨#[]⟩) ∧ W8.cell? ⟨g, f.length * 6 + 3, none⟩ = some (.slice none 0 0) ∧ W8.cell? ⟨g, f.length * 6 + 4, none⟩ = some (.slice none 0 0) ∧ W8.cell? ⟨g, f.length * 6 + 5, none⟩ = some (.slice none 0 0) := by
  obtain ⟨i, hi, hz, hsz, hby⟩ := info_selV
  obtain ⟨vs, hown, hv⟩ := hown
  have hvl : vs.length = f.length * 6 := hv.1
  have hA := hown.alloc (.cells selZ 115)
  have hsA : (w.alloc (.cells selZ 115)).heap.size = w.heap.size + 1 := by simp
  obtain ⟨g, cap, W8, hrun, o8, gr, hat, hlt⟩ := run_append_lies (P := Tryz.prog) (w.alloc (.cells selZ 115)) 76 76 base 115 i _ 6 112 Tryz.underlying76 hi hz hsz hby rfl (by decide) v f.length vs hA ⟨w.heap.size, 0, none⟩ 1 1 selZ.toList rfl (fun j u hj => by
    rw [add_plain]
    have := row_cell (heap_alloc_new w (.cells selZ 115)) (0 + j)
    rw [this, ← hj]
    simp) (fun u hu => by
      simp only [List.mem_cons, List.not_mem_nil, or_false] at hu
      rcases hu with rfl | rfl | rfl | rfl | rfl | rfl <;> rfl) (by omega) (by unfold maxLen; omega) (by omega) (by omega) _ hsA
  refine ⟨g, cap, W8, hrun, ?_, gr, hat, hlt, fun j => o8.frozenAt j, ?_⟩
  · have s0 := (o8.stored (f.length * 6) (.int .i64 x.1.k)).1
    have s1 := (s0.stored (f.length * 6 + 1) (.string x.1.al)).1
    have s2 := (s1.stored (f.length * 6 + 2) (.string x.1.nm)).1
    have s3 := (s2.stored (f.length * 6 + 3) (.slice a1 x.1.args.length c1)).1
    have s4 := (s3.stored (f.length * 6 + 4) (.slice a2 x.1.dirs.length c2)).1
    have s5 := (s4.stored (f.length * 6 + 5) (.slice a3 x.2.len c3)).1
    rw [show f.length * 6 = f.length * 6 + 0 from rfl] at s5
    simp only [Nat.add_zero] at s5
    refine ⟨vs ++ [.int .i64 x.1.k, .string x.1.al, .string x.1.nm, .slice a1 x.1.args.length c1, .slice a2 x.1.dirs.length c2, .slice a3 x.2.len c3], ?_, hv.append (VsOf.one r1 hq r2 r3)⟩
    rw [List.length_append]
    have e : ((((((vs ++ selZ.toList).set (f.length * 6) (.int .i64 x.1.k)).set (f.length * 6 + 1) (.string x.1.al)).set (f.length * 6 + 2) (.string x.1.nm)).set (f.length * 6 + 3) (.slice a1 x.1.args.length c1)).set (f.length * 6 + 4) (.slice a2 x.1.dirs.length c2)).set (f.length * 6 + 5) (.slice a3 x.2.len c3) = vs ++ [.int .i64 x.1.k, .string x.1.al, .string x.1.nm, .slice a1 x.1.args.length c1, .slice a2 x.1.dirs.length c2, .slice a3 x.2.len c3] := by
      have h0 := set_behind vs selZ.toList (f.length * 6) 0 (.int .i64 x.1.k) hvl
      rw [Nat.add_zero] at h0
      rw [h0]
      repeat rw [set_behind vs _ (f.length * 6) _ _ hvl]
      rfl
    rw [← e]
    exact s5
  · have c : ∀ j, j < 6 → W8.cell? ⟨g, f.length * 6 + j, none⟩ = selZ.toList[j]? := fun j hj => by
      rw [o8.cellAt (f.length * 6 + j) (by omega), List.getElem?_append_right (by omega), hvl, Nat.add_sub_cancel_left]
    exact ⟨c 0 (by omega), c 1 (by omega), c 2 (by omega), c 3 (by omega), c 4 (by omega), c 5 (by omega)⟩
theorem wp_append_runV {P : Program} {o : Oper} {a : Act} {K : Act → World → Prop} {Q : Exit → Act → World → Prop} {w : World} (s x : Operand) (t : TypeId)
    (ho : o.op = .call { callee := .builtin .append, args := #[s, x], argTypes := #[t, t] }) (sv xv rv : Value) (w' : World) (hs : a.eval s = sv) (hx : a.eval x = xv)
    (hr : (Builtin.append_ #[t, t] o.type #[sv, xv]).run P w = .ok rv w') (h : K (a.put o.dst rv) w') : o.wp P a w K Q := by
  unfold Oper.wp execOp
  simp only [ho, resolve, invoke, builtin, Sem.run_bind, Sem.run_pure, Result.andThen_ok, List.map_toArray, List.map_cons, List.map_nil, hs, hx, hr]
  exact h
theorem set_sameV {W W' : World} {g : Nat} (h : W.heap[g]? = W'.heap[g]?) (o : Nat) (u : Value) : (W.setCell ⟨g, o, none⟩ u).heap[g]? = (W'.setCell ⟨g, o, none⟩ u).heap[g]? := by
  simp [World.setCell, Array.getElem?_modify, h]
theorem putSel_same {W W' : World} {g : Nat} (h : W.heap[g]? = W'.heap[g]?) (o : Nat) (x : Hd × Sels) (a1 a2 a3 : Option Addr) (c1 c2 c3 : Nat) : (putSel W g o x a1 a2 a3 c1 c2 c3).heap[g]? = (putSel W' g o x a1 a2 a3 c1 c2 c3).heap[g]? := by
  unfold putSel
  repeat apply set_sameV
  exact h
/-- Behind the append: what the two last writes have done. -/
structure Aft (wb W8 : World) (g8 g0 : Nat) (h8 h0 : Option Obj) (B10 B13 : Bool) (W : World) : Prop where
  size : W.heap.size = W8.heap.size
  other : ∀ q, q ≠ g8 → q ≠ g0 → W.heap[q]? = W8.heap[q]?
  at8 : W.heap[g8]? = if B10 = true then h8 else W8.heap[g8]?
  at0 : W.heap[g0]? = if B13 = true then h0 else W8.heap[g0]?
  below : Below wb.heap.size wb W
/-- The worlds of the region that puts a field into its group. -/
def GpJ (wd A : World) (P8 : Bool → Bool → World → Prop) (L : Array Bool) (W : World) : Prop :=
  (L.getD 8 false = false ∧ L.getD 10 false = false ∧ L.getD 13 false = false ∧ ((L.getD 7 false = false ∧ W = wd) ∨ (L.getD 7 false = true ∧ W = A))) ∨ (L.getD 8 false = true ∧ L.getD 7 false = true ∧ L.getD 4 false = true ∧ P8 (L.getD 10 false) (L.getD 13 false) W)
theorem getD_not {L : Array Bool} {i : Nat} (h : L.getD i true = false) : L.getD i false = false := by
  have := G.getD_lt h
  simp only [Array.getD, this, dite_true] at h ⊢
  exact h
theorem getD_put {L : Array Bool} {i : Nat} (h : L.getD i true = false) : (L.setIfInBounds i true).getD i false = true := by
  have := G.getD_lt h
  simp [Array.getD, this]
theorem GpJ.other {wd A W : World} {P8 : Bool → Bool → World → Prop} {L : Array Bool} (h : GpJ wd A P8 L W) {i : Nat} (h7 : i ≠ 7) (h8 : i ≠ 8) (h10 : i ≠ 10) (h13 : i ≠ 13) : GpJ wd A P8 (L.setIfInBounds i true) W := by
  unfold GpJ
  rw [getD_set_ne false h7, getD_set_ne false h8, getD_set_ne false h10, getD_set_ne false h13]
  rcases h with h | ⟨a, b, c, d⟩
  · exact .inl h
  · exact .inr ⟨a, b, getD_set_true c, d⟩
theorem GpJ.seven {wd A W : World} {P8 : Bool → Bool → World → Prop} {L : Array Bool} (h : GpJ wd A P8 L W) (h7 : L.getD 7 true = false) : W = wd ∧ GpJ wd A P8 (L.setIfInBounds 7 true) A := by
  rcases h with ⟨a, b, c, ⟨_, d⟩ | ⟨d, _⟩⟩ | ⟨_, b, _⟩
  · refine ⟨d, .inl ⟨?_, ?_, ?_, .inr ⟨getD_put h7, rfl⟩⟩⟩
    · rw [getD_set_ne false (by decide)]; exact a
    · rw [getD_set_ne false (by decide)]; exact b
    · rw [getD_set_ne false (by decide)]; exact c
  · rw [getD_not h7] at d; cases d
  · rw [getD_not h7] at b; cases b
theorem GpJ.eight {wd A W W' : World} {P8 : Bool → Bool → World → Prop} {L : Array Bool} (h : GpJ wd A P8 L W) (h8 : L.getD 8 true = false) (h7 : L.getD 7 false = true) (h4 : L.getD 4 false = true) (hp : P8 false false W') : W = A ∧ GpJ wd A P8 (L.setIfInBounds 8 true) W' := by
  rcases h with ⟨a, b, c, ⟨d, _⟩ | ⟨_, d⟩⟩ | ⟨a, _⟩
  · rw [h7] at d; cases d
  · refine ⟨d, .inr ⟨getD_put h8, ?_, ?_, ?_⟩⟩
    · rw [getD_set_ne false (by decide)]; exact h7
    · rw [getD_set_ne false (by decide)]; exact h4
    · rw [getD_set_ne false (by decide), getD_set_ne false (by decide), b, c]; exact hp
  · rw [getD_not h8] at a; cases a
theorem GpJ.ten {wd A W W' : World} {P8 : Bool → Bool → World → Prop} {L : Array Bool} (h : GpJ wd A P8 L W) (h10 : L.getD 10 true = false) (h8 : L.getD 8 false = true) : P8 false (L.getD 13 false) W ∧ (P8 true (L.getD 13 false) W' → GpJ wd A P8 (L.setIfInBounds 10 true) W') := by
  rcases h with ⟨a, _⟩ | ⟨a, b, c, d⟩
  · rw [h8] at a; cases a
  · rw [getD_not h10] at d
    refine ⟨d, fun hp => .inr ⟨?_, ?_, ?_, ?_⟩⟩
    · rw [getD_set_ne false (by decide)]; exact a
    · rw [getD_set_ne false (by decide)]; exact b
    · rw [getD_set_ne false (by decide)]; exact c
    · rw [getD_put h10, getD_set_ne false (by decide)]; exact hp
theorem GpJ.last {wd A W W' : World} {P8 : Bool → Bool → World → Prop} {L : Array Bool} (h : GpJ wd A P8 L W) (h13 : L.getD 13 true = false) (h8 : L.getD 8 false = true) : P8 (L.getD 10 false) false W ∧ (P8 (L.getD 10 false) true W' → GpJ wd A P8 (L.setIfInBounds 13 true) W') := by
  rcases h with ⟨a, _⟩ | ⟨a, b, c, d⟩
  · rw [h8] at a; cases a
  · rw [getD_not h13] at d
    refine ⟨d, fun hp => .inr ⟨?_, ?_, ?_, ?_⟩⟩
    · rw [getD_set_ne false (by decide)]; exact a
    · rw [getD_set_ne false (by decide)]; exact b
    · rw [getD_set_ne false (by decide)]; exact c
    · rw [getD_put h13, getD_set_ne false (by decide)]; exact hp
theorem GpJ.early {wd A W : World} {P8 : Bool → Bool → World → Prop} {L : Array Bool} (h : GpJ wd A P8 L W) (h4 : L.getD 4 true = false) : W = wd ∨ W = A := by
  rcases h with ⟨_, _, _, ⟨_, d⟩ | ⟨_, d⟩⟩ | ⟨_, _, c, _⟩
  · exact .inl d
  · exact .inr d
  · rw [getD_not h4] at c; cases c
theorem GpJ.any {wd A W : World} {P8 : Bool → Bool → World → Prop} {L : Array Bool} (h : GpJ wd A P8 L W) : W = wd ∨ W = A ∨ ∃ x y, P8 x y W := by
  rcases h with ⟨_, _, _, ⟨_, d⟩ | ⟨_, d⟩⟩ | ⟨_, _, _, d⟩
  · exact .inl d
  · exact .inr (.inl d)
  · exact .inr (.inr ⟨_, _, d⟩)
set_option maxHeartbeats 2000000 in
theorem grp_put (w0 w wd : World) (g0 c : Nat) (ps : List (ByteArray × Value)) (fk : List (Hd × Sels)) (x : Hd × Sels) (a1 a2 a3 : Option Addr) (c1 c2 c3 : Nat) (i : Nat) (hi : i < ps.length) (B : Nat) (ks : List ByteArray)
    (GD : GrpAt w0 (w.heap.size + 1) wd (.slice (some ⟨g0, 0, none⟩) ps.length c) ps fk) (CD : wd.heap[B]? = some (.cells #[.int .i64 x.1.k, .string x.1.al, .string x.1.nm, .slice a1 x.1.args.length c1, .slice a2 x.1.dirs.length c2, .slice a3 x.2.len c3] 115 (0, 0))) (HBX : ∀ g, ps[i].2.ownBlock = some g → g < B)
    (BD : Below w.heap.size w wd) (HHD : G.Held wd w.heap.size ks) (hfk : fk.length + 1 ≤ 1048576) (hx : kyL x = ps[i].1.toList) (hne : ∀ j (hj : j < ps.length), j ≠ i → ps[j].1.toList ≠ ps[i].1.toList)
    (r1 : ArRow 0 w0.heap.size w0 a1 x.1.args) (hq : x.1.args.length ≤ c1) (r2 : DiRow 0 w0.heap.size w0 a2 x.1.dirs) (r3 : SelRow 0 w0.heap.size w0 a3 x.2) :
    ∃ (n : Nat) (ai : Option Addr) (ci g8 cap8 : Nat) (W8 : World) (P8 : Bool → Bool → World → Prop), n + 1 ≤ 1048576 ∧
      wd.cell? ⟨g0, i * 2 + 1, none⟩ = some (.slice ai n ci) ∧ (wd.alloc (.cells selZ 115)).cell? ⟨g0, i * 2 + 1, none⟩ = some (.slice ai n ci) ∧
      (Builtin.append_ #[76, 76] 76 #[.slice ai n ci, .slice (some ⟨wd.heap.size, 0, none⟩) 1 1]).run Tryz.prog (wd.alloc (.cells selZ 115)) = .ok (.slice (some ⟨g8, 0, none⟩) (n + 1) cap8) W8 ∧
      P8 false false W8 ∧
      (∀ W, (W = wd ∨ W = wd.alloc (.cells selZ 115) ∨ ∃ b1 b2, P8 b1 b2 W) → W.heap[B]? = some (.cells #[.int .i64 x.1.k, .string x.1.al, .string x.1.nm, .slice a1 x.1.args.length c1, .slice a2 x.1.dirs.length c2, .slice a3 x.2.len c3] 115 (0, 0))) ∧
      (∀ b W, P8 false b W → ((∀ j, W.frozen? ⟨g8, j, none⟩ = false) ∧ W.cell? ⟨g8, n * 6, none⟩ = some (.int .i64 0) ∧ W.cell? ⟨g8, n * 6 + 1, none⟩ = some (.string ⟨#[]⟩) ∧ W.cell? ⟨g8, n * 6 + 2, none⟩ = some (.string ⟨#[]⟩) ∧ W.cell? ⟨g8, n * 6 + 3, none⟩ = some (.slice none 0 0) ∧ W.cell? ⟨g8, n * 6 + 4, none⟩ = some (.slice none 0 0) ∧ W.cell? ⟨g8, n * 6 + 5, none⟩ = some (.slice none 0 0)) ∧ P8 true b (putSel W g8 (n * 6) x a1 a2 a3 c1 c2 c3)) ∧
      (∀ b W, P8 b false W → W.cell? ⟨g0, i * 2 + 1, none⟩ = some (.slice ai n ci) ∧ W.frozen? ⟨g0, i * 2 + 1, none⟩ = false ∧ P8 b true (W.setCell ⟨g0, i * 2 + 1, none⟩ (.slice (some ⟨g8, 0, none⟩) (n + 1) cap8))) ∧
      (∀ W, P8 true true W → GrpAt w0 (w.heap.size + 1) W (.slice (some ⟨g0, 0, none⟩) ps.length c) (ps.set i (ps[i].1, .slice (some ⟨g8, 0, none⟩) (n + 1) cap8)) (fk ++ [x]) ∧ G.Held W w.heap.size ks ∧ Below w.heap.size w W) := by
  have hg0 : g0 < wd.heap.size := (GD.lt g0 rfl).2
  have hB : B < wd.heap.size := (Array.getElem?_eq_some_iff.1 CD).1
  have zbd := BD.size
  have hMd := HHD.lt
  obtain ⟨F, hF⟩ : ∃ F, F = ofK ps[i].1.toList fk := ⟨_, rfl⟩
  have FO : FOwn w0 (w.heap.size + 1) 115 wd ps[i].2 F := by rw [hF]; exact GD.each i hi
  have hb0 : g0 ≠ B := by
    intro e
    rcases GD.own.2 with ⟨h1, _⟩ | ⟨gg, cc, uu, h1, _, h2, _⟩
    · simp at h1
    · simp only [Value.slice.injEq, Option.some.injEq, Addr.mk.injEq] at h1
      rw [← h1.1.1, e, CD] at h2
      simp at h2
  obtain ⟨ai, ci, hsl, hci, _⟩ := FO.row
  have hFl : F.length + 1 ≤ 1048576 := by
    have h1 : F.length ≤ fk.length := by rw [hF]; exact List.length_filter_le _ _
    omega
  obtain ⟨g8, cap8, W8, hrun, hF8, gr8, hat8, hlt8, frz, k0, k1, k2, k3, k4, k5⟩ := grow_one w0 wd (w.heap.size + 1) ps[i].2 F x a1 a2 a3 c1 c2 c3 FO hFl (by have := (GD.lt g0 rfl).1; omega) r1 hq r2 r3
  have hn8 : g8 ≠ g0 := by
    intro e
    rcases hat8 with h1 | h1
    · exact GD.not_in (g := g0) rfl hi (by rw [h1, e])
    · omega
  have hb8 : g8 ≠ B := by
    intro e
    rcases hat8 with h1 | h1
    · have := HBX g8 h1; omega
    · omega
  have hw8 : w.heap.size ≤ g8 := by
    rcases hat8 with h1 | h1
    · have := (FO.lt g8 h1).1; omega
    · omega
  obtain ⟨A, hA⟩ : ∃ z, z = wd.alloc (.cells selZ 115) := ⟨_, rfl⟩
  have AB : ∀ g, g < wd.heap.size → A.heap[g]? = wd.heap[g]? := fun g hg => by rw [hA]; exact Below.heap_alloc _ _ _ (by omega)
  have zA : A.heap.size = wd.heap.size + 1 := by rw [hA]; simp
  rw [← hA] at gr8 hrun
  rw [← hA]
  have zg8 := gr8.size
  obtain ⟨W9, hW9⟩ : ∃ z, z = putSel W8 g8 (F.length * 6) x a1 a2 a3 c1 c2 c3 := ⟨_, rfl⟩
  rw [← hW9] at hF8
  have WB : ∀ g, g < wd.heap.size → ps[i].2.ownBlock ≠ some g → W8.heap[g]? = wd.heap[g]? := fun g hg hn => (gr8.block g (by omega) (fun e => hn e.symm)).trans (AB g hg)
  have box8 : W8.heap[B]? = wd.heap[B]? := WB B hB (fun e => by have := HBX _ e; omega)
  have grp8 : W8.heap[g0]? = wd.heap[g0]? := WB g0 hg0 (fun e => GD.not_in rfl hi e)
  have map8 : W8.heap[w.heap.size]? = wd.heap[w.heap.size]? := WB _ hMd (fun e => by have := (FO.lt _ e).1; omega)
  have O8 : W8.ownsRow (w.heap.size + 1) 193 2 (.slice (some ⟨g0, 0, none⟩) ps.length c) ps.length (gcells ps) := owns_sameV GD.own fun g hg => by
    simp only [Value.ownBlock, Option.some.injEq] at hg
    subst hg
    exact grp8
  have B8 : Below w.heap.size w W8 := by
    have h1 : Below wd.heap.size wd A := by rw [hA]; exact (Below.refl _ _).alloc (Nat.le_refl _) _
    exact (BD.trans (h1.mono zbd)).grown gr8 (by omega) (fun g hg => by have := (FO.lt g hg).1; omega)
  have qc : wd.cell? ⟨g0, i * 2 + 1, none⟩ = some (.slice ai F.length ci) := by
    rw [GD.own.cellAt (i * 2 + 1) (by omega), (gcells_get ps i hi).2, hsl]
  have q8 : W8.cell? ⟨g0, i * 2 + 1, none⟩ = some (.slice ai F.length ci) := (World.cell?_of_block (a := ⟨g0, i * 2 + 1, none⟩) grp8).trans qc
  rw [hsl] at hrun
  refine ⟨F.length, ai, ci, g8, cap8, W8, fun b10 b13 W => Aft w W8 g8 g0 W9.heap[g8]? (W8.setCell ⟨g0, i * 2 + 1, none⟩ (.slice (some ⟨g8, 0, none⟩) (F.length + 1) cap8)).heap[g0]? b10 b13 W, hFl, qc, (World.cell?_of_block (a := ⟨g0, i * 2 + 1, none⟩) (AB g0 hg0)).trans qc, hrun, ⟨rfl, fun _ _ _ => rfl, rfl, rfl, B8⟩, ?_, ?_, ?_, ?_⟩
  · rintro W (rfl | rfl | ⟨x1, x2, h⟩)
    · exact CD
    · exact (AB B hB).trans CD
    · exact (h.other B (Ne.symm hb8) (Ne.symm hb0)).trans (box8.trans CD)
  · intro b W h
    have e8 : W.heap[g8]? = W8.heap[g8]? := h.at8
    refine ⟨⟨fun j => (World.frozen?_of_block (a := ⟨g8, j, none⟩) e8).trans (frz j), (World.cell?_of_block (a := ⟨g8, _, none⟩) e8).trans k0, (World.cell?_of_block (a := ⟨g8, _, none⟩) e8).trans k1, (World.cell?_of_block (a := ⟨g8, _, none⟩) e8).trans k2, (World.cell?_of_block (a := ⟨g8, _, none⟩) e8).trans k3, (World.cell?_of_block (a := ⟨g8, _, none⟩) e8).trans k4, (World.cell?_of_block (a := ⟨g8, _, none⟩) e8).trans k5⟩, ⟨?_, ?_, ?_, ?_, ?_⟩⟩
    · rw [putSel_size]; exact h.size
    · intro q h1 h2
      rw [putSel_block _ _ _ _ _ _ _ _ _ _ h1]; exact h.other q h1 h2
    · rw [if_pos rfl, hW9]; exact putSel_same e8 _ _ _ _ _ _ _ _
    · rw [putSel_block _ _ _ _ _ _ _ _ _ _ (Ne.symm hn8)]; exact h.at0
    · unfold putSel
      repeat (refine Below.setCell ?_ hw8 _)
      exact h.below
  · intro b W h
    have e0 : W.heap[g0]? = W8.heap[g0]? := h.at0
    have hw0 : w.heap.size ≤ g0 := by have := (GD.lt g0 rfl).1; omega
    refine ⟨(World.cell?_of_block (a := ⟨g0, _, none⟩) e0).trans q8, (World.frozen?_of_block (a := ⟨g0, _, none⟩) e0).trans (O8.frozenAt _), ⟨?_, ?_, ?_, ?_, ?_⟩⟩
    · simp only [World.setCell, Array.size_modify]; exact h.size
    · intro q h1 h2
      rw [heap_setCell_other _ _ _ _ h2]; exact h.other q h1 h2
    · rw [heap_setCell_other _ _ _ _ hn8]; exact h.at8
    · rw [if_pos rfl]; exact set_sameV e0 _ _
    · exact h.below.setCell hw0 _
  · intro W h
    have e0 : W.heap[g0]? = _ := h.at0
    have e8 : W.heap[g8]? = W9.heap[g8]? := h.at8
    rw [if_pos rfl] at e0
    have e9 : ∀ g, g ≠ g0 → W.heap[g]? = W9.heap[g]? := fun g hg => by
      by_cases hg8 : g = g8
      · subst hg8; exact e8
      · rw [h.other g hg8 hg, hW9, putSel_block _ _ _ _ _ _ _ _ _ _ hg8]
    have gr9 : wd.grownBy W9 ps[i].2.ownBlock := by
      refine ⟨?_, ?_, ?_, ?_, fun g hg hr => ?_⟩
      · rw [hW9, (putSel_st _ _ _ _ _ _ _ _ _ _).1, gr8.os, hA, (alloc_st _ _).1]
      · rw [hW9, (putSel_st _ _ _ _ _ _ _ _ _ _).2.1, gr8.tape, hA, (alloc_st _ _).2.1]
      · rw [hW9, (putSel_st _ _ _ _ _ _ _ _ _ _).2.2, gr8.output, hA, (alloc_st _ _).2.2]
      · rw [hW9, putSel_size]; omega
      · have hg8 : g ≠ g8 := fun e => by
          rcases hat8 with h1 | h1
          · exact hr (by rw [h1, e])
          · omega
        rw [hW9, putSel_block _ _ _ _ _ _ _ _ _ _ hg8]
        exact WB g hg (fun e => hr e.symm)
    have st := (O8.stored (i * 2 + 1) (.slice (some ⟨g8, 0, none⟩) (F.length + 1) cap8)).1
    refine ⟨GD.add hi gr9 (by rw [← hF]; exact hF8) ?_ (g0 := g0) rfl (owns_sameV st fun g hg => by
      simp only [Value.ownBlock, Option.some.injEq] at hg
      subst hg
      exact e0) e9 hx hne, ?_, h.below⟩
    · rcases hat8 with h1 | h1
      · exact .inl (by rw [h1]; rfl)
      · exact .inr ⟨g8, rfl, by omega⟩
    · have em : W.heap[w.heap.size]? = wd.heap[w.heap.size]? := by
        have h1 : w.heap.size ≠ g0 := by have := (GD.lt g0 rfl).1; omega
        have h2 : w.heap.size ≠ g8 := by
          rcases hat8 with h1 | h1
          · have := (FO.lt g8 h1).1; omega
          · omega
        exact (h.other _ h2 h1).trans map8
      obtain ⟨D', ⟨es, clock, h1, h2⟩, h3⟩ := HHD
      exact ⟨D', ⟨es, clock, em.trans h1, h2⟩, h3⟩
end Go.Proofs.YtkjndghkimnjeaaGreat
namespace Go.Proofs.YtkjndghkimnjeaaGreat.G
open Go.ChangeShapes Go.WideShapes Go.ChangeAt Go.RowKit
set_option linter.unusedVariables false

theorem region_rel6 {P : Program} {ops : Array Oper} {Q : Exit → Act → World → Prop} {id : Nat} {W0 : World} {n : Nat} (hm : P.follows .mixedOrders = true) (hback : back3B ops = true) (hsz : ops.size = n)
    (fr : (Nat → Value) → Act) (u0 : Nat → Value) (dst : Nat → Nat) (hdst : ∀ i j, i < n → j < n → dst i = dst j → i = j)
    (Pv : Nat → Value → World → Prop) (J : Array Bool → (Nat → Value) → World → Prop)
    (hJ0 : J (Array.replicate ops.size false) u0 W0.drew)
    (hstep : ∀ L u w i, i < n → L.size = n → L.getD i true = false → J L u w → (∀ o, ops[i]? = some o → ∀ e ∈ o.after, Region.binds .any e = true → L.getD e.on false = true ∧ Pv e.on (u (dst e.on)) w) →
      wpOp P ops Q i (fun a' w' => ∃ v, a' = fr (upd u (dst i) v) ∧ (∀ j x, Pv j x w → Pv j x w') ∧ Pv i v w' ∧ J (L.setIfInBounds i true) (upd u (dst i) v) w') (fr u) w)
    (hend : ∀ L u w, L.size = n → (∀ i, i < n → L.getD i false = true) → J L u w → (∀ i, i < n → Pv i (u (dst i)) w) → Q .normal (fr u) w) :
    (Code.region id ops true).wp P Q (fr u0) W0 := by
  refine wp_region_any hm ?_
  have key : ∀ (fuel : Nat) (L : Array Bool) (u : Nat → Value) (w : World), L.size = n → L.toList.count false ≤ fuel → J L u w →
      (∀ i, i < n → L.getD i false = true → Pv i (u (dst i)) w) → wpAny P .any ops Q fuel L (fr u) w := by
    intro fuel
    induction fuel with
    | zero =>
      intro L u w hs hc hj hp
      have hdone : ∀ i, i < n → L.getD i false = true := fun i hi => by
        by_cases h : L.getD i false = true
        · exact h
        · have h1 := cntF L.toList i (getD_get (getD_other (by omega) h))
          omega
      refine wpAny_done ?_ (hend L u w hs hdone hj (fun j hj2 => hp j hj2 (hdone j hj2))) 0
      rw [List.eq_nil_iff_forall_not_mem]
      intro g hg
      rw [mem_ready] at hg
      obtain ⟨g1, -⟩ := hg
      have hgl := getD_lt g1
      rw [getD_both (by omega) (hdone g (by omega))] at g1
      cases g1
    | succ fuel ih =>
      intro L u w hs hc hj hp
      by_cases hall : ∀ i, i < n → L.getD i false = true
      · refine wpAny_done ?_ (hend L u w hs hall hj (fun j hj2 => hp j hj2 (hall j hj2))) _
        rw [List.eq_nil_iff_forall_not_mem]
        intro g hg
        rw [mem_ready] at hg
        obtain ⟨g1, -⟩ := hg
        have hgl := getD_lt g1
        rw [getD_both (by omega) (hall g (by omega))] at g1
        cases g1
      refine ⟨fun h0 => ?_, fun i hi => ?_⟩
      · simp only [Classical.not_forall] at hall
        obtain ⟨i, hi, hne⟩ := hall
        obtain ⟨j, hj'⟩ := some_ready3 hback (hs.trans hsz.symm) (i + 1) i (by omega) (getD_other (by omega) hne)
        rw [h0] at hj'
        cases hj'
      · rw [mem_ready] at hi
        obtain ⟨hL, o, ho, hdep⟩ := hi
        have hlt := getD_lt hL
        refine wpOp_mono ?_ (hstep L u w i (by omega) hs hL hj (fun o' ho' e he hbi => ?_))
        · rintro a' w' ⟨v, rfl, hk2, hp2, hj2⟩
          refine ih _ _ _ (by rw [Array.size_setIfInBounds]; exact hs) ?_ hj2 ?_
          · have h1 := cntF L.toList i (getD_get hL)
            rw [Array.toList_setIfInBounds]
            omega
          · intro j hjn hjl
            by_cases hji : j = i
            · subst hji
              rw [upd_at]
              exact hp2
            · rw [getD_set_ne false (Ne.symm hji)] at hjl
              rw [upd_ne _ _ (fun h => hji (hdst j i hjn (by omega) h))]
              exact hk2 _ _ (hp j hjn hjl)
        · rw [ho] at ho'
          simp only [Option.some.injEq] at ho'
          subst ho'
          have h1 := hdep e he hbi
          unfold back3B at hback
          rw [List.all_eq_true] at hback
          have h2 := hback i (by rw [List.mem_range]; omega)
          rw [ho] at h2
          simp only [Array.all_eq_true_iff_forall_mem, Bool.or_eq_true, Bool.not_eq_true', decide_eq_true_eq] at h2
          have h3 : e.on < i := by
            rcases h2 e he with h4 | h4
            · rw [hbi] at h4; cases h4
            · exact h4
          exact ⟨h1, hp e.on (by omega) h1⟩
  have hrep : (Array.replicate ops.size false).toList.count false = ops.size := by simp
  exact key ops.size _ u0 _ (by rw [Array.size_replicate]; exact hsz) (by rw [hrep]; exact Nat.le_refl _) hJ0 (fun i hi h => by
    rw [hsz] at h
    simp [hi] at h)
end Go.Proofs.YtkjndghkimnjeaaGreat.G
