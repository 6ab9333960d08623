/- A drawn selection as it is made: its cells in a block of their own, its lists' blocks others; and how a list takes it in. -/
import Derived.Test.YtajjaddlalbnmaaNdVal
namespace Go.Proofs.Ytajjaddlalbnmaa
open Go.ChangeShapes Go.WideShapes Go.ChangeAt Go.RowKit
open Go.Proofs.Ytajjaddlalbnmaa.G (row_cell row_frozen row_set)
set_option linter.unusedVariables false

/-- A selection that is being made. -/
structure XS (b N : Nat) (W : World) (kd : Int) (al nm : ByteArray) (us : List Ar) (ds : List Di) (sub : Sels) (va vd vs : Value) : Prop where
  x : W.heap[N]? = some (.cells #[.int .i64 kd, .string al, .string nm, va, vd, vs] 63 (0, 0))
  o : ∃ ws bk, OneK b W ⟨kd, al, nm, us, ds⟩ sub va vd vs ws bk ∧ N ∉ blk va ++ (blk vd ++ (blk vs ++ bk))
  bN : b ≤ N
theorem XS.lt {b N : Nat} {W : World} {kd : Int} {al nm : ByteArray} {us : List Ar} {ds : List Di} {sub : Sels} {va vd vs : Value} (X : XS b N W kd al nm us ds sub va vd vs) : N < W.heap.size := (Array.getElem?_eq_some_iff.1 X.x).1
theorem XS.grow {b N L : Nat} {W W' : World} {kd : Int} {al nm : ByteArray} {us : List Ar} {ds : List Di} {sub : Sels} {va vd vs : Value} (X : XS b N W kd al nm us ds sub va vd vs) (hg : W.grownBy W' (some L)) (hL : L < b) : XS b N W' kd al nm us ds sub va vd vs := by
  obtain ⟨ws, bk, O, hN⟩ := X.o
  exact ⟨grown_keeps X.x X.lt hg (by have := X.bN; omega), ⟨ws, bk, O.grow hg hL, hN⟩, X.bN⟩
theorem XS.below {b N L : Nat} {W W' : World} {kd : Int} {al nm : ByteArray} {us : List Ar} {ds : List Di} {sub : Sels} {va vd vs : Value} (X : XS b N W kd al nm us ds sub va vd vs) (hg : Below W.heap.size W W') (hL : L < b) : XS b N W' kd al nm us ds sub va vd vs :=
  X.grow (L := L) (grown_below (grown_refl _ _) hg) hL
theorem onek_set {b N k : Nat} {W : World} {h : Hd} {sub : Sels} {va vd vs x : Value} {ws : List Value} {bk : List Nat} (O : OneK b W h sub va vd vs ws bk) (hN : N ∉ blk va ++ (blk vd ++ (blk vs ++ bk))) : OneK b (W.setCell ⟨N, k, none⟩ x) h sub va vd vs ws bk :=
  O.keep (((Below.refl 0 W).setCell (p := ⟨N, k, none⟩) (Nat.zero_le _) x).size) fun g hg => heap_setCell_other _ _ _ _ (by show g ≠ N; intro e; subst e; exact hN hg)
theorem XS.setNm {b N : Nat} {W : World} {kd : Int} {al nm : ByteArray} {us : List Ar} {ds : List Di} {sub : Sels} {va vd vs : Value} (X : XS b N W kd al nm us ds sub va vd vs) (t : ByteArray) : XS b N (W.setCell ⟨N, 2, none⟩ (.string t)) kd al t us ds sub va vd vs := by
  obtain ⟨ws, bk, O, hN⟩ := X.o
  have O' := onek_set (k := 2) (x := .string t) O hN
  exact ⟨row_set X.x 2 _, ⟨ws, bk, ⟨O'.a, O'.d, O'.s, O'.k, O'.nd, O'.inn⟩, hN⟩, X.bN⟩
theorem XS.setAl {b N : Nat} {W : World} {kd : Int} {al nm : ByteArray} {us : List Ar} {ds : List Di} {sub : Sels} {va vd vs : Value} (X : XS b N W kd al nm us ds sub va vd vs) (t : ByteArray) : XS b N (W.setCell ⟨N, 1, none⟩ (.string t)) kd t nm us ds sub va vd vs := by
  obtain ⟨ws, bk, O, hN⟩ := X.o
  have O' := onek_set (k := 1) (x := .string t) O hN
  exact ⟨row_set X.x 1 _, ⟨ws, bk, ⟨O'.a, O'.d, O'.s, O'.k, O'.nd, O'.inn⟩, hN⟩, X.bN⟩
/-- Its own list of selections, made since. -/
theorem XS.setSub {b N L : Nat} {W Z : World} {kd : Int} {al nm : ByteArray} {us : List Ar} {ds : List Di} {sub sub' : Sels} {va vd vs vs' : Value} {ws' : List Value} {bk' : List Nat} (X : XS b N W kd al nm us ds sub va vd vs) (hg : W.grownBy Z (some L)) (hL : L < b) (R : RowK W.heap.size Z vs' sub' ws' bk') :
    XS b N (Z.setCell ⟨N, 5, none⟩ vs') kd al nm us ds sub' va vd vs' := by
  obtain ⟨ws, bk, O, hN⟩ := X.o
  have lt := X.lt
  have bN := X.bN
  have hz := hg.size
  have O1 := O.grow hg hL
  have nd0 := List.nodup_append.1 O.nd
  have nd1 := List.nodup_append.1 nd0.2.1
  have i0 : ∀ g ∈ blk va, b ≤ g ∧ g < W.heap.size := fun g h => O.inn g (List.mem_append_left _ h)
  have i1 : ∀ g ∈ blk vd, b ≤ g ∧ g < W.heap.size := fun g h => O.inn g (List.mem_append_right _ (List.mem_append_left _ h))
  have hN' : N ∉ blk va ++ (blk vd ++ (blk vs' ++ bk')) := by
    intro h
    simp only [List.mem_append] at h
    rcases h with h | h | h
    · exact hN (List.mem_append_left _ h)
    · exact hN (List.mem_append_right _ (List.mem_append_left _ h))
    · have := (R.all N (List.mem_append.2 h)).1; omega
  have O2 : OneK b Z ⟨kd, al, nm, us, ds⟩ sub' va vd vs' ws' bk' := by
    refine ⟨O1.a, O1.d, owns_base R.own (fun g hg => Nat.zero_le _), R.k, ?_, fun g hg => ?_⟩
    · rw [List.nodup_append]
      refine ⟨nd0.1, ?_, fun x hx y hy e => ?_⟩
      · rw [List.nodup_append]
        refine ⟨nd1.1, R.nd, fun x hx y hy e => ?_⟩
        subst e
        have := (R.all x hy).1
        have := (i1 x hx).2
        omega
      · subst e
        rcases List.mem_append.1 hy with hy | hy
        · exact nd0.2.2 x hx x (List.mem_append_left _ hy) rfl
        · have := (R.all x hy).1
          have := (i0 x hx).2
          omega
    · rcases List.mem_append.1 hg with hg | hg
      · have := i0 g hg; omega
      · rcases List.mem_append.1 hg with hg | hg
        · have := i1 g hg; omega
        · have := R.all g hg; omega
  exact ⟨row_set (grown_keeps X.x lt hg (by omega)) 5 _, ⟨ws', bk', onek_set O2 hN', hN'⟩, bN⟩
/-- Its arguments, made since. -/
theorem XS.setArgs {b N L : Nat} {W Z : World} {kd : Int} {al nm : ByteArray} {us us' : List Ar} {ds : List Di} {sub : Sels} {va vd vs va' : Value} (X : XS b N W kd al nm us ds sub va vd vs) (hg : W.grownBy Z (some L)) (hL : L < b) (A : Z.ownsRow W.heap.size 81 4 va' us'.length (arVs us')) :
    XS b N (Z.setCell ⟨N, 3, none⟩ va') kd al nm us' ds sub va' vd vs := by
  obtain ⟨ws, bk, O, hN⟩ := X.o
  have lt := X.lt
  have bN := X.bN
  have hz := hg.size
  have O1 := O.grow hg hL
  have nd0 := List.nodup_append.1 O.nd
  have ia : ∀ g ∈ blk va', W.heap.size ≤ g ∧ g < Z.heap.size := fun g h => World.ownsRow.lt A g (blk_mem h)
  have hN' : N ∉ blk va' ++ (blk vd ++ (blk vs ++ bk)) := by
    intro h
    rcases List.mem_append.1 h with h | h
    · have := (ia N h).1; omega
    · exact hN (List.mem_append_right _ h)
  have O2 : OneK b Z ⟨kd, al, nm, us', ds⟩ sub va' vd vs ws bk := by
    refine ⟨owns_base A (fun g hg => Nat.zero_le _), O1.d, O1.s, O1.k, ?_, fun g hg => ?_⟩
    · rw [List.nodup_append]
      refine ⟨blk_nd _, nd0.2.1, fun x hx y hy e => ?_⟩
      subst e
      have := (ia x hx).1
      have := (O.inn x (List.mem_append_right _ hy)).2
      omega
    · rcases List.mem_append.1 hg with hg | hg
      · have := ia g hg; omega
      · have := O.inn g (List.mem_append_right _ hg); omega
  exact ⟨row_set (grown_keeps X.x lt hg (by omega)) 3 _, ⟨ws, bk, onek_set O2 hN', hN'⟩, bN⟩
def put6N (W : World) (b : Nat) (v0 v1 v2 v3 v4 v5 : Value) : World := (((((W.setCell ⟨b, 0, none⟩ v0).setCell ⟨b, 1, none⟩ v1).setCell ⟨b, 2, none⟩ v2).setCell ⟨b, 3, none⟩ v3).setCell ⟨b, 4, none⟩ v4).setCell ⟨b, 5, none⟩ v5
theorem put6_other (W : World) {b g : Nat} (v0 v1 v2 v3 v4 v5 : Value) (h : g ≠ b) : (put6N W b v0 v1 v2 v3 v4 v5).heap[g]? = W.heap[g]? := by
  unfold put6N
  rw [heap_setCell_other _ _ _ _ h, heap_setCell_other _ _ _ _ h, heap_setCell_other _ _ _ _ h, heap_setCell_other _ _ _ _ h, heap_setCell_other _ _ _ _ h, heap_setCell_other _ _ _ _ h]
theorem put6N_size (W : World) (b : Nat) (v0 v1 v2 v3 v4 v5 : Value) : (put6N W b v0 v1 v2 v3 v4 v5).heap.size = W.heap.size := by simp [put6N, World.setCell]
/-- All of it at once. -/
theorem XS.all6 {b N : Nat} {W : World} {kd : Int} {al nm : ByteArray} {us : List Ar} {ds : List Di} {sub : Sels} {va vd vs c0 c1 c2 c3 c4 c5 : Value} {ws : List Value} {bk : List Nat} (hx : W.heap[N]? = some (.cells #[c0, c1, c2, c3, c4, c5] 63 (0, 0)))
    (O : OneK b W ⟨kd, al, nm, us, ds⟩ sub va vd vs ws bk) (hN : N ∉ blk va ++ (blk vd ++ (blk vs ++ bk))) (hb : b ≤ N) : XS b N (put6N W N (.int .i64 kd) (.string al) (.string nm) va vd vs) kd al nm us ds sub va vd vs :=
  ⟨row_set (row_set (row_set (row_set (row_set (row_set hx 0 _) 1 _) 2 _) 3 _) 4 _) 5 _, ⟨ws, bk, O.keep (Nat.le_of_eq (put6N_size _ _ _ _ _ _ _ _).symm) (fun g hg => put6_other _ _ _ _ _ _ _ (by intro e; subst e; exact hN hg)), hN⟩, hb⟩
theorem grown_put6 {a W : World} {L N : Nat} (h : a.grownBy W (some L)) (hN : a.heap.size ≤ N) (v0 v1 v2 v3 v4 v5 : Value) : a.grownBy (put6N W N v0 v1 v2 v3 v4 v5) (some L) :=
  grown_new (grown_new (grown_new (grown_new (grown_new (grown_new h hN _) hN _) hN _) hN _) hN _) hN _
theorem SrcSt.put6N {w : World} {L n k N : Nat} {a : Option Addr} (h : SrcSt w L a n k) (hN : L ≠ N) (v0 v1 v2 v3 v4 v5 : Value) : SrcSt (put6N w N v0 v1 v2 v3 v4 v5) L a n k := h.move (put6_other _ _ _ _ _ _ _ hN)
theorem sels_snoc {m : Nat} {h : Hd} {sub : Sels} (h1 : HdBd m h) (h2 : sub.len ≤ m) (h3 : SelsBd m sub) : ∀ (p : List (Hd × Sels)), SelsBd m (app p .nil) → SelsBd m (app (p ++ [(h, sub)]) .nil)
  | [], _ => ⟨h1, h2, h3, trivial⟩
  | x :: p, hp => ⟨hp.1, hp.2.1, hp.2.2.1, sels_snoc h1 h2 h3 p hp.2.2.2⟩
theorem size_snoc (h : Hd) (sub : Sels) : ∀ (p : List (Hd × Sels)), (app (p ++ [(h, sub)]) .nil).size = (app p .nil).size + (1 + sub.size)
  | [] => by simp [app, Sels.size]
  | x :: p => by simp only [List.cons_append, app, Sels.size]; rw [size_snoc h sub p]; omega
/-- A list takes it in. -/
theorem tail_app {w WI W : World} {L n q : Nat} {a : Option Addr} {V0 : Option Addr} {c' : Nat} {g : List (Hd × Sels)} {ws : List Value} {bk : List Nat} {N : Nat} {kd : Int} {al nm : ByteArray} {us : List Ar} {ds : List Di} {sub : Sels} {a3 a4 a5 : Option Addr} {n3 n4 n5 c3 c4 c5 : Nat}
    (R : RowK w.heap.size WI (.slice V0 g.length c') (app g .nil) ws bk) (hLw : L < w.heap.size) (h0 : w.grownBy WI (some L)) (G : WI.grownBy W (some L)) (S : SrcSt W L a n q) (X : XS WI.heap.size N W kd al nm us ds sub (.slice a3 n3 c3) (.slice a4 n4 c4) (.slice a5 n5 c5)) (hg : g.length ≤ 3) :
    ∃ a8 cap8 W8 ws8 bk8, (Builtin.append_ #[28, 28] 28 #[.slice V0 g.length c', .slice (some ⟨W.heap.size, 0, none⟩) 1 1]).run Try.prog (W.alloc (.cells #[.int .i64 kd, .string al, .string nm, .slice a3 n3 c3, .slice a4 n4 c4, .slice a5 n5 c5] 63)) = .ok (.slice a8 ((g ++ [((⟨kd, al, nm, us, ds⟩ : Hd), sub)]).length : Nat) cap8) W8 ∧
      RowK w.heap.size W8 (.slice a8 (g ++ [((⟨kd, al, nm, us, ds⟩ : Hd), sub)]).length cap8) (app (g ++ [(⟨kd, al, nm, us, ds⟩, sub)]) .nil) ws8 bk8 ∧ SrcSt W8 L a n q ∧ w.grownBy W8 (some L) := by
  obtain ⟨ws2, bk2, O, hN⟩ := X.o
  obtain ⟨U, hU⟩ : ∃ U, U = W.alloc (.cells #[.int .i64 kd, .string al, .string nm, .slice a3 n3 c3, .slice a4 n4 c4, .slice a5 n5 c5] 63) := ⟨_, rfl⟩
  rw [← hU]
  have BU : Below W.heap.size W U := by rw [hU]; exact (Below.refl _ _).alloc (Nat.le_refl _) _
  have cU : U.heap[W.heap.size]? = some (.cells #[.int .i64 kd, .string al, .string nm, .slice a3 n3 c3, .slice a4 n4 c4, .slice a5 n5 c5] 63 (0, 0)) := by rw [hU]; exact heap_alloc_new _ _
  have zU : U.heap.size = W.heap.size + 1 := by rw [hU]; simp
  have hz0 := h0.size
  have hz1 := G.size
  have hgl : (app g Sels.nil).len = g.length := by rw [app_len]; rfl
  have O5 := ((R.grow G hLw).keep BU.size fun x hx => BU.block x ((R.grow G hLw).all x hx).2).own
  rw [hgl] at O5
  obtain ⟨ig, hig, hzg, hsg, hbg⟩ := info_selS
  obtain ⟨g8, cap8, W8, hrun, o8, gr8, hat8, hlt8⟩ := run_append_lies (P := Try.prog) U 28 28 w.heap.size 63 ig _ 6 112 Try.underlying28 hig hzg hsg hbg rfl (by decide) (.slice V0 g.length c') g.length ws O5 ⟨W.heap.size, 0, none⟩ 1 1 [.int .i64 kd, .string al, .string nm, .slice a3 n3 c3, .slice a4 n4 c4, .slice a5 n5 c5] rfl (fun t u ht => by
    rw [add_plain]
    have := row_cell cU (0 + t)
    rw [this, ← ht]
    simp) (fun u hu => by
      simp only [List.mem_cons, List.not_mem_nil, or_false] at hu
      rcases hu with rfl | rfl | rfl | rfl | rfl | rfl <;> rfl) (by omega) (by unfold maxLen; omega) (by omega) (by omega) _ rfl
  have hoff : ∀ q, (Value.slice V0 g.length c').ownBlock = some q → L < q := fun q hq => by have := (World.ownsRow.lt O5 q hq).1; omega
  have o9 : W8.ownsRow w.heap.size 63 6 (.slice (some ⟨g8, 0, none⟩) (g.length + 1) cap8) (app (g ++ [((⟨kd, al, nm, us, ds⟩ : Hd), sub)]) .nil).len (ws ++ [.int .i64 kd, .string al, .string nm, .slice a3 n3 c3, .slice a4 n4 c4, .slice a5 n5 c5]) := by
    rw [app_len, List.length_append]
    exact o8
  have R8 := RowK.push R G hLw hz0 O BU gr8 hat8 o9
  have hlen : (g ++ [((⟨kd, al, nm, us, ds⟩ : Hd), sub)]).length = g.length + 1 := by simp
  rw [hlen]
  exact ⟨some ⟨g8, 0, none⟩, cap8, W8, _, _, hrun, R8, (S.move (BU.block L S.lt)).move (gr8.block L (by have := S.lt; omega) (fun e => by have := hoff L e.symm; omega)), grown_append (grown_below (grown_trans h0 G) BU) gr8 (fun t ht => (World.ownsRow.lt O5 t ht).1)⟩
end Go.Proofs.Ytajjaddlalbnmaa
