/- The program's reader of schemas: a type. -/
import Derived.Test.YtnfoinmccigdfaaGreatDoorSpField
import Derived.Test.YtnfoinmccigdfaaGreatDoorGRegionFive
namespace Go.Proofs.YtnfoinmccigdfaaGreatDoor
open Go.ChangeShapes Go.WideShapes Go.ChangeAt Go.RowKit
set_option linter.unusedVariables false

/-- Fields' cells. -/
def fdVs : List (G.Fd × Value) → List Value
  | [] => []
  | p :: l => .string p.1.nm :: p.2 :: .string p.1.ty :: .bool p.1.ls :: .bool p.1.bg :: fdVs l
theorem fdVs_snoc : ∀ (l : List (G.Fd × Value)) (p : G.Fd × Value), fdVs (l ++ [p]) = fdVs l ++ [.string p.1.nm, p.2, .string p.1.ty, .bool p.1.ls, .bool p.1.bg]
  | [], p => rfl
  | q :: l, p => by simp [fdVs, fdVs_snoc l p]
/-- Fields in a row of their own, the arguments of each in a row of its own. -/
structure FdsAt (base : Nat) (W : World) (v : Value) (ps : List (G.Fd × Value)) : Prop where
  own : W.ownsRow base 53 5 v ps.length (fdVs ps)
  each : ∀ i (h : i < ps.length), W.ownsRow base 79 2 ps[i].2 ps[i].1.args.length (agVs ps[i].1.args)
  apart : ∀ i j (hi : i < ps.length) (hj : j < ps.length), i ≠ j → ∀ g, ps[i].2.ownBlock = some g → ps[j].2.ownBlock ≠ some g
theorem FdsAt.start (base : Nat) (W : World) : FdsAt base W (.slice none 0 0) [] := ⟨⟨rfl, .inl ⟨rfl, rfl⟩⟩, fun i h => absurd h (by simp), fun i j h => absurd h (by simp)⟩
theorem FdsAt.grow {base : Nat} {W W' : World} {v : Value} {ps : List (G.Fd × Value)} {L : Nat} (h : FdsAt base W v ps) (hg : W.grownBy W' (some L)) (hL : L < base) : FdsAt base W' v ps :=
  ⟨own_grown h.own hg hL, fun i hi => own_grown (h.each i hi) hg hL, h.apart⟩
theorem own_keepT {w w' : World} {base : Nat} {e : TypeId} {size : Nat} {v : Value} {n : Nat} {xs : List Value} (h : w.ownsRow base e size v n xs) (hs : ∀ g, v.ownBlock = some g → w'.heap[g]? = w.heap[g]?) : w'.ownsRow base e size v n xs := by
  refine ⟨h.1, ?_⟩
  rcases h.2 with h0 | ⟨g, cap, cur, rfl, q1, q2, q3⟩
  · exact .inl h0
  · exact .inr ⟨g, cap, cur, rfl, q1, (hs g rfl).trans q2, q3⟩
theorem own_types {w : World} {b1 b2 : Nat} {e1 e2 : TypeId} {s1 s2 : Nat} {v1 v2 : Value} {n1 n2 : Nat} {xs1 xs2 : List Value} (h1 : w.ownsRow b1 e1 s1 v1 n1 xs1) (h2 : w.ownsRow b2 e2 s2 v2 n2 xs2) (hne : e1 ≠ e2) {g : Nat} (hg : v1.ownBlock = some g) : v2.ownBlock ≠ some g := by
  intro he
  rcases h1.2 with ⟨rfl, _⟩ | ⟨g1, c1, u1, rfl, _, q1, _⟩
  · simp [Value.ownBlock] at hg
  · rcases h2.2 with ⟨rfl, _⟩ | ⟨g2, c2, u2, rfl, _, q2, _⟩
    · simp [Value.ownBlock] at he
    · simp only [Value.ownBlock, Option.some.injEq] at hg he
      subst hg
      subst he
      rw [q1] at q2
      simp only [Option.some.injEq, Obj.cells.injEq] at q2
      exact hne q2.2.1
theorem FdsAt.keep {base : Nat} {W W' : World} {v : Value} {ps : List (G.Fd × Value)} (h : FdsAt base W v ps) (hk : ∀ g, base ≤ g → g < W.heap.size → W'.heap[g]? = W.heap[g]?) : FdsAt base W' v ps :=
  ⟨own_keepT h.own fun g hg => hk g (World.ownsRow.lt h.own g hg).1 (World.ownsRow.lt h.own g hg).2, fun i hi => own_keepT (h.each i hi) fun g hg => hk g (World.ownsRow.lt (h.each i hi) g hg).1 (World.ownsRow.lt (h.each i hi) g hg).2, h.apart⟩
/-- A field more. -/
theorem FdsAt.push {base N : Nat} {W U W8 : World} {v v' av : Value} {ps : List (G.Fd × Value)} {x : G.Fd} (h : FdsAt base W v ps) (hN : ∀ i (hi : i < ps.length) g, ps[i].2.ownBlock = some g → g < N) (hb : base ≤ N) (hav : W.ownsRow N 79 2 av x.args.length (agVs x.args)) (hU : Below W.heap.size W U) (hg : U.grownBy W8 v.ownBlock)
    (ho : W8.ownsRow base 53 5 v' (ps.length + 1) (fdVs ps ++ [.string x.nm, av, .string x.ty, .bool x.ls, .bool x.bg])) : FdsAt base W8 v' (ps ++ [(x, av)]) := by
  have kp : ∀ g, g < W.heap.size → v.ownBlock ≠ some g → W8.heap[g]? = W.heap[g]? := fun g h1 h2 => (hg.block g (by have := hU.size; omega) (fun e => h2 e.symm)).trans (hU.block g h1)
  have hi0 : ∀ i (hi : i < (ps ++ [(x, av)]).length), (∃ h' : i < ps.length, (ps ++ [(x, av)])[i] = ps[i]) ∨ (i = ps.length ∧ (ps ++ [(x, av)])[i] = (x, av)) := fun i hi => by
    by_cases h' : i < ps.length
    · exact .inl ⟨h', List.getElem_append_left h'⟩
    · have hi' : i = ps.length := by simp at hi; omega
      subst hi'
      refine .inr ⟨rfl, ?_⟩
      rw [List.getElem_append_right (Nat.le_refl _)]; simp
  have hty : (53 : TypeId) ≠ 79 := by decide
  refine ⟨by rw [fdVs_snoc, List.length_append]; exact ho, fun i hi => ?_, fun i j hi hj hne g hg1 hg2 => ?_⟩
  · rcases hi0 i hi with ⟨h', e⟩ | ⟨_, e⟩
    · rw [e]
      exact own_keepT (h.each i h') fun g hg' => kp g (World.ownsRow.lt (h.each i h') g hg').2 (fun e' => own_types h.own (h.each i h') hty e' hg')
    · rw [e]
      exact own_base (own_keepT hav fun g hg' => kp g (World.ownsRow.lt hav g hg').2 (fun e' => own_types h.own hav hty e' hg')) hb
  · rcases hi0 i hi with ⟨h1, e1⟩ | ⟨h1, e1⟩ <;> rcases hi0 j hj with ⟨h2, e2⟩ | ⟨h2, e2⟩ <;> rw [e1] at hg1 <;> rw [e2] at hg2
    · exact h.apart i j h1 h2 hne g hg1 hg2
    · have := hN i h1 g hg1
      have := (World.ownsRow.lt hav g hg2).1
      omega
    · have := hN j h2 g hg2
      have := (World.ownsRow.lt hav g hg1).1
      omega
    · omega
def rbrc (l : List Tk) (i : Nat) : Bool := tkE (nxT l i) ⟨4, 0, ⟨#[125]⟩⟩
/-- A type at a place. -/
def TdR (l : List Tk) (i : Nat) (r : Option (G.Td × Nat)) : Prop :=
  ((nmI l i).toList ≠ (⟨#[116, 121, 112, 101]⟩ : ByteArray).toList ∧ r = none) ∨ ((nmI l i).toList = (⟨#[116, 121, 112, 101]⟩ : ByteArray).toList ∧ (((nmI l (i + 1)).toList = [] ∧ r = none) ∨ ((nmI l (i + 1)).toList ≠ [] ∧
    ((tkE (nxT l (i + 1 + 1)) ⟨4, 0, ⟨#[123]⟩⟩ = false ∧ r = none) ∨ (tkE (nxT l (i + 1 + 1)) ⟨4, 0, ⟨#[123]⟩⟩ = true ∧ ∃ r', Many (rbrc l) (FdR l) (i + 1 + 1 + 1) r' ∧ ((r' = none ∧ r = none) ∨ ∃ fs j, r' = some (fs, j) ∧ r = some (⟨nmI l (i + 1), fs⟩, j)))))))
/-- A type while it is read. -/
structure TdS (ex : Array Value) (w : World) (L R A : Nat) (a : Option Addr) (c : Nat) (l : List Tk) (j : Nat) (nm : ByteArray) (v : Value) (ps : List (G.Fd × Value)) (W : World) : Prop where
  rd : RdSt 37 ex W L a c l j
  r : W.heap[R]? = some (.cells #[.string ⟨#[]⟩, .slice none 0 0] 49 (0, 0))
  bx : W.heap[A]? = some (.cells #[.string nm, v] 49 (0, 0))
  gr : w.grownBy W (some L)
  fs : FdsAt w.heap.size W v ps
  hL : L < w.heap.size
  hR : w.heap.size ≤ R
  hA : R < A
theorem TdS.call {ex : Array Value} {w : World} {L R A c j j' : Nat} {a : Option Addr} {l : List Tk} {nm : ByteArray} {v : Value} {ps : List (G.Fd × Value)} {W W' : World} (h : TdS ex w L R A a c l j nm v ps W) (hr : RdSt 37 ex W' L a c l j') (hg : W.grownBy W' (some L)) : TdS ex w L R A a c l j' nm v ps W' :=
  ⟨hr, grown_keeps h.r (Array.getElem?_eq_some_iff.1 h.r).1 hg (by have := h.hL; have := h.hR; omega), grown_keeps h.bx (Array.getElem?_eq_some_iff.1 h.bx).1 hg (by have := h.hL; have := h.hR; have := h.hA; omega), grown_trans h.gr hg, h.fs.grow hg h.hL, h.hL, h.hR, h.hA⟩
theorem TdS.same {ex : Array Value} {w : World} {L R A c j : Nat} {a : Option Addr} {l : List Tk} {nm : ByteArray} {v : Value} {ps : List (G.Fd × Value)} {W : World} (h : TdS ex w L R A a c l j nm v ps W) : TdS ex w L R A a c l j nm v ps W.drew :=
  h.call (h.rd.keep fun _ _ => rfl) (grown_drew (grown_refl W _))
def tdV (nm : ByteArray) (v : Value) : Value := .agg #[.string nm, v]
/-- A type is told, its fields rows of its own. -/
def TdIs (ex : Array Value) (L : Nat) (a : Option Addr) (c : Nat) (l : List Tk) (i : Nat) (w : World) (e : Ending) (w' : World) : Prop :=
  (∃ r, TdR l i r ∧ ((∃ nm ps j a' c', r = some (⟨nm, ps.map (·.1)⟩, j) ∧ e = .returned (tdV nm (.slice a' ps.length c')) ∧ FdsAt w.heap.size w' (.slice a' ps.length c') ps ∧ RdSt 37 ex w' L a c l j) ∨ (r = none ∧ badF e))) ∧ w.grownBy w' (some L)
theorem results_typeDef (tmps : Array Value) (W : World) (N : Nat) (cs : Array Value) (h2 : tmps.getD 2 undef = .pointer (some ⟨N, 0, none⟩)) (hrow : W.heap[N]? = some (.cells cs 49 (0, 0))) (hsz : cs.size = 2) :
    (results Tryz.f28 tmps).run Tryz.prog W = .ok (.agg cs) W := by
  have c39 : (Tryz.prog.info? 49).map (·.size) = some 2 := by kernel_rfl
  exact results_cell_row Tryz.results28 tmps W N 49 cs (0, 0) _ h2 hrow Tryz.underlying49 rfl (by rw [hsz]; exact c39)
theorem info_fdd : ∃ i, Tryz.prog.info? 53 = some i ∧ i.zero = some (.agg #[.string ⟨#[]⟩, .slice none 0 0, .string ⟨#[]⟩, .bool false, .bool false]) ∧ i.size = 5 ∧ i.bytes = 64 := by
  exact info_partsS (by kernel_rfl)
/-- A field was read inside the round: what is known of it. -/
structure GotF (ex : Array Value) (w wd : World) (L R A : Nat) (a : Option Addr) (c : Nat) (l : List Tk) (k : Nat) (nm : ByteArray) (v : Value) (ps : List (G.Fd × Value)) (x : G.Fd) (q : Nat) (aA : Option Addr) (cA : Nat) (W : World) : Prop where
  st : TdS ex w L R A a c l q nm v ps W
  fd : FdR l k (some (x, q))
  av : W.ownsRow wd.heap.size 79 2 (.slice aA x.args.length cA) x.args.length (agVs x.args)
structure PutF (ex : Array Value) (w wd : World) (L R A : Nat) (a : Option Addr) (c : Nat) (l : List Tk) (k : Nat) (nm : ByteArray) (v : Value) (ps : List (G.Fd × Value)) (x : G.Fd) (q : Nat) (aA : Option Addr) (cA g8 cap8 : Nat) (W : World) : Prop where
  rd : RdSt 37 ex W L a c l q
  r : W.heap[R]? = some (.cells #[.string ⟨#[]⟩, .slice none 0 0] 49 (0, 0))
  bx : W.heap[A]? = some (.cells #[.string nm, v] 49 (0, 0))
  gr : w.grownBy W (some L)
  fs : FdsAt w.heap.size W (.slice (some ⟨g8, 0, none⟩) (ps.length + 1) cap8) (ps ++ [(x, .slice aA x.args.length cA)])
  fd : FdR l k (some (x, q))
abbrev fdC (x : G.Fd) (aA : Option Addr) (cA : Nat) : Array Value := #[.string x.nm, .slice aA x.args.length cA, .string x.ty, .bool x.ls, .bool x.bg]
/-- The field that was read is appended. -/
theorem GotF.put {ex : Array Value} {w wd : World} {L R A c k q cA : Nat} {a aA av : Option Addr} {l : List Tk} {nm : ByteArray} {nv cv : Nat} {ps : List (G.Fd × Value)} {x : G.Fd} {W : World} (h : GotF ex w wd L R A a c l k nm (.slice av ps.length cv) ps x q aA cA W) (hwd : w.heap.size ≤ wd.heap.size) (hN : ∀ i (hi : i < ps.length) g, ps[i].2.ownBlock = some g → g < wd.heap.size) (hl : ps.length + 1 ≤ 1048576) :
    ∃ g8 cap8 W8, (Builtin.append_ #[47, 47] 47 #[.slice av ps.length cv, .slice (some ⟨W.heap.size, 0, none⟩) 1 1]).run Tryz.prog (W.alloc (.cells (fdC x aA cA) 53)) = .ok (.slice (some ⟨g8, 0, none⟩) (ps.length + 1) cap8) W8 ∧ PutF ex w wd L R A a c l k nm (.slice av ps.length cv) ps x q aA cA g8 cap8 W8 := by
  obtain ⟨ig, hig, hzg, hsg, hbg⟩ := info_fdd
  obtain ⟨U, hU⟩ : ∃ U, U = W.alloc (.cells (fdC x aA cA) 53) := ⟨_, rfl⟩
  have BU : Below W.heap.size W U := by rw [hU]; exact (Below.refl _ _).alloc (Nat.le_refl _) _
  have cU : U.heap[W.heap.size]? = some (.cells (fdC x aA cA) 53 (0, 0)) := by rw [hU]; exact heap_alloc_new _ _
  have gs := h.st.gr.size
  have hsz := BU.size
  have O3 : U.ownsRow w.heap.size 53 5 (.slice av ps.length cv) ps.length (fdVs ps) := own_keepT h.st.fs.own fun g hg => BU.block g (World.ownsRow.lt h.st.fs.own g hg).2
  obtain ⟨g8, cap8, W8, hrun, o8, gr8, hat8, hlt8⟩ := run_append_lies (P := Tryz.prog) U 47 47 w.heap.size 53 ig _ 5 64 Tryz.underlying47 hig hzg hsg hbg rfl (by decide) (.slice av ps.length cv) ps.length (fdVs ps) O3 ⟨W.heap.size, 0, none⟩ 1 1 (fdC x aA cA).toList rfl (fun t u ht => by
    rw [add_plain]
    have := row_cell cU (0 + t)
    rw [this, ← ht]
    simp) (fun u hu => by
      simp only [List.mem_cons, List.not_mem_nil, or_false] at hu
      rcases hu with rfl | rfl | rfl | rfl | rfl <;> rfl) (by omega) (by unfold maxLen; omega) (by omega) (by omega) _ rfl
  rw [← hU]
  refine ⟨g8, cap8, W8, hrun, ?_⟩
  have off : ∀ g, (Value.slice av ps.length cv).ownBlock = some g → w.heap.size ≤ g := fun g hg => (World.ownsRow.lt O3 g hg).1
  have kp : ∀ g, g < W.heap.size → (Value.slice av ps.length cv).ownBlock ≠ some g → W8.heap[g]? = W.heap[g]? := fun g h1 h2 => (gr8.block g (by omega) (fun e => h2 e.symm)).trans (BU.block g h1)
  have hL := h.st.hL
  have nty : ∀ g cs, W.heap[g]? = some (.cells cs 49 (0, 0)) → (Value.slice av ps.length cv).ownBlock ≠ some g := fun g cs hc he => by
    rcases h.st.fs.own.2 with ⟨e1, _⟩ | ⟨g1, c1, u1, e1, _, q1, _⟩
    · rw [e1] at he; simp [Value.ownBlock] at he
    · rw [e1] at he
      simp only [Value.ownBlock, Option.some.injEq] at he
      rw [he, hc] at q1
      simp at q1
  refine ⟨h.st.rd.keep fun g hg => kp g (by have := h.st.rd.lt; omega) (fun e => by have := off g e; omega), (kp R (Array.getElem?_eq_some_iff.1 h.st.r).1 (nty R _ h.st.r)).trans h.st.r, (kp A (Array.getElem?_eq_some_iff.1 h.st.bx).1 (nty A _ h.st.bx)).trans h.st.bx, grown_append (grown_below h.st.gr BU) gr8 off, ?_, h.fd⟩
  exact h.st.fs.push hN hwd h.av BU gr8 o8
/-- The round's drawing region: what is done, and the world then. -/
def TyJ (ex : Array Value) (w wd : World) (L R A : Nat) (a : Option Addr) (c : Nat) (l : List Tk) (k : Nat) (nm : ByteArray) (v : Value) (ps : List (G.Fd × Value)) (D : Array Bool) (u : Nat → Value) (W : World) : Prop :=
  (D.getD 3 false = false ∧ D.getD 4 false = false ∧ D.getD 5 false = false ∧ W = wd) ∨
  (D.getD 3 false = true ∧ D.getD 4 false = false ∧ D.getD 5 false = false ∧ ∃ x q aA cA, GotF ex w wd L R A a c l k nm v ps x q aA cA W ∧ u 25 = .agg (fdC x aA cA)) ∨
  (D.getD 3 false = true ∧ D.getD 4 false = true ∧ D.getD 5 false = false ∧ ∃ x q aA cA W3, GotF ex w wd L R A a c l k nm v ps x q aA cA W3 ∧ W = W3.alloc (.cells (fdC x aA cA) 53) ∧ u 26 = .slice (some ⟨W3.heap.size, 0, none⟩) 1 1) ∨
  (D.getD 3 false = true ∧ D.getD 4 false = true ∧ D.getD 5 false = true ∧ ∃ x q aA cA g8 cap8, PutF ex w wd L R A a c l k nm v ps x q aA cA g8 cap8 W ∧ u 27 = .slice (some ⟨g8, 0, none⟩) (ps.length + 1) cap8)
theorem TyJ.other {ex : Array Value} {w wd : World} {L R A c k : Nat} {a : Option Addr} {l : List Tk} {nm : ByteArray} {v : Value} {ps : List (G.Fd × Value)} {D : Array Bool} {u : Nat → Value} {W : World} (h : TyJ ex w wd L R A a c l k nm v ps D u W) {i d : Nat} {y : Value} (h3 : i ≠ 3) (h4 : i ≠ 4) (h5 : i ≠ 5) (d1 : d ≠ 25) (d2 : d ≠ 26) (d3 : d ≠ 27) : TyJ ex w wd L R A a c l k nm v ps (D.setIfInBounds i true) (G.upd u d y) W := by
  unfold TyJ at h ⊢
  rw [getD_set_ne false h3, getD_set_ne false h4, getD_set_ne false h5, G.upd_ne _ _ (Ne.symm d1), G.upd_ne _ _ (Ne.symm d2), G.upd_ne _ _ (Ne.symm d3)]
  exact h
theorem TyJ.box {ex : Array Value} {w wd : World} {L R A c k : Nat} {a : Option Addr} {l : List Tk} {nm : ByteArray} {v : Value} {ps : List (G.Fd × Value)} {D : Array Bool} {u : Nat → Value} {W : World} (h : TyJ ex w wd L R A a c l k nm v ps D u W) (hb : wd.heap[A]? = some (.cells #[.string nm, v] 49 (0, 0))) : W.heap[A]? = some (.cells #[.string nm, v] 49 (0, 0)) := by
  rcases h with ⟨_, _, _, rfl⟩ | ⟨_, _, _, x, q, aA, cA, g, _⟩ | ⟨_, _, _, x, q, aA, cA, W3, g, rfl, _⟩ | ⟨_, _, _, x, q, aA, cA, g8, cap8, g, _⟩
  · exact hb
  · exact g.st.bx
  · rw [Below.heap_alloc _ _ _ (by have := (Array.getElem?_eq_some_iff.1 g.st.bx).1; omega)]; exact g.st.bx
  · exact g.bx
end Go.Proofs.YtnfoinmccigdfaaGreatDoor
